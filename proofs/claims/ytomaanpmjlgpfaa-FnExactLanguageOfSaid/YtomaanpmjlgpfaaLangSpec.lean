/-
  The model's l3In, InLanguage and IsEmptyShift: at every shift in memory they answer as the plain words say; nothing that was there before is changed.
-/
import Derived.Test.YtomaanpmjlgpfaaPairsSpec
import Derived.Test.YtomaanpmjlgpfaaShiftLaws
namespace Go.Proofs.Ytomaanpmjlgpfaa
open Go Go.RowKit

set_option maxRecDepth 100000 in
set_option maxHeartbeats 1600000 in
theorem spec_l3In (L : Int) (G : Option Addr) (c : Nat) (ps : List ByteArray) (hl : ps.length ≤ 1048576) (hz : ∀ k, k < ps.length → (ps.getD k ByteArray.empty).size ≤ 2147483648) (A : Option Addr) (cm : Nat) (M : List ByteArray) (hn : M.length ≤ 1000000) (h2 : ∀ x ∈ M, x.size = 2) (x : ByteArray) (hx : x.size ≤ 2147483648) (w : World) (hs : StrsG w G ps) (hm : RowAt w A M) :
    Calls Try.prog 85 #[.agg #[.int .i64 L, .slice G ps.length c], .slice A M.length cm, .string x] w (BoolPost (inM ps M x) w) := by
  have hb := (Below.refl w.heap.size w).alloc (Nat.le_refl _) (.cells #[.int .i64 L, .slice G ps.length c] 49)
  have HB := Lib.hid hb
  have HA := Lib.hid (spec_avoids G c ps x hl hz hx _ (hs.below hb))
  have HM := Lib.hid (hm.below hb)
  have HT := Lib.hid (fun y => spec_hasText A cm M y hn _ (hm.below hb))
  have H2 := Lib.hid h2
  clear hs hz hb hm h2
  go_enter Try.func85, Try.ntmps85
  by_cases h0 : M.length = 0
  · have g0 : ((M.length : Int) == 0) = true := by rw [beq_iff_eq]; omega
    have HR : Hid (inM ps M x = false) := Lib.hid (by unfold inM; rw [decide_eq_true h0]; rfl)
    go_wp2
    go_ret
    exact ⟨by rw [HR.out]; rfl, HB.out⟩
  · have g0 : ((M.length : Int) == 0) = false := beq_eq_false_iff_ne.2 (by omega)
    cases ha : avoids ps x with
    | false =>
      have HR : Hid (inM ps M x = false) := Lib.hid (by unfold inM; rw [ha, Bool.and_false, Bool.false_and])
      rw [ha] at HA
      clear ha
      go_wp2_with fail
      refine HA.out.mono ?_
      rintro e w1 ⟨rfl, rfl⟩
      go_wp2
      go_ret
      exact ⟨by rw [HR.out]; rfl, HB.out⟩
    | true =>
      have HD : Hid (inM ps M x = (if 2 ≤ x.size then Lib.containsS M (x.extract 0 2) && Lib.containsS M (x.extract (x.size - 2) x.size) else M.any fun q => Lib.contains q.data.toList x.data.toList)) := Lib.hid (by
        unfold inM; rw [ha, decide_eq_false h0]; rfl)
      rw [ha] at HA
      clear ha
      by_cases h2 : 2 ≤ x.size
      · have g2 : decide ((2 : Int) ≤ (x.size : Int)) = true := by rw [decide_eq_true_eq]; omega
        rw [if_pos h2] at HD
        have HT1 := Lib.hid (HT.out (x.extract 0 2))
        have HT2 := Lib.hid (HT.out (x.extract (x.size - 2) x.size))
        have e2 : ((x.size : Int) - 2).toNat = x.size - 2 := by omega
        cases hc : Lib.containsS M (x.extract 0 2) with
        | false =>
          rw [hc] at HT1 HD
          clear hc
          go_wp2_with fail
          refine HA.out.mono ?_
          rintro e w1 ⟨rfl, rfl⟩
          go_wp2_with fail
          refine HT1.out.mono ?_
          rintro e w2 ⟨rfl, rfl⟩
          go_wp2
          go_ret
          exact ⟨by rw [HD.out]; rfl, HB.out⟩
        | true =>
          rw [hc] at HT1 HD
          rw [Bool.true_and] at HD
          clear hc
          go_wp2_with fail
          refine HA.out.mono ?_
          rintro e w1 ⟨rfl, rfl⟩
          go_wp2_with fail
          refine HT1.out.mono ?_
          rintro e w2 ⟨rfl, rfl⟩
          go_wp2_with fail
          refine HT2.out.mono ?_
          rintro e w3 ⟨rfl, rfl⟩
          go_wp2
          go_ret
          exact ⟨by rw [HD.out]; rfl, HB.out⟩
      · have g2 : decide ((2 : Int) ≤ (x.size : Int)) = false := by rw [decide_eq_false_iff_not]; omega
        rw [if_neg h2] at HD
        go_wp2_with fail
        refine HA.out.mono ?_
        rintro e w1 ⟨rfl, rfl⟩
        go_wp2
        go_loop [7] (fun i => ∃ k : Nat, k ≤ M.length ∧ i = .int .i64 k ∧ Hid (∀ j, j < k → Lib.contains (M.getD j ByteArray.empty).data.toList x.data.toList = false)) (fun i => M.length - (intOf i).toNat)
        case atStart => exact ⟨0, Nat.zero_le _, rfl, Lib.hid (fun j h => by omega)⟩
        case round =>
          obtain ⟨k, hk, rfl, hto⟩ := hrel
          by_cases hlt : k < M.length
          · obtain ⟨gm, rfl, hst, hgm⟩ := HM.out (by omega)
            have hc := hst k hlt
            rw [Nat.zero_add] at hc
            have HO := Lib.hid (fun w' => spec_occurs (M.getD k ByteArray.empty) x (by rw [H2.out _ (getD_mem hlt)]; omega) hx w')
            clear hst
            cases he : occ (M.getD k ByteArray.empty) x with
            | true =>
              have HY := Lib.hid (any_yes (f := fun q : ByteArray => Lib.contains q.data.toList x.data.toList) hlt he)
              rw [he] at HO
              clear he
              generalize M.getD k ByteArray.empty = y at *
              go_wp2_with fail
              refine (HO.out _).mono ?_
              rintro e w2 ⟨rfl, rfl⟩
              go_wp2
              go_ret
              exact ⟨by rw [HD.out, HY.out]; rfl, HB.out⟩
            | false =>
              have HN : Hid (∀ j, j < k + 1 → Lib.contains (M.getD j ByteArray.empty).data.toList x.data.toList = false) := Lib.hid (fun j hj => by
                by_cases e : j = k
                · subst e; exact he
                · exact hto.out j (by omega))
              rw [he] at HO
              clear he
              generalize M.getD k ByteArray.empty = y at *
              go_wp2_with fail
              refine (HO.out _).mono ?_
              rintro e w2 ⟨rfl, rfl⟩
              go_wp2
              go_round
              case rel => exact ⟨k + 1, by omega, by go_num, HN⟩
              case measure => simp [intOf]; omega
          · have HY := Lib.hid (any_no (f := fun q : ByteArray => Lib.contains q.data.toList x.data.toList) (M := M) (fun j hj => hto.out j (by omega)))
            go_wp2
            go_ret
            exact ⟨by rw [HD.out, HY.out]; rfl, HB.out⟩
/-! ### InLanguage -/
def inLangS (L : Int) (ps : List ByteArray) (s : ByteArray) : Bool := (isShift L ps && isW L s) && inM ps (pairsW L.toNat ps) s
def emptyT (L : Int) (ps : List ByteArray) : Bool := isShift L ps && decide ((pairsW L.toNat ps).length = 0)
theorem pairsW_two {ps : List ByteArray} {k : Nat} (hk : k ≤ 3) : ∀ x ∈ pairsW k ps, x.size = 2 := by
  intro x hx
  obtain ⟨a, b, rfl, _, _⟩ := mem_pairsW' hk hx
  rfl
theorem pairsW_length {ps : List ByteArray} {k : Nat} (hk : k ≤ 3) : (pairsW k ps).length ≤ 9 := by
  have h1 := keepW_two ps hk
  have h2 : ∀ (n : Nat) (l : List ByteArray), (fixW ps n l).length ≤ l.length := by
    intro n
    induction n with
    | zero => intro l; exact Nat.le_refl _
    | succ n ih =>
      intro l
      unfold fixW
      split
      · exact Nat.le_refl _
      · exact Nat.le_trans (ih _) (stepW_length ps l)
  exact Nat.le_trans (h2 9 _) h1

set_option maxRecDepth 100000 in
set_option maxHeartbeats 6400000 in
theorem spec_inLanguage (L : Int) (G : Option Addr) (c : Nat) (ps : List ByteArray) (s : ByteArray) (hl : ps.length ≤ 1048576) (hz : ∀ k, k < ps.length → (ps.getD k ByteArray.empty).size ≤ 2147483648) (hs2 : s.size ≤ 2147483648) (w : World) (hs : StrsG w G ps) :
    Calls Try.prog 52 #[.agg #[.int .i64 L, .slice G ps.length c], .string s] w (BoolPost (inLangS L ps s) w) := by
  have HS := Lib.hid hs
  have HZ := Lib.hid hz
  have HW := Lib.hid (fun w' => spec_isWord L s (by omega) w')
  clear hs hz
  go_enter Try.func52, Try.ntmps52
  go_wp2_with fail
  obtain ⟨Wb, hWb⟩ : ∃ Wb, w.alloc (.cells #[.int .i64 L, .slice G ps.length c] 49) = Wb := ⟨_, rfl⟩
  have sb : Wb.heap.size = w.heap.size + 1 := by rw [← hWb]; simp
  have xb : BoxAt Wb w.heap.size L (.slice G ps.length c) := by rw [← hWb]; exact boxAt_new w L _ 49
  have bb : Below w.heap.size w Wb := by rw [← hWb]; exact (Below.refl _ _).alloc (Nat.le_refl _) _
  rw [hWb]
  clear hWb
  obtain ⟨x0, x1⟩ := xb
  have BB := Lib.hid bb
  have HST := Lib.hid (fun w' (h : Below Wb.heap.size Wb w') => (show StrsG w' G ps from (HS.out.below bb).below h))
  have HI := Lib.hid (fun w' (h : Below Wb.heap.size Wb w') => spec_isShift L G c ps hl (fun k hk => by have := HZ.out k hk; omega) w' (HST.out w' h))
  clear bb
  cases hi : isShift L ps with
  | false =>
    have HR : Hid (inLangS L ps s = false) := Lib.hid (by unfold inLangS; rw [hi]; rfl)
    rw [hi] at HI
    clear hi
    refine wp_region_held_drew (S := (fun w' => w'.cell? ⟨w.heap.size, 0, none⟩ = some (.int .i64 L) ∧ w'.cell? ⟨w.heap.size, 1, none⟩ = some (.slice G ps.length c))) (by kernel_rfl) ?hS0a (fun hHeld => ?_)
    case hS0a => exact ⟨x0, x1⟩
    refine wpAnyH_take (i := 0) (v := ?v0a) rfl (by kernel_rfl) (by kernel_rfl) (by kernel_rfl) (fun _ _ _ h => h) (Or.inl ⟨by rfl, ?hy0a⟩) (by assumption) ?_
    case hy0a => (intro w hSw; (try dsimp only at hSw); go_simp; try with_reducible rfl)
    try simp only [Act.put, List.setIfInBounds_toArray]
    refine wpAnyH_ready (rs := [1]) (by kernel_rfl) (by simp) ?_
    refine AllReadyH.cons rfl (fun K hK => ?_) AllReadyH.nil
    go_simp
    go_at_call 43
    refine (HI.out _ (Below.refl _ _).drew).mono ?_
    rintro e w2 ⟨rfl, hb2⟩
    have q2 : Below Wb.heap.size Wb w2 := (Below.refl Wb.heap.size Wb).drew.trans hb2
    have z0 := (q2.cell (p := ⟨w.heap.size, 0, none⟩) (by show w.heap.size < Wb.heap.size; omega)).trans x0
    have z1 := (q2.cell (p := ⟨w.heap.size, 1, none⟩) (by show w.heap.size < Wb.heap.size; omega)).trans x1
    go_wp2_with fail
    refine hK.out _ _ ?hS1a (fun hHeld => ?_)
    case hS1a => (try dsimp only); exact ⟨z0, z1⟩
    clear hK K
    try simp only [Act.put, List.setIfInBounds_toArray, List.set_cons_zero, List.set_cons_succ]
    refine wpAnyH_take (i := 2) (v := ?v2a) rfl (by kernel_rfl) (by kernel_rfl) (by kernel_rfl) (fun _ _ _ h => h) (Or.inl ⟨by rfl, ?hy2a⟩) (by assumption) ?_
    case hy2a => (intro w hSw; (try dsimp only at hSw); go_simp; try with_reducible rfl)
    try simp only [Act.put, List.setIfInBounds_toArray]
    refine wpAnyH_take (i := 3) (v := undef) rfl (by kernel_rfl) (by kernel_rfl) (by kernel_rfl) (fun _ _ _ h => h) (Or.inr ⟨by rfl, rfl⟩) (by assumption) ?_
    try simp only [Act.put]
    refine wpAnyH_take (i := 4) (v := undef) rfl (by kernel_rfl) (by kernel_rfl) (by kernel_rfl) (fun _ _ _ h => h) (Or.inr ⟨by rfl, rfl⟩) (by assumption) ?_
    try simp only [Act.put]
    refine wpAnyH_take (i := 5) (v := undef) rfl (by kernel_rfl) (by kernel_rfl) (by kernel_rfl) (fun _ _ _ h => h) (Or.inr ⟨by rfl, rfl⟩) (by assumption) ?_
    try simp only [Act.put]
    refine wpAnyH_ready (rs := [6]) (by kernel_rfl) (by simp) ?_
    refine AllReadyH.cons rfl (fun K hK => ?_) AllReadyH.nil
    go_simp
    refine hK.out _ _ ?hS6a (fun hHeld => ?_)
    case hS6a => (try dsimp only); exact ⟨z0, z1⟩
    clear hK K
    try simp only [Act.put, List.setIfInBounds_toArray, List.set_cons_zero, List.set_cons_succ]
    refine wpAnyH_take (i := 7) (v := ?v7a) rfl (by kernel_rfl) (by kernel_rfl) (by kernel_rfl) (fun _ _ _ h => h) (Or.inl ⟨by rfl, ?hy7a⟩) (by assumption) ?_
    case hy7a => (intro w hSw; (try dsimp only at hSw); go_simp; try with_reducible rfl)
    try simp only [Act.put, List.setIfInBounds_toArray]
    refine wpAnyH_take (i := 8) (v := ?v8a) rfl (by kernel_rfl) (by kernel_rfl) (by kernel_rfl) (fun _ _ _ h => h) (Or.inl ⟨by rfl, ?hy8a⟩) (by assumption) ?_
    case hy8a => (intro w hSw; (try dsimp only at hSw); go_simp; try with_reducible rfl)
    try simp only [Act.put]
    refine wpAnyH_take (i := 9) (v := undef) rfl (by kernel_rfl) (by kernel_rfl) (by kernel_rfl) (fun _ _ _ h => h) (Or.inr ⟨by rfl, rfl⟩) (by assumption) ?_
    try simp only [Act.put]
    refine wpAnyH_take (i := 10) (v := undef) rfl (by kernel_rfl) (by kernel_rfl) (by kernel_rfl) (fun _ _ _ h => h) (Or.inr ⟨by rfl, rfl⟩) (by assumption) ?_
    try simp only [Act.put]
    refine wpAnyH_take (i := 12) (v := undef) rfl (by kernel_rfl) (by kernel_rfl) (by kernel_rfl) (fun _ _ _ h => h) (Or.inr ⟨by rfl, rfl⟩) (by assumption) ?_
    try simp only [Act.put]
    refine wpAnyH_ready (rs := [11]) (by kernel_rfl) (by simp) ?_
    refine AllReadyH.cons rfl (fun K hK => ?_) AllReadyH.nil
    go_simp
    refine hK.out _ _ ?hS11a (fun hHeld => ?_)
    case hS11a => (try dsimp only); exact ⟨z0, z1⟩
    clear hK K
    try simp only [Act.put, List.setIfInBounds_toArray, List.set_cons_zero, List.set_cons_succ]
    refine wpAnyH_ready (rs := [13]) (by kernel_rfl) (by simp) ?_
    refine AllReadyH.cons rfl (fun K hK => ?_) AllReadyH.nil
    go_simp
    refine hK.out _ _ ?hS13a (fun hHeld => ?_)
    case hS13a => (try dsimp only); exact ⟨z0, z1⟩
    clear hK K
    try simp only [Act.put, List.setIfInBounds_toArray, List.set_cons_zero, List.set_cons_succ]
    refine wpAnyH_take (i := 14) (v := ?v14a) rfl (by kernel_rfl) (by kernel_rfl) (by kernel_rfl) (fun _ _ _ h => h) (Or.inl ⟨by rfl, ?hy14a⟩) (by assumption) ?_
    case hy14a => (intro w hSw; (try dsimp only at hSw); go_simp; try with_reducible rfl)
    try simp only [Act.put, List.setIfInBounds_toArray]
    refine wpAnyH_ready (rs := [15]) (by kernel_rfl) (by simp) ?_
    refine AllReadyH.cons rfl (fun K hK => ?_) AllReadyH.nil
    go_simp
    refine hK.out _ _ ?hS15a (fun hHeld => ?_)
    case hS15a => (try dsimp only); exact ⟨z0, z1⟩
    clear hK K
    try simp only [Act.put, List.setIfInBounds_toArray, List.set_cons_zero, List.set_cons_succ]
    refine wpAnyH_done (by kernel_rfl) ?_ _
    go_wp2
    go_ret
    exact ⟨by rw [HR.out]; rfl, BB.out.trans (q2.mono (by omega))⟩
  | true =>
    obtain ⟨l1, l3, _⟩ := isShift_letters hi
    rw [hi] at HI
    cases hw : isW L s with
    | false =>
      have HR : Hid (inLangS L ps s = false) := Lib.hid (by unfold inLangS; rw [hw, Bool.and_false]; rfl)
      rw [hw] at HW
      clear hi hw
      refine wp_region_held_drew (S := (fun w' => w'.cell? ⟨w.heap.size, 0, none⟩ = some (.int .i64 L) ∧ w'.cell? ⟨w.heap.size, 1, none⟩ = some (.slice G ps.length c))) (by kernel_rfl) ?hS0b (fun hHeld => ?_)
      case hS0b => exact ⟨x0, x1⟩
      refine wpAnyH_take (i := 0) (v := ?v0b) rfl (by kernel_rfl) (by kernel_rfl) (by kernel_rfl) (fun _ _ _ h => h) (Or.inl ⟨by rfl, ?hy0b⟩) (by assumption) ?_
      case hy0b => (intro w hSw; (try dsimp only at hSw); go_simp; try with_reducible rfl)
      try simp only [Act.put, List.setIfInBounds_toArray]
      refine wpAnyH_ready (rs := [1]) (by kernel_rfl) (by simp) ?_
      refine AllReadyH.cons rfl (fun K hK => ?_) AllReadyH.nil
      go_simp
      go_at_call 43
      refine (HI.out _ (Below.refl _ _).drew).mono ?_
      rintro e w2 ⟨rfl, hb2⟩
      have q2 : Below Wb.heap.size Wb w2 := (Below.refl Wb.heap.size Wb).drew.trans hb2
      have z0 := (q2.cell (p := ⟨w.heap.size, 0, none⟩) (by show w.heap.size < Wb.heap.size; omega)).trans x0
      have z1 := (q2.cell (p := ⟨w.heap.size, 1, none⟩) (by show w.heap.size < Wb.heap.size; omega)).trans x1
      go_wp2_with fail
      refine hK.out _ _ ?hS1b (fun hHeld => ?_)
      case hS1b => (try dsimp only); exact ⟨z0, z1⟩
      clear hK K
      try simp only [Act.put, List.setIfInBounds_toArray, List.set_cons_zero, List.set_cons_succ]
      refine wpAnyH_take (i := 2) (v := ?v2b) rfl (by kernel_rfl) (by kernel_rfl) (by kernel_rfl) (fun _ _ _ h => h) (Or.inl ⟨by rfl, ?hy2b⟩) (by assumption) ?_
      case hy2b => (intro w hSw; (try dsimp only at hSw); go_simp; try with_reducible rfl)
      try simp only [Act.put, List.setIfInBounds_toArray]
      refine wpAnyH_take (i := 3) (v := ?v3b) rfl (by kernel_rfl) (by kernel_rfl) (by kernel_rfl) (fun _ _ _ h => h) (Or.inl ⟨by rfl, ?hy3b⟩) (by assumption) ?_
      case hy3b => (intro w hSw; (try dsimp only at hSw); go_simp; try with_reducible rfl)
      try simp only [Act.put]
      refine wpAnyH_take (i := 4) (v := ?v4b) rfl (by kernel_rfl) (by kernel_rfl) (by kernel_rfl) (fun _ _ _ h => h) (Or.inl ⟨by rfl, ?hy4b⟩) (by assumption) ?_
      case hy4b => (intro w hSw; (try dsimp only at hSw); go_simp; try with_reducible rfl)
      try simp only [Act.put]
      refine wpAnyH_take (i := 5) (v := ?v5b) rfl (by kernel_rfl) (by kernel_rfl) (by kernel_rfl) (fun _ _ _ h => h) (Or.inl ⟨by rfl, ?hy5b⟩) (by assumption) ?_
      case hy5b => (intro w hSw; (try dsimp only at hSw); go_simp; try with_reducible rfl)
      try simp only [Act.put]
      refine wpAnyH_ready (rs := [6]) (by kernel_rfl) (by simp) ?_
      refine AllReadyH.cons rfl (fun K hK => ?_) AllReadyH.nil
      go_simp
      go_at_call 34
      refine (HW.out _).mono ?_
      rintro e w3 ⟨rfl, rfl⟩
      go_wp2_with fail
      refine hK.out _ _ ?hS6b (fun hHeld => ?_)
      case hS6b => (try dsimp only); exact ⟨z0, z1⟩
      clear hK K
      try simp only [Act.put, List.setIfInBounds_toArray, List.set_cons_zero, List.set_cons_succ]
      refine wpAnyH_take (i := 7) (v := ?v7b) rfl (by kernel_rfl) (by kernel_rfl) (by kernel_rfl) (fun _ _ _ h => h) (Or.inl ⟨by rfl, ?hy7b⟩) (by assumption) ?_
      case hy7b => (intro w hSw; (try dsimp only at hSw); go_simp; try with_reducible rfl)
      try simp only [Act.put, List.setIfInBounds_toArray]
      refine wpAnyH_take (i := 8) (v := ?v8b) rfl (by kernel_rfl) (by kernel_rfl) (by kernel_rfl) (fun _ _ _ h => h) (Or.inl ⟨by rfl, ?hy8b⟩) (by assumption) ?_
      case hy8b => (intro w hSw; (try dsimp only at hSw); go_simp; try with_reducible rfl)
      try simp only [Act.put]
      refine wpAnyH_take (i := 9) (v := undef) rfl (by kernel_rfl) (by kernel_rfl) (by kernel_rfl) (fun _ _ _ h => h) (Or.inr ⟨by rfl, rfl⟩) (by assumption) ?_
      try simp only [Act.put]
      refine wpAnyH_take (i := 10) (v := undef) rfl (by kernel_rfl) (by kernel_rfl) (by kernel_rfl) (fun _ _ _ h => h) (Or.inr ⟨by rfl, rfl⟩) (by assumption) ?_
      try simp only [Act.put]
      refine wpAnyH_take (i := 12) (v := undef) rfl (by kernel_rfl) (by kernel_rfl) (by kernel_rfl) (fun _ _ _ h => h) (Or.inr ⟨by rfl, rfl⟩) (by assumption) ?_
      try simp only [Act.put]
      refine wpAnyH_ready (rs := [11]) (by kernel_rfl) (by simp) ?_
      refine AllReadyH.cons rfl (fun K hK => ?_) AllReadyH.nil
      go_simp
      refine hK.out _ _ ?hS11b (fun hHeld => ?_)
      case hS11b => (try dsimp only); exact ⟨z0, z1⟩
      clear hK K
      try simp only [Act.put, List.setIfInBounds_toArray, List.set_cons_zero, List.set_cons_succ]
      refine wpAnyH_ready (rs := [13]) (by kernel_rfl) (by simp) ?_
      refine AllReadyH.cons rfl (fun K hK => ?_) AllReadyH.nil
      go_simp
      refine hK.out _ _ ?hS13b (fun hHeld => ?_)
      case hS13b => (try dsimp only); exact ⟨z0, z1⟩
      clear hK K
      try simp only [Act.put, List.setIfInBounds_toArray, List.set_cons_zero, List.set_cons_succ]
      refine wpAnyH_take (i := 14) (v := ?v14b) rfl (by kernel_rfl) (by kernel_rfl) (by kernel_rfl) (fun _ _ _ h => h) (Or.inl ⟨by rfl, ?hy14b⟩) (by assumption) ?_
      case hy14b => (intro w hSw; (try dsimp only at hSw); go_simp; try with_reducible rfl)
      try simp only [Act.put, List.setIfInBounds_toArray]
      refine wpAnyH_ready (rs := [15]) (by kernel_rfl) (by simp) ?_
      refine AllReadyH.cons rfl (fun K hK => ?_) AllReadyH.nil
      go_simp
      refine hK.out _ _ ?hS15b (fun hHeld => ?_)
      case hS15b => (try dsimp only); exact ⟨z0, z1⟩
      clear hK K
      try simp only [Act.put, List.setIfInBounds_toArray, List.set_cons_zero, List.set_cons_succ]
      refine wpAnyH_done (by kernel_rfl) ?_ _
      go_wp2
      go_ret
      exact ⟨by rw [HR.out]; rfl, BB.out.trans (q2.mono (by omega))⟩
    | true =>
      have HR : Hid (inLangS L ps s = inM ps (pairsW L.toNat ps) s) := Lib.hid (by unfold inLangS; rw [hi, hw]; rfl)
      rw [hw] at HW
      have eL : ((L.toNat : Nat) : Int) = L := by omega
      have HP := Lib.hid (fun w' (h : Below Wb.heap.size Wb w') => spec_pairs L.toNat G c ps (by omega) (by omega) hl HZ.out w' (HST.out w' h))
      rw [eL] at HP
      have HN := Lib.hid (fun A cap w' (h : Below Wb.heap.size Wb w') (hm : RowAt w' A (pairsW L.toNat ps)) => spec_l3In L G c ps hl HZ.out A cap (pairsW L.toNat ps) (by have := pairsW_length (ps := ps) (k := L.toNat) (by omega); omega) (pairsW_two (by omega)) s hs2 w' (HST.out w' h) hm)
      clear hi hw eL
      generalize pairsW L.toNat ps = M at *
      refine wp_region_held_drew (S := (fun w' => w'.cell? ⟨w.heap.size, 0, none⟩ = some (.int .i64 L) ∧ w'.cell? ⟨w.heap.size, 1, none⟩ = some (.slice G ps.length c))) (by kernel_rfl) ?hS0c (fun hHeld => ?_)
      case hS0c => exact ⟨x0, x1⟩
      refine wpAnyH_take (i := 0) (v := ?v0c) rfl (by kernel_rfl) (by kernel_rfl) (by kernel_rfl) (fun _ _ _ h => h) (Or.inl ⟨by rfl, ?hy0c⟩) (by assumption) ?_
      case hy0c => (intro w hSw; (try dsimp only at hSw); go_simp; try with_reducible rfl)
      try simp only [Act.put, List.setIfInBounds_toArray]
      refine wpAnyH_ready (rs := [1]) (by kernel_rfl) (by simp) ?_
      refine AllReadyH.cons rfl (fun K hK => ?_) AllReadyH.nil
      go_simp
      go_at_call 43
      refine (HI.out _ (Below.refl _ _).drew).mono ?_
      rintro e w2 ⟨rfl, hb2⟩
      have q2 : Below Wb.heap.size Wb w2 := (Below.refl Wb.heap.size Wb).drew.trans hb2
      have z0 := (q2.cell (p := ⟨w.heap.size, 0, none⟩) (by show w.heap.size < Wb.heap.size; omega)).trans x0
      have z1 := (q2.cell (p := ⟨w.heap.size, 1, none⟩) (by show w.heap.size < Wb.heap.size; omega)).trans x1
      go_wp2_with fail
      refine hK.out _ _ ?hS1c (fun hHeld => ?_)
      case hS1c => (try dsimp only); exact ⟨z0, z1⟩
      clear hK K
      try simp only [Act.put, List.setIfInBounds_toArray, List.set_cons_zero, List.set_cons_succ]
      refine wpAnyH_take (i := 2) (v := ?v2c) rfl (by kernel_rfl) (by kernel_rfl) (by kernel_rfl) (fun _ _ _ h => h) (Or.inl ⟨by rfl, ?hy2c⟩) (by assumption) ?_
      case hy2c => (intro w hSw; (try dsimp only at hSw); go_simp; try with_reducible rfl)
      try simp only [Act.put, List.setIfInBounds_toArray]
      refine wpAnyH_take (i := 3) (v := ?v3c) rfl (by kernel_rfl) (by kernel_rfl) (by kernel_rfl) (fun _ _ _ h => h) (Or.inl ⟨by rfl, ?hy3c⟩) (by assumption) ?_
      case hy3c => (intro w hSw; (try dsimp only at hSw); go_simp; try with_reducible rfl)
      try simp only [Act.put]
      refine wpAnyH_take (i := 4) (v := ?v4c) rfl (by kernel_rfl) (by kernel_rfl) (by kernel_rfl) (fun _ _ _ h => h) (Or.inl ⟨by rfl, ?hy4c⟩) (by assumption) ?_
      case hy4c => (intro w hSw; (try dsimp only at hSw); go_simp; try with_reducible rfl)
      try simp only [Act.put]
      refine wpAnyH_take (i := 5) (v := ?v5c) rfl (by kernel_rfl) (by kernel_rfl) (by kernel_rfl) (fun _ _ _ h => h) (Or.inl ⟨by rfl, ?hy5c⟩) (by assumption) ?_
      case hy5c => (intro w hSw; (try dsimp only at hSw); go_simp; try with_reducible rfl)
      try simp only [Act.put]
      refine wpAnyH_ready (rs := [6]) (by kernel_rfl) (by simp) ?_
      refine AllReadyH.cons rfl (fun K hK => ?_) AllReadyH.nil
      go_simp
      go_at_call 34
      refine (HW.out _).mono ?_
      rintro e w3 ⟨rfl, rfl⟩
      go_wp2_with fail
      refine hK.out _ _ ?hS6c (fun hHeld => ?_)
      case hS6c => (try dsimp only); exact ⟨z0, z1⟩
      clear hK K
      try simp only [Act.put, List.setIfInBounds_toArray, List.set_cons_zero, List.set_cons_succ]
      refine wpAnyH_take (i := 7) (v := ?v7c) rfl (by kernel_rfl) (by kernel_rfl) (by kernel_rfl) (fun _ _ _ h => h) (Or.inl ⟨by rfl, ?hy7c⟩) (by assumption) ?_
      case hy7c => (intro w hSw; (try dsimp only at hSw); go_simp; try with_reducible rfl)
      try simp only [Act.put, List.setIfInBounds_toArray]
      refine wpAnyH_take (i := 8) (v := ?v8c) rfl (by kernel_rfl) (by kernel_rfl) (by kernel_rfl) (fun _ _ _ h => h) (Or.inl ⟨by rfl, ?hy8c⟩) (by assumption) ?_
      case hy8c => (intro w hSw; (try dsimp only at hSw); go_simp; try with_reducible rfl)
      try simp only [Act.put]
      refine wpAnyH_take (i := 9) (v := ?v9c) rfl (by kernel_rfl) (by kernel_rfl) (by kernel_rfl) (fun _ _ _ h => h) (Or.inl ⟨by rfl, ?hy9c⟩) (by assumption) ?_
      case hy9c => (intro w hSw; (try dsimp only at hSw); go_simp; try with_reducible rfl)
      try simp only [Act.put]
      refine wpAnyH_take (i := 10) (v := ?v10c) rfl (by kernel_rfl) (by kernel_rfl) (by kernel_rfl) (fun _ _ _ h => h) (Or.inl ⟨by rfl, ?hy10c⟩) (by assumption) ?_
      case hy10c => (intro w hSw; (try dsimp only at hSw); go_simp; try with_reducible rfl)
      try simp only [Act.put]
      refine wpAnyH_take (i := 12) (v := ?v12c) rfl (by kernel_rfl) (by kernel_rfl) (by kernel_rfl) (fun _ _ _ h => h) (Or.inl ⟨by rfl, ?hy12c⟩) (by assumption) ?_
      case hy12c => (intro w hSw; (try dsimp only at hSw); go_simp; try with_reducible rfl)
      try simp only [Act.put]
      refine wpAnyH_ready (rs := [11]) (by kernel_rfl) (by simp) ?_
      refine AllReadyH.cons rfl (fun K hK => ?_) AllReadyH.nil
      go_simp
      go_at_call 86
      refine (HP.out _ q2).mono ?_
      intro e w4 hp4
      obtain ⟨A, cap, rfl, hr4, hb4⟩ := hp4.rowAt
      have q4 : Below Wb.heap.size Wb w4 := q2.trans (hb4.mono q2.size)
      clear hp4
      have y0 := (q4.cell (p := ⟨w.heap.size, 0, none⟩) (by show w.heap.size < Wb.heap.size; omega)).trans x0
      have y1 := (q4.cell (p := ⟨w.heap.size, 1, none⟩) (by show w.heap.size < Wb.heap.size; omega)).trans x1
      go_wp2_with fail
      refine hK.out _ _ ?hS11c (fun hHeld => ?_)
      case hS11c => (try dsimp only); exact ⟨y0, y1⟩
      clear hK K
      try simp only [Act.put, List.setIfInBounds_toArray, List.set_cons_zero, List.set_cons_succ]
      refine wpAnyH_ready (rs := [13]) (by kernel_rfl) (by simp) ?_
      refine AllReadyH.cons rfl (fun K hK => ?_) AllReadyH.nil
      go_simp
      go_at_call 85
      refine (HN.out A cap _ q4 hr4).mono ?_
      rintro e w5 ⟨rfl, hb5⟩
      have q5 : Below Wb.heap.size Wb w5 := q4.trans (hb5.mono q4.size)
      have u0 := (q5.cell (p := ⟨w.heap.size, 0, none⟩) (by show w.heap.size < Wb.heap.size; omega)).trans x0
      have u1 := (q5.cell (p := ⟨w.heap.size, 1, none⟩) (by show w.heap.size < Wb.heap.size; omega)).trans x1
      go_wp2_with fail
      refine hK.out _ _ ?hS13c (fun hHeld => ?_)
      case hS13c => (try dsimp only); exact ⟨u0, u1⟩
      clear hK K
      try simp only [Act.put, List.setIfInBounds_toArray, List.set_cons_zero, List.set_cons_succ]
      refine wpAnyH_take (i := 14) (v := ?v14c) rfl (by kernel_rfl) (by kernel_rfl) (by kernel_rfl) (fun _ _ _ h => h) (Or.inl ⟨by rfl, ?hy14c⟩) (by assumption) ?_
      case hy14c => (intro w hSw; (try dsimp only at hSw); go_simp; try with_reducible rfl)
      try simp only [Act.put, List.setIfInBounds_toArray]
      refine wpAnyH_ready (rs := [15]) (by kernel_rfl) (by simp) ?_
      refine AllReadyH.cons rfl (fun K hK => ?_) AllReadyH.nil
      go_simp
      refine hK.out _ _ ?hS15c (fun hHeld => ?_)
      case hS15c => (try dsimp only); exact ⟨u0, u1⟩
      clear hK K
      try simp only [Act.put, List.setIfInBounds_toArray, List.set_cons_zero, List.set_cons_succ]
      refine wpAnyH_done (by kernel_rfl) ?_ _
      go_wp2
      go_ret
      exact ⟨by rw [HR.out]; rfl, BB.out.trans (q5.mono (by omega))⟩
end Go.Proofs.Ytomaanpmjlgpfaa
