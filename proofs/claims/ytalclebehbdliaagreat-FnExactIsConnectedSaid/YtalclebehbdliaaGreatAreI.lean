/-
  The program's haveSameLetters and AreSameShift: at every two shifts in memory what the plain words say; nothing that was there before is changed.
-/
import Derived.Test.YtalclebehbdliaaGreatStatesI
import Derived.Deep.RegionHeld3
import Derived.Deep.CutRange
namespace Go.Proofs.YtalclebehbdliaaGreat
open Go Go.RowKit

def haveB (L : Int) (ps : List ByteArray) (L' : Int) (qs : List ByteArray) : Bool := (isShift L ps && isShift L' qs) && decide (L = L')

set_option maxRecDepth 100000 in
set_option maxHeartbeats 1600000 in
theorem impl_haveSame (L L' : Int) (G G' : Option Addr) (c c' : Nat) (ps qs : List ByteArray) (hl : ps.length ≤ 1048576) (hl' : qs.length ≤ 1048576) (hz : ∀ k, k < ps.length → (ps.getD k ByteArray.empty).size ≤ 2147483648) (hz' : ∀ k, k < qs.length → (qs.getD k ByteArray.empty).size ≤ 2147483648) (w : World) (hs : StrsG w G ps) (hs' : StrsG w G' qs) :
    Calls Tryz.prog 56 #[.agg #[.int .i64 L, .slice G ps.length c], .agg #[.int .i64 L', .slice G' qs.length c']] w (BoolPost (haveB L ps L' qs) w) := by
  have HI := Lib.hid (fun w' (h : Below w.heap.size w w') => impl_isShift L G c ps hl (size_wide hz) w' (hs.below h))
  have HI' := Lib.hid (fun w' (h : Below w.heap.size w w') => impl_isShift L' G' c' qs hl' (size_wide hz') w' (hs'.below h))
  have HSS : Hid (haveB L ps L' qs = ((isShift L ps && isShift L' qs) && decide (L = L'))) := Lib.hid rfl
  generalize haveB L ps L' qs = R at *
  clear hs hs' hz hz'
  go_enter Tryz.func56, Tryz.ntmps56
  go_wp2_with fail
  obtain ⟨Wb, hWb⟩ : ∃ Wb, (w.alloc (.cells #[.int .i64 L, .slice G ps.length c] 26)).alloc (.cells #[.int .i64 L', .slice G' qs.length c'] 26) = Wb := ⟨_, rfl⟩
  have sb : Wb.heap.size = w.heap.size + 2 := by rw [← hWb]; simp
  have b1 : Below w.heap.size w (w.alloc (.cells #[.int .i64 L, .slice G ps.length c] 26)) := (Below.refl _ _).alloc (Nat.le_refl _) _
  have bb : Below w.heap.size w Wb := by rw [← hWb]; exact b1.alloc b1.size _
  have xb : BoxAt Wb w.heap.size L (.slice G ps.length c) := by
    rw [← hWb]
    exact (boxAt_new w L _ 26).below ((Below.refl (w.heap.size + 1) _).alloc (by simp) _) (by omega)
  have xb' : BoxAt Wb (w.heap.size + 1) L' (.slice G' qs.length c') := by
    rw [← hWb]
    have h := boxAt_new (w.alloc (.cells #[.int .i64 L, .slice G ps.length c] 26)) L' (.slice G' qs.length c') 26
    rw [World.size_alloc] at h; exact h
  have hbx : ((w.alloc (.cells #[.int .i64 L, .slice G ps.length c] 26)).heap.size) = w.heap.size + 1 := by simp
  rw [hWb]
  try rw [hbx]
  clear hWb hbx b1
  have BB := Lib.hid bb
  have XB := Lib.hid (fun w' (h : Below Wb.heap.size Wb w') => (show BoxAt w' w.heap.size L (.slice G ps.length c) ∧ BoxAt w' (w.heap.size + 1) L' (.slice G' qs.length c') from ⟨xb.below h (by omega), xb'.below h (by omega)⟩))
  clear bb xb xb'
  refine (HI.out Wb BB.out).mono ?_
  rintro e w1 ⟨rfl, h1⟩
  have B1 := Lib.hid h1
  clear h1
  have C1 := Lib.hid (BB.out.trans (B1.out.mono (by omega)))
  obtain ⟨⟨x0, x1⟩, ⟨x2, x3⟩⟩ := XB.out w1 B1.out
  cases e1 : isShift L ps with
  | false =>
    have HR : Hid (R = false) := Lib.hid (by rw [HSS.out, e1]; rfl)
    clear e1 HSS
    go_wp2
    go_ret
    exact ⟨by rw [HR.out]; rfl, C1.out⟩
  | true =>
    go_wp2_with fail
    refine (HI'.out w1 C1.out).mono ?_
    rintro e w2 ⟨rfl, h2⟩
    have B2 := Lib.hid (B1.out.trans (h2.mono B1.out.size))
    clear h2 x0 x1 x2 x3
    have C2 := Lib.hid (BB.out.trans (B2.out.mono (by omega)))
    obtain ⟨⟨x0, x1⟩, ⟨x2, x3⟩⟩ := XB.out w2 B2.out
    cases e2 : isShift L' qs with
    | false =>
      have HR : Hid (R = false) := Lib.hid (by rw [HSS.out, e1, e2]; rfl)
      clear e1 e2 HSS
      go_wp2
      go_ret
      exact ⟨by rw [HR.out]; rfl, C2.out⟩
    | true =>
      have HR : Hid (R = decide (L = L')) := Lib.hid (by rw [HSS.out, e1, e2]; rfl)
      clear e1 e2 HSS
      by_cases hLL : L = L'
      · subst hLL
        have hb : (L == L) = true := beq_self_eq_true L
        rw [decide_eq_true rfl] at HR
        go_wp2
        go_ret
        exact ⟨by rw [HR.out]; rfl, C2.out⟩
      · have hb : (L == L') = false := beq_eq_false_iff_ne.2 hLL
        rw [decide_eq_false hLL] at HR
        clear hLL
        go_wp2
        go_ret
        exact ⟨by rw [HR.out]; rfl, C2.out⟩

theorem equal_rows (A1 A2 : Option Addr) (c1 c2 : Nat) (xs ys : List ByteArray) (hx : xs.length ≤ 1048576) (hy : ys.length ≤ 1048576) (w : World) (h1 : RowAt w A1 xs) (h2 : RowAt w A2 ys) :
    Calls Tryz.prog 62 #[.slice A1 xs.length c1, .slice A2 ys.length c2] w fun e w' => e = .returned (.bool (decide (xs = ys))) ∧ ∃ q, w' = w.drewN q := by
  by_cases hn : xs.length = ys.length
  · by_cases h0 : xs.length = 0
    · obtain rfl : xs = [] := List.eq_nil_of_length_eq_zero h0
      obtain rfl : ys = [] := List.eq_nil_of_length_eq_zero (by rw [← hn]; rfl)
      exact (Tryz.slices_Equal_string_empty A1 A2 c1 0 c2 w (by omega)).mono fun e w' ⟨he, hw⟩ => ⟨he, 0, hw⟩
    · obtain ⟨g1, rfl, s1, _⟩ := h1 (by omega)
      obtain ⟨g2, rfl, s2, _⟩ := h2 (by omega)
      have h := Tryz.slices_Equal_string g1 0 xs.length c1 g2 0 ys.length c2 xs ys w (Nat.le_refl _) (Nat.le_refl _) (by omega) (by omega) s1 s2
      rw [List.take_length, List.take_length] at h
      exact h
  · have hne : ¬ xs = ys := fun e => hn (by rw [e])
    rw [decide_eq_false hne]
    exact (Tryz.slices_Equal_string_lens A1 A2 xs.length c1 ys.length c2 w hn).mono fun e w' ⟨he, hw⟩ => ⟨he, 0, hw⟩

theorem langS_asc (L : Int) (ps : List ByteArray) {n : Int} (h0 : 0 ≤ n) (h6 : n ≤ 6) : Asc (langOfS L ps n) := by
  cases h : isShift L ps with
  | true =>
    obtain ⟨_, k3, _, _⟩ := shift_sizes h
    rw [langOfS_is h h0 h6]
    exact langW_asc k3 ps _
  | false =>
    have e : langOfS L ps n = [] := by unfold langOfS; rw [if_neg (fun hc => by rw [h] at hc; exact absurd hc.1 (by decide))]
    rw [e]; exact List.Pairwise.nil

set_option maxRecDepth 100000 in
set_option maxHeartbeats 3200000 in
theorem impl_areSame (L L' : Int) (G G' : Option Addr) (c c' : Nat) (ps qs : List ByteArray) (hl : ps.length ≤ 1048576) (hl' : qs.length ≤ 1048576) (hz : ∀ k, k < ps.length → (ps.getD k ByteArray.empty).size ≤ 2147483648) (hz' : ∀ k, k < qs.length → (qs.getD k ByteArray.empty).size ≤ 2147483648) (w : World) (hs : StrsG w G ps) (hs' : StrsG w G' qs)
    (hsh : ∀ w', Below w.heap.size w w' → w'.ShapedOpen Tryz.prog) :
    Calls Tryz.prog 18 #[.agg #[.int .i64 L, .slice G ps.length c], .agg #[.int .i64 L', .slice G' qs.length c']] w (BoolPost (areS L ps L' qs) w) := by
  obtain ⟨Wb, hWb⟩ : ∃ Wb, (w.alloc (.cells #[.int .i64 L, .slice G ps.length c] 26)).alloc (.cells #[.int .i64 L', .slice G' qs.length c'] 26) = Wb := ⟨_, rfl⟩
  have sb : Wb.heap.size = w.heap.size + 2 := by rw [← hWb]; simp
  have b1 : Below w.heap.size w (w.alloc (.cells #[.int .i64 L, .slice G ps.length c] 26)) := (Below.refl _ _).alloc (Nat.le_refl _) _
  have bb : Below w.heap.size w Wb := by rw [← hWb]; exact b1.alloc b1.size _
  have xb : BoxAt Wb w.heap.size L (.slice G ps.length c) := by
    rw [← hWb]
    exact (boxAt_new w L _ 26).below ((Below.refl (w.heap.size + 1) _).alloc (by simp) _) (by omega)
  have xb' : BoxAt Wb (w.heap.size + 1) L' (.slice G' qs.length c') := by
    rw [← hWb]
    have h := boxAt_new (w.alloc (.cells #[.int .i64 L, .slice G ps.length c] 26)) L' (.slice G' qs.length c') 26
    rw [World.size_alloc] at h; exact h
  have hbx : ((w.alloc (.cells #[.int .i64 L, .slice G ps.length c] 26)).heap.size) = w.heap.size + 1 := by simp
  have BB := Lib.hid (fun w' (h : Below Wb.heap.size Wb w') => bb.trans (h.mono (by omega)))
  have HA := Lib.hid (fun w' (h : Below Wb.heap.size Wb w') => impl_haveSame L L' G G' c c' ps qs hl hl' hz hz' w' (hs.below (BB.out w' h)) (hs'.below (BB.out w' h)))
  have HL := Lib.hid (fun w' (h : Below Wb.heap.size Wb w') => impl_arcWords L G c ps hl hz w' (hs.below (BB.out w' h)) (fun w2 h2 => hsh w2 (below_after (BB.out w' h) h2)))
  have HL' := Lib.hid (fun w' (h : Below Wb.heap.size Wb w') => impl_arcWords L' G' c' qs hl' hz' w' (hs'.below (BB.out w' h)) (fun w2 h2 => hsh w2 (below_after (BB.out w' h) h2)))
  have XB := Lib.hid (fun w' (h : Below Wb.heap.size Wb w') => (show w'.cell? ⟨w.heap.size, 0, none⟩ = some (.int .i64 L) ∧ w'.cell? ⟨w.heap.size, 1, none⟩ = some (.slice G ps.length c) ∧ w'.cell? ⟨w.heap.size + 1, 0, none⟩ = some (.int .i64 L') ∧ w'.cell? ⟨w.heap.size + 1, 1, none⟩ = some (.slice G' qs.length c') from ⟨(xb.below h (by omega)).1, (xb.below h (by omega)).2, (xb'.below h (by omega)).1, (xb'.below h (by omega)).2⟩))
  have HEQ : Hid (areS L ps L' qs = (haveB L ps L' qs && decide (langOfS L ps 3 = langOfS L' qs 3))) := Lib.hid (by
    unfold areS sameS haveB
    rw [same_asc (langS_asc L ps (by decide) (by decide)) (langS_asc L' qs (by decide) (by decide))])
  have h27 := (arcs_facts L ps).1
  have h27' := (arcs_facts L' qs).1
  have HE := Lib.hid (fun A1 A2 c1 c2 (w' : World) (h1 : RowAt w' A1 (langOfS L ps 3)) (h2 : RowAt w' A2 (langOfS L' qs 3)) => equal_rows A1 A2 c1 c2 (langOfS L ps 3) (langOfS L' qs 3) (by omega) (by omega) w' h1 h2)
  generalize areS L ps L' qs = R at *
  generalize langOfS L ps 3 = MA at *
  generalize langOfS L' qs 3 = MB at *
  clear hs hs' hz hz' hsh bb xb xb' b1
  go_enter Tryz.func18, Tryz.ntmps18
  go_wp2_with fail
  clear hWb hbx
  obtain ⟨x0, x1, x2, x3⟩ := XB.out Wb (Below.refl _ _)
  have hk0 : Below Wb.heap.size Wb Wb.drew := (Below.refl _ _).drew
  cases hh : haveB L ps L' qs with
  | false =>
    have HR : Hid (R = false) := Lib.hid (by rw [HEQ.out, hh]; rfl)
    rw [hh] at HA
    clear hh HEQ HL HL' HE
    refine wp_region_held_drew (S := (fun w' => w'.cell? ⟨w.heap.size, 0, none⟩ = some (.int .i64 L) ∧ w'.cell? ⟨w.heap.size, 1, none⟩ = some (.slice G ps.length c) ∧ w'.cell? ⟨w.heap.size + 1, 0, none⟩ = some (.int .i64 L') ∧ w'.cell? ⟨w.heap.size + 1, 1, none⟩ = some (.slice G' qs.length c'))) (by kernel_rfl) ?hS0a (fun hHeld => ?_)
    case hS0a => exact XB.out Wb (Below.refl _ _)
    refine wpAnyH_take (i := 0) (v := ?v0a) rfl (by kernel_rfl) (by kernel_rfl) (by kernel_rfl) (fun _ _ _ h => h) (Or.inl ⟨by rfl, ?hy0a⟩) (by assumption) ?_
    case hy0a => (intro w hSw; (try dsimp only at hSw); go_simp; try with_reducible rfl)
    try simp only [Act.put, List.getElem_toArray, List.getElem_cons_zero, List.setIfInBounds_toArray, List.set_cons_zero, List.set_cons_succ]
    refine wpAnyH_take (i := 1) (v := ?v1a) rfl (by kernel_rfl) (by kernel_rfl) (by kernel_rfl) (fun _ _ _ h => h) (Or.inl ⟨by rfl, ?hy1a⟩) (by assumption) ?_
    case hy1a => (intro w hSw; (try dsimp only at hSw); go_simp; try with_reducible rfl)
    try simp only [Act.put, List.getElem_toArray, List.getElem_cons_succ, List.getElem_cons_zero, List.setIfInBounds_toArray, List.set_cons_zero, List.set_cons_succ]
    refine wpAnyH_ready (rs := [2]) (by kernel_rfl) (by simp) ?_
    refine AllReadyH.cons rfl (fun K hK => ?_) AllReadyH.nil
    go_simp
    go_at_call 56
    refine (HA.out _ (Below.refl _ _).drew).mono ?_
    rintro e u1 ⟨rfl, k1⟩
    have hk1 : Below Wb.heap.size Wb u1 := (Below.refl Wb.heap.size Wb).drew.trans k1
    obtain ⟨z0, z1, z2, z3⟩ := XB.out u1 hk1
    go_wp2_with fail
    refine hK.out _ _ ?hS2a (fun hHeld => ?_)
    case hS2a => (try dsimp only); exact ⟨z0, z1, z2, z3⟩
    clear hK K
    try simp only [Act.put, List.getElem_toArray, List.getElem_cons_succ, List.getElem_cons_zero, List.setIfInBounds_toArray, List.set_cons_zero, List.set_cons_succ]
    refine wpAnyH_take (i := 3) (v := ?v3a) rfl (by kernel_rfl) (by kernel_rfl) (by kernel_rfl) (fun _ _ _ h => h) (Or.inl ⟨by rfl, ?hy3a⟩) (by assumption) ?_
    case hy3a => (intro w hSw; (try dsimp only at hSw); go_simp; try with_reducible rfl)
    try simp only [Act.put, List.getElem_toArray, List.getElem_cons_succ, List.getElem_cons_zero, List.setIfInBounds_toArray, List.set_cons_zero, List.set_cons_succ]
    refine wpAnyH_take (i := 4) (v := undef) rfl (by kernel_rfl) (by kernel_rfl) (by kernel_rfl) (fun _ _ _ h => h) (Or.inr ⟨by rfl, rfl⟩) (by assumption) ?_
    try simp only [Act.put, List.getElem_toArray, List.getElem_cons_succ, List.getElem_cons_zero, List.setIfInBounds_toArray, List.set_cons_zero, List.set_cons_succ]
    refine wpAnyH_take (i := 6) (v := undef) rfl (by kernel_rfl) (by kernel_rfl) (by kernel_rfl) (fun _ _ _ h => h) (Or.inr ⟨by rfl, rfl⟩) (by assumption) ?_
    try simp only [Act.put, List.getElem_toArray, List.getElem_cons_succ, List.getElem_cons_zero, List.setIfInBounds_toArray, List.set_cons_zero, List.set_cons_succ]
    refine wpAnyH_ready (rs := [5]) (by kernel_rfl) (by simp) ?_
    refine AllReadyH.cons rfl (fun K hK => ?_) AllReadyH.nil
    go_simp
    refine hK.out _ _ ?hS5a (fun hHeld => ?_)
    case hS5a => (try dsimp only); exact ⟨z0, z1, z2, z3⟩
    clear hK K
    try simp only [Act.put, List.getElem_toArray, List.getElem_cons_succ, List.getElem_cons_zero, List.setIfInBounds_toArray, List.set_cons_zero, List.set_cons_succ]
    refine wpAnyH_ready (rs := [7]) (by kernel_rfl) (by simp) ?_
    refine AllReadyH.cons rfl (fun K hK => ?_) AllReadyH.nil
    go_simp
    refine hK.out _ _ ?hS7a (fun hHeld => ?_)
    case hS7a => (try dsimp only); exact ⟨z0, z1, z2, z3⟩
    clear hK K
    try simp only [Act.put, List.getElem_toArray, List.getElem_cons_succ, List.getElem_cons_zero, List.setIfInBounds_toArray, List.set_cons_zero, List.set_cons_succ]
    refine wpAnyH_ready (rs := [8]) (by kernel_rfl) (by simp) ?_
    refine AllReadyH.cons rfl (fun K hK => ?_) AllReadyH.nil
    go_simp
    refine hK.out _ _ ?hS8a (fun hHeld => ?_)
    case hS8a => (try dsimp only); exact ⟨z0, z1, z2, z3⟩
    clear hK K
    try simp only [Act.put, List.getElem_toArray, List.getElem_cons_succ, List.getElem_cons_zero, List.setIfInBounds_toArray, List.set_cons_zero, List.set_cons_succ]
    refine wpAnyH_take (i := 9) (v := ?v9a) rfl (by kernel_rfl) (by kernel_rfl) (by kernel_rfl) (fun _ _ _ h => h) (Or.inl ⟨by rfl, ?hy9a⟩) (by assumption) ?_
    case hy9a => (intro w hSw; (try dsimp only at hSw); go_simp; try with_reducible rfl)
    try simp only [Act.put, List.getElem_toArray, List.getElem_cons_succ, List.getElem_cons_zero, List.setIfInBounds_toArray, List.set_cons_zero, List.set_cons_succ]
    refine wpAnyH_take (i := 10) (v := ?v10a) rfl (by kernel_rfl) (by kernel_rfl) (by kernel_rfl) (fun _ _ _ h => h) (Or.inl ⟨by rfl, ?hy10a⟩) (by assumption) ?_
    case hy10a => (intro w hSw; (try dsimp only at hSw); go_simp; try with_reducible rfl)
    try simp only [Act.put, List.getElem_toArray, List.getElem_cons_succ, List.getElem_cons_zero, List.setIfInBounds_toArray, List.set_cons_zero, List.set_cons_succ]
    refine wpAnyH_done (by kernel_rfl) ?_ _
    go_wp2
    go_ret
    exact ⟨by rw [HR.out]; rfl, BB.out u1 hk1⟩
  | true =>
    have HR : Hid (R = decide (MA = MB)) := Lib.hid (by rw [HEQ.out, hh]; rfl)
    rw [hh] at HA
    clear hh HEQ
    go_region_held3 (fun w' => w'.cell? ⟨w.heap.size, 0, none⟩ = some (.int .i64 L) ∧ w'.cell? ⟨w.heap.size, 1, none⟩ = some (.slice G ps.length c) ∧ w'.cell? ⟨w.heap.size + 1, 0, none⟩ = some (.int .i64 L') ∧ w'.cell? ⟨w.heap.size + 1, 1, none⟩ = some (.slice G' qs.length c')) (first | assumption | exact XB.out _ hk4 | exact XB.out _ hk3 | exact XB.out _ hk2 | exact XB.out _ hk1 | exact XB.out _ hk0 | go_keep) (first
      | (go_at_call 56; refine (HA.out _ hk0).mono ?_; rintro e u1 ⟨rfl, k1⟩; have hk1 : Below Wb.heap.size Wb u1 := hk0.trans k1; clear k1)
      | (go_at_call 41; refine (HL.out _ hk1).mono ?_; rintro e u2 h2; obtain ⟨A2, c2, rfl, r2, k2⟩ := ListPost.rowAt h2; have hk2 : Below Wb.heap.size Wb u2 := below_after hk1 k2; clear h2)
      | (go_at_call 41; refine (HL'.out _ hk2).mono ?_; rintro e u3 h3; obtain ⟨A3, c3, rfl, r3, k3⟩ := ListPost.rowAt h3; have hk3 : Below Wb.heap.size Wb u3 := below_after hk2 k3; have r2' := r2.below k3; clear h3)
      | (go_at_call 62; refine (HE.out _ _ _ _ _ r2' r3).mono ?_; rintro e u4 ⟨rfl, q, hq⟩; have hk4 : Below Wb.heap.size Wb u4 := by rw [hq]; exact below_drewN hk3 q))
    go_wp2
    go_ret
    exact ⟨by rw [HR.out]; rfl, BB.out _ (below_drewN hk3 _)⟩
end Go.Proofs.YtalclebehbdliaaGreat
