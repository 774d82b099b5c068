/-
  The model's BlockWords: what the plain words say, in new memory; nothing that was there before is changed.
-/
import Derived.Test.YtalclebehbdliaaGreatDoorLangTexts
import Derived.Test.YtalclebehbdliaaGreatDoorBaseTexts
import Derived.Deep.RegionHeld3
import Derived.Deep.AppendLies
import Derived.BigRegion
namespace Go.Proofs.YtalclebehbdliaaGreatDoor
open Go Go.RowKit

set_option maxRecDepth 100000 in
theorem spec_index (A : Option Addr) (c : Nat) (M : List ByteArray) (x : ByteArray) (hn : M.length ≤ 1000000) (w : World) (hm : RowAt w A M) :
    Calls Tryz.prog 55 #[.slice A M.length c, .string x] w fun e w' => e = .returned (.int .i64 (Lib.idxOfS M x)) ∧ w' = w := by
  have HM := Lib.hid hm
  clear hm
  go_enter Tryz.func55, Tryz.ntmps55
  go_wp2
  go_loop [5] (fun i => ∃ k : Nat, k ≤ M.length ∧ i = .int .i64 k ∧ Hid (∀ j, j < k → M.getD j ByteArray.empty ≠ x)) (fun i => M.length - (intOf i).toNat)
  case atStart => exact ⟨0, Nat.zero_le _, rfl, Lib.hid (fun j h => by omega)⟩
  case round =>
    obtain ⟨k, hk, rfl, hto⟩ := hrel
    by_cases hlt : k < M.length
    · obtain ⟨g, rfl, hst, hg⟩ := HM.out (by omega)
      have hc := hst k hlt
      rw [Nat.zero_add] at hc
      clear hst
      cases he : ((M.getD k ByteArray.empty).toList == x.toList) with
      | true =>
        have HR : Hid (Lib.idxOfS M x = (k : Int)) := Lib.hid (by
          have h := Lib.idxOfS_hit M M.length k x hlt (Nat.le_refl _) ((Lib.bytes_beq_iff _ _).1 he) hto.out
          rwa [List.take_length] at h)
        generalize M.getD k ByteArray.empty = y at *
        go_wp2
        go_ret
        exact ⟨by rw [HR.out]; rfl, rfl⟩
      | false =>
        have HT : Hid (∀ j, j < k + 1 → M.getD j ByteArray.empty ≠ x) := Lib.hid (fun j hj => by
          by_cases e : j = k
          · subst e; exact (Lib.bytes_beq_false_iff _ _).1 he
          · exact hto.out j (by omega))
        generalize M.getD k ByteArray.empty = y at *
        go_wp2
        go_round
        case rel => exact ⟨k + 1, by omega, by go_num, HT⟩
        case measure => simp [intOf]; omega
    · obtain rfl : k = M.length := by omega
      have HR : Hid (Lib.idxOfS M x = -1) := Lib.hid (by
        have h := Lib.idxOfS_miss M M.length x hto.out
        rwa [List.take_length] at h)
      go_wp2
      go_ret
      exact ⟨by rw [HR.out]; rfl, rfl⟩

/-- Of what lay below S only block g may have turned. -/
def Kept (S g : Nat) (w w' : World) : Prop := S ≤ w'.heap.size ∧ ∀ k, k < S → k ≠ g → w'.heap[k]? = w.heap[k]?
theorem Kept.row {S g : Nat} {w w' : World} (h : Kept S g w w') {G : Option Addr} {xs : List ByteArray} (hr : RowAt w G xs) (hS : w.heap.size ≤ S) (hne : ∀ b, G = some ⟨b, 0, none⟩ → b ≠ g) : RowAt w' G xs := fun h0 => by
  obtain ⟨b, rfl, hs, hb⟩ := hr h0
  have he := h.2 b (by omega) (hne b rfl)
  refine ⟨b, rfl, fun k hk => ?_, by have := h.1; omega⟩
  rw [← hs k hk]
  unfold World.cell?
  rw [he]
/-- A list in the making: what it says, where it may lie, what stayed as it was. -/
structure OutSt (w w4 : World) (g : Nat) (wr : World) (u : Value) (k : Nat) (xs : List ByteArray) : Prop where
  own : wr.ownsRow w.heap.size 9 1 u k (xs.map Value.string)
  at_ : ∀ b, u.ownBlock = some b → b = g ∨ w4.heap.size ≤ b
  kept : Kept w4.heap.size g w4 wr
  below : Below w.heap.size w wr
theorem OutSt.next {w w4 wr : World} {g : Nat} {u : Value} {k : Nat} {xs : List ByteArray} (h : OutSt w w4 g wr u k xs) {w' : World} (hb : Below wr.heap.size wr w') : OutSt w w4 g w' u k xs :=
  ⟨owns_below h.own hb, h.at_, ⟨Nat.le_trans h.kept.1 hb.size, fun k hk hne => (hb.block k (Nat.lt_of_lt_of_le hk h.kept.1)).trans (h.kept.2 k hk hne)⟩, h.below.trans (hb.mono h.below.size)⟩
theorem OutSt.push {w w4 wr wd w9 : World} {g gg cap : Nat} {u : Value} {k : Nat} {xs ys : List ByteArray} {y : ByteArray} (h : OutSt w w4 g wr u k xs) (hd : Below wr.heap.size wr wd) (hg : wd.grownBy w9 u.ownBlock)
    (ho : w9.ownsRow w.heap.size 9 1 (.slice (some ⟨gg, 0, none⟩) (k + 1) cap) (k + 1) (xs.map Value.string ++ [.string y])) (hat : u.ownBlock = some gg ∨ w4.heap.size ≤ gg) (hy : xs ++ [y] = ys) :
    OutSt w w4 g w9 (.slice (some ⟨gg, 0, none⟩) (k + 1) cap) (k + 1) ys := by
  have h2 := h.next hd
  subst hy
  refine ⟨by rw [List.map_append]; exact ho, fun b hb => ?_, ⟨Nat.le_trans h2.kept.1 hg.size, fun j hj hne => ?_⟩, h2.below.grown hg (h2.below.size) fun q hq => (h2.own.lt q hq).1⟩
  · obtain rfl : gg = b := Option.some.inj hb
    rcases hat with e | e
    · exact h.at_ gg e
    · exact Or.inr e
  · refine (hg.block j (Nat.lt_of_lt_of_le hj h2.kept.1) ?_).trans (h2.kept.2 j hj hne)
    intro e
    rcases h.at_ j e.symm with e2 | e2
    · exact hne e2
    · omega
theorem ListPost.rowFrom {ps : List ByteArray} {w w' : World} {e : Ending} (h : ListPost ps w e w') : ∃ (A : Option Addr) (cap : Nat), e = Ending.returned (Value.slice A ps.length cap) ∧ RowAt w' A ps ∧ (∀ b : Nat, A = Option.some (⟨b, 0, Option.none⟩ : Addr) → w.heap.size ≤ b) ∧ Below w.heap.size w w' := by
  obtain ⟨v, rfl, ho, hb⟩ := h
  rcases ho.2 with ⟨rfl, h0⟩ | ⟨g, cap, cur, rfl, _, _, _⟩
  · exact ⟨Option.none, 0, by rw [h0], (fun hp => by omega), (fun g e => by cases e), hb⟩
  · exact ⟨Option.some ⟨g, 0, Option.none⟩, cap, rfl, (fun _ => ⟨g, rfl, StrsAt.of_owns ho rfl, (ho.lt g rfl).2⟩), (fun g' e => by cases e; exact (ho.lt g rfl).1), hb⟩

set_option maxRecDepth 100000 in
set_option maxHeartbeats 12800000 in
theorem spec_blockWords (L n : Int) (G : Option Addr) (c : Nat) (ps : List ByteArray) (hl : ps.length ≤ 1048576) (hz : ∀ k, k < ps.length → (ps.getD k ByteArray.empty).size ≤ 2147483648) (w : World) (hs : StrsG w G ps) :
    Calls Tryz.prog 22 #[.agg #[.int .i64 L, .slice G ps.length c], .int .i64 n] w (ListPost (blockWordsS L ps n) w) := by
  obtain ⟨i0, hi, hz0, hz1, hz2⟩ := info_parts infoStr
  have HS := Lib.hid hs
  have HZ := Lib.hid hz
  have HN := Lib.hid (fun w' => spec_in n 1 3 w')
  clear hs hz
  go_enter Tryz.func22, Tryz.ntmps22
  go_wp2_with fail
  obtain ⟨Wb, hWb⟩ : ∃ Wb, w.alloc (.cells #[.int .i64 L, .slice G ps.length c] 30) = Wb := ⟨_, rfl⟩
  have sb : Wb.heap.size = w.heap.size + 1 := by rw [← hWb]; simp
  have xb : BoxAt Wb w.heap.size L (.slice G ps.length c) := by rw [← hWb]; exact boxAt_new w L _ 30
  have bb : Below w.heap.size w Wb := by rw [← hWb]; exact (Below.refl _ _).alloc (Nat.le_refl _) _
  rw [hWb]
  clear hWb
  have b0 := (Below.refl Wb.heap.size Wb).alloc (Nat.le_refl _) (.cells #[] 9)
  have O0 := Lib.hid (World.ownsRow_made (base := Wb.heap.size) (e := 9) (size := 1) Wb #[] 0 (Nat.le_refl _) (by decide) rfl)
  have XB := Lib.hid xb
  have BB := Lib.hid bb
  have B0 := Lib.hid b0
  have HST := Lib.hid (fun w' (h : Below Wb.heap.size Wb w') => (show StrsG w' G ps from (HS.out.below bb).below h))
  have HI := Lib.hid (fun w' (h : Below Wb.heap.size Wb w') => spec_isShift L G c ps hl (fun k hk => by have := HZ.out k hk; omega) w' (HST.out w' h))
  have HLG := Lib.hid (fun n' w' (h : Below Wb.heap.size Wb w') => by
    have h2 := spec_languageOf L n' G c ps hl HZ.out w' (HST.out w' h)
    rw [langOf_same] at h2
    exact h2)
  have HXB := Lib.hid (fun w' (h : Below Wb.heap.size Wb w') => XB.out.below h (by omega))
  clear b0 xb bb
  refine (HI.out _ B0.out).mono ?_
  rintro e w1 ⟨rfl, hb1⟩
  have O1 := Lib.hid (owns_below O0.out hb1)
  have s1 : Wb.heap.size + 1 ≤ w1.heap.size := by have := hb1.size; rw [World.size_alloc] at this; exact this
  have B1 := Lib.hid (B0.out.trans (hb1.mono (by simp)))
  obtain ⟨x0, x1⟩ := HXB.out _ B1.out
  have OW : Hid (w1.ownsRow w.heap.size 9 1 (.slice (some ⟨w.heap.size + 1, 0, none⟩) 0 0) 0 []) := Lib.hid (by
    have h := World.ownsRow.mono O1.out (show w.heap.size ≤ Wb.heap.size by omega)
    rw [sb] at h
    exact h)
  have BW := Lib.hid (BB.out.trans (B1.out.mono (by omega)))
  clear hb1 B0 O0 O1
  cases hsft : isShift L ps with
  | false =>
    have HR : Hid (blockWordsS L ps n = []) := Lib.hid (by
      unfold blockWordsS
      rw [lang_none hsft (n + 1)]
      split <;> rfl)
    clear hsft
    go_wp2
    go_ret
    rw [HR.out]
    exact ⟨_, rfl, OW.out, BW.out⟩
  | true =>
    cases hnn : (decide (1 ≤ n) && decide (n ≤ 3)) with
    | false =>
      have HR : Hid (blockWordsS L ps n = []) := Lib.hid (by
        unfold blockWordsS
        rw [if_neg]
        rintro ⟨h1, h2, _⟩
        rw [decide_eq_true h1, decide_eq_true h2] at hnn; cases hnn)
      rw [hnn] at HN
      clear hsft hnn
      go_wp2_with fail
      refine (HN.out _).mono ?_
      rintro e w2 ⟨rfl, rfl⟩
      go_wp2
      go_ret
      rw [HR.out]
      exact ⟨_, rfl, OW.out, BW.out⟩
    | true =>
      have hn2 : 1 ≤ n ∧ n ≤ 3 := by simpa [Bool.and_eq_true, decide_eq_true_eq] using hnn
      rw [hnn] at HN
      obtain ⟨N, rfl⟩ : ∃ N : Nat, n = (N : Int) := ⟨n.toNat, by omega⟩
      have w3 : IntKind.i64.wrap ((N : Int) + 1) = (N : Int) + 1 := by rw [IntKind.wrap_i64]; omega
      have hN1 : 1 ≤ N := by omega
      have hN3 : N ≤ 3 := by omega
      have HSZ : Hid (∀ k, k < (langOf L ps ((N : Int) + 1)).length → ((langOf L ps ((N : Int) + 1)).getD k ByteArray.empty).size = N + 1) := Lib.hid fun k hk => by
        rw [word_at hk]; omega
      have hMl := lang_short L ps (N : Int)
      have hAl := lang_short L ps ((N : Int) + 1)
      have HLM := Lib.hid (fun w' (h : Below Wb.heap.size Wb w') => HLG.out (N : Int) w' h)
      have HLA := Lib.hid (fun w' (h : Below Wb.heap.size Wb w') => HLG.out ((N : Int) + 1) w' h)
      have HR1 : Hid ((langOf L ps (N : Int)).length ≤ 10 → blockWordsS L ps (N : Int) = blkTo (langOf L ps (N : Int)) (langOf L ps ((N : Int) + 1)) N (langOf L ps ((N : Int) + 1)).length) := Lib.hid fun h => by
        unfold blockWordsS
        rw [if_pos ⟨hn2.1, hn2.2, h⟩, blkTo_all]; rfl
      have HR2 : Hid (¬ (langOf L ps (N : Int)).length ≤ 10 → blockWordsS L ps (N : Int) = []) := Lib.hid fun h => by
        unfold blockWordsS
        rw [if_neg (fun h2 => h h2.2.2)]
      clear hsft hnn hn2 HLG HI
      generalize blockWordsS L ps (N : Int) = R at *
      generalize langOf L ps (N : Int) = M at *
      generalize langOf L ps ((N : Int) + 1) = A at *
      go_wp2_with fail
      refine (HN.out _).mono ?_
      rintro e wi ⟨rfl, hw⟩
      obtain rfl : w1 = wi := hw.symm
      clear hw
      go_wp2_with fail
      refine (HLM.out _ B1.out).mono ?_
      rintro e w2 hpM
      obtain ⟨GM, cM, rfl, hrM, hfM, b2⟩ := ListPost.rowFrom hpM
      have s2 := b2.size
      have RM := Lib.hid hrM
      have B2 := Lib.hid (B1.out.trans (b2.mono (by omega)))
      have OW2 := Lib.hid (owns_below OW.out b2)
      obtain ⟨x20, x21⟩ := HXB.out _ B2.out
      clear hpM hrM b2 OW
      go_wp2_with fail
      refine (HLA.out _ B2.out).mono ?_
      rintro e w4 hpA
      obtain ⟨GA, cA, rfl, hrA, hfA, b4⟩ := ListPost.rowFrom hpA
      have s4 := b4.size
      have RA := Lib.hid hrA
      have RM4 := Lib.hid (RM.out.below b4)
      have B4 := Lib.hid (B2.out.trans (b4.mono (by omega)))
      have OW4 := Lib.hid (owns_below OW2.out b4)
      have BW4 := Lib.hid (BB.out.trans (B4.out.mono (by omega)))
      clear hpA hrA b4 OW2 RM x20 x21 x0 x1 HXB HST B1 B2 BW HLM HLA
      have NEM : Hid (∀ b, GM = some ⟨b, 0, none⟩ → b ≠ w.heap.size + 1) := Lib.hid fun b hb => by have := hfM b hb; omega
      have NEA : Hid (∀ b, GA = some ⟨b, 0, none⟩ → b ≠ w.heap.size + 1) := Lib.hid fun b hb => by have := hfA b hb; omega
      have HO0 : Hid (OutSt w w4 (w.heap.size + 1) w4 (.slice (some ⟨w.heap.size + 1, 0, none⟩) 0 0) 0 []) := Lib.hid ⟨OW4.out, fun b hb => Or.inl (Option.some.inj hb).symm, ⟨Nat.le_refl _, fun _ _ _ => rfl⟩, BW4.out⟩
      clear hfM hfA OW4 BW4 B4 BB XB
      by_cases hM10 : M.length ≤ 10
      · have HR := Lib.hid (HR1.out hM10)
        have HIX := Lib.hid (fun x w' (h : RowAt w' GM M) => spec_index GM cM M x (by omega) w' h)
        have HFM := Lib.hid (fun x w' (h : -1 ≤ x ∧ x ≤ 1000000) => spec_fmt x (by omega) (by omega) w')
        have HNX := Lib.hid (fun k (h : k < A.length) => (blkTo_next M A N k h).symm)
        have HIR := Lib.hid (fun x => idx_range M x (by omega))
        have hm10 : (M.length : Int) ≤ 10 := by omega
        have hsw4 : w.heap.size + 1 ≤ w4.heap.size := by omega
        clear HR1 HR2 sb s1 s2 s4
        go_wp2
        go_loopw [5, 8] (fun u iv wr => ∃ k : Nat, k ≤ A.length ∧ iv = .int .i64 (k : Int) ∧ Hid (OutSt w w4 (w.heap.size + 1) wr u k (blkTo M A N k))) (fun _ iv _ => A.length - (intOf iv).toNat)
        case atStart => exact ⟨0, Nat.zero_le _, rfl, HO0⟩
        case round =>
          obtain ⟨k, hk, rfl, HO⟩ := hrel
          by_cases hkl : k < A.length
          · have hRM := HO.out.kept.row RM4.out (Nat.le_refl _) NEM.out
            obtain ⟨gA, rfl, hst, hgA⟩ := HO.out.kept.row RA.out (Nat.le_refl _) NEA.out (by omega)
            have hc := hst k hkl
            rw [Nat.zero_add] at hc
            have hys := HSZ.out k hkl
            have hnx := HNX.out k hkl
            unfold blkOf at hnx
            have r1 := HIR.out ((A.getD k ByteArray.empty).extract 0 N)
            have r2 := HIR.out ((A.getD k ByteArray.empty).extract 1 (N + 1))
            have C1 := Lib.hid (fun W' (h : Below wr.heap.size wr W') => HIX.out ((A.getD k ByteArray.empty).extract 0 N) W' (hRM.below h))
            have C2 := Lib.hid (fun W' (h : Below wr.heap.size wr W') => HIX.out ((A.getD k ByteArray.empty).extract 1 (N + 1)) W' (hRM.below h))
            have z1 := itoaB_size _ r1.1 r1.2
            have z2 := itoaB_size _ r2.1 r2.2
            have F1 := Lib.hid (fun W' => HFM.out _ W' r1)
            have F2 := Lib.hid (fun W' => HFM.out _ W' r2)
            have HCL : Hid (∀ W', Below wr.heap.size wr W' → W'.cell? ⟨gA, k, none⟩ = some (.string (A.getD k ByteArray.empty))) := Lib.hid fun W' h => (h.cell (p := ⟨gA, k, none⟩) hgA).trans hc
            have HKC : Hid (∀ W', Kept w4.heap.size (w.heap.size + 1) w4 W' → W'.cell? ⟨gA, k, none⟩ = some (.string (A.getD k ByteArray.empty))) := Lib.hid fun W' h => by
              obtain ⟨g', hg', hs', _⟩ := h.row RA.out (Nat.le_refl _) NEA.out (by omega)
              obtain rfl : gA = g' := by cases hg'; rfl
              have h2 := hs' k hkl
              rwa [Nat.zero_add] at h2
            generalize A.getD k ByteArray.empty = y at *
            generalize hya : y.extract 0 N = ya at *
            generalize hyb : y.extract 1 (N + 1) = yb at *
            generalize Lib.idxOfS M ya = i1 at *
            generalize Lib.idxOfS M yb = i2 at *
            change Hid (∀ W', Calls Tryz.prog 54 #[.int .i64 i1] W' fun e w' => e = .returned (.string (itoaB i1)) ∧ Below W'.heap.size W' w') at F1
            change Hid (∀ W', Calls Tryz.prog 54 #[.int .i64 i2] W' fun e w' => e = .returned (.string (itoaB i2)) ∧ Below W'.heap.size W' w') at F2
            generalize itoaB i1 = s1 at *
            generalize itoaB i2 = s2 at *
            have x9 : ∀ w, (Op.stringOp .add s1 s2).run Tryz.prog w = .ok (.string (s1 ++ s2)) w := fun w => run_string_add_sum w _ _ (by omega)
            have HNX1 := Lib.hid hnx
            have BQ := Lib.hid (Below.refl wr.heap.size wr)
            have hA7 : A.length ≤ 729 := hAl
            have k0 : (0 : Int) ≤ (k : Int) := by omega
            have k1 : (k : Int) < (A.length : Int) := by omega
            have n0 : (0 : Int) ≤ (N : Int) := by omega
            have n1 : (N : Int) ≤ (N : Int) + 1 := by omega
            have n2 : (1 : Int) ≤ (N : Int) + 1 := by omega
            have hsq := HO.out.below.size
            have hs4 := HO.out.kept.1
            clear hnx hst hRM r1 r2 z1 z2 HIX HFM HNX HIR HSZ
            generalize blkTo M A N k = X at *
            go_wp2
            go_region_held3 (fun w' => w'.cell? ⟨gA, k, none⟩ = some (.string y)) (first | exact hc9 | exact HCL.out _ BQ.out | exact hc | go_keep)
              (first
                | (go_at_call 55; refine (C1.out _ (by first | exact BQ.out | exact below_drewN BQ.out _)).mono ?_; rintro e wz ⟨rfl, hz⟩; subst hz; clear C1)
                | (go_at_call 55; refine (C2.out _ (by first | exact BQ.out | exact below_drewN BQ.out _)).mono ?_; rintro e wz ⟨rfl, hz⟩; subst hz)
                | (go_at_call 54; refine (F1.out _).mono ?_; rintro e wq ⟨rfl, hbq⟩; have BQ := Lib.hid (show Below wr.heap.size wr wq by first | exact (below_drewN BQ.out _).trans (hbq.mono (below_drewN BQ.out _).size) | exact BQ.out.trans (hbq.mono BQ.out.size)); clear hbq F1)
                | (go_at_call 54; refine (F2.out _).mono ?_; rintro e wq ⟨rfl, hbq⟩; have BQ := Lib.hid (show Below wr.heap.size wr wq by first | exact (below_drewN BQ.out _).trans (hbq.mono (below_drewN BQ.out _).size) | exact BQ.out.trans (hbq.mono BQ.out.size)); clear hbq)
                | (refine step_append_lies _ (by rfl) _ _ _ (by rfl) w.heap.size 9 i0 _ 1 16 Tryz.underlying28 hi hz0 hz1 hz2 rfl (by omega) _ k (X.map Value.string) (by rfl) (by first | exact (HO.out.next BQ.out).own.alloc _ | exact ((HO.out.next BQ.out).own.alloc _).drew) ⟨wq.heap.size, 0, none⟩ 1 1 [.string (s1 ++ s2)] (by rfl) (by rfl) (World.news_of_block (cs := #[.string (s1 ++ s2)]) (t := 9) (fr := (0, 0)) (heap_alloc_new wq _)) (by simp [Value.oneCell']) (by omega) (by unfold maxLen; omega) (by omega) (by have := BQ.out.size; simp; omega) (wq.heap.size + 1) (by simp) ?_; intro gg cap1 w9 hown1 hgrow hat hlt1; have HF := Lib.hid ((HO.out.next BQ.out).push (by first | exact (Below.refl _ _).alloc (Nat.le_refl _) _ | exact ((Below.refl _ _).alloc (Nat.le_refl _) _).drew) hgrow hown1 (hat.imp id fun e => by have := BQ.out.size; omega) HNX1.out); have hc9 := HKC.out _ HF.out.kept; clear hown1 hgrow hat hlt1))
            all_goals (go_wp2; go_roundw; (case rel => exact ⟨k + 1, by omega, by go_num, HF⟩); (case measure => simp [intOf]; omega))
          · obtain rfl : k = A.length := by omega
            have HF := Lib.hid HO.out.own
            have HB := Lib.hid HO.out.below
            have hlen := blkTo_len M A N A.length (Nat.le_refl _)
            rw [← HR.out] at HF hlen
            clear HO
            go_wp2
            go_ret
            exact ⟨_, rfl, by rw [hlen]; exact HF.out, HB.out⟩
      · have HR := Lib.hid (HR2.out hM10)
        have hm10 : ¬ (M.length : Int) ≤ 10 := by omega
        clear HR1 HR2
        go_wp2
        go_loopw [5, 8] (fun u iv wr => iv = .int .i64 0 ∧ Hid (OutSt w w4 (w.heap.size + 1) wr u 0 [])) (fun _ _ _ => 0)
        case atStart => exact ⟨rfl, HO0⟩
        case round =>
          obtain ⟨rfl, HO⟩ := hrel
          have HF := Lib.hid HO.out.own
          have HB := Lib.hid HO.out.below
          clear HO
          by_cases hA0 : 0 < A.length
          · have ha : (0 : Int) < (A.length : Int) := by omega
            go_wp2
            go_ret
            rw [HR.out]
            exact ⟨_, rfl, HF.out, HB.out⟩
          · have ha : ¬ (0 : Int) < (A.length : Int) := by omega
            go_wp2
            go_ret
            rw [HR.out]
            exact ⟨_, rfl, HF.out, HB.out⟩
end Go.Proofs.YtalclebehbdliaaGreatDoor
