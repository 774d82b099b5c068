/-
  The library's Repeat of the list of a single 1: a list of ones in new memory; nothing that was there before is changed.
-/
import Derived.Test.YtalclebehbdliaaGreatPresINum
import Derived.Test.YtalclebehbdliaaGreatShelfO
import Derived.Test.YtalclebehbdliaaGreatIntsLaw
import Derived.Laws.CopyOwn
import Derived.Deep.RegionHeld3
namespace Go.Proofs.YtalclebehbdliaaGreat
open Go Go.RowKit

theorem sizeI (w : World) : (sizeOf 3).run Tryz.prog w = .ok 1 w := Tryz.sizeOf3 w
set_option maxRecDepth 100000 in
theorem rep_to (a : Addr) (n c j : Nat) (hj : j ≤ c) (w : World) : (Instr.slice 56 (.slice (some a) n c) none (some (.int .i64 (j : Int))) none).run Tryz.prog w = .ok (.slice (some a) j c) w := by
  have ht : Tryz.prog.underlying 56 = some (.slice (Tryz.prog.elem 56)) := Tryz.underlying56
  have he : Tryz.prog.elem 56 = 3 := by kernel_rfl
  rw [run_slice_h w _ _ _ _ ht .i64 (j : Int) (by omega) (by omega), he, sizeI]
  simp [Result.andThen, sliced, Addr.add]
set_option maxRecDepth 100000 in
theorem rep_from (b n c j : Nat) (hj : j < n) (hn : n ≤ c) (w : World) : (Instr.slice 56 (.slice (some ⟨b, 0, none⟩) n c) (some (.int .i64 (j : Int))) none none).run Tryz.prog w = .ok (.slice (some ⟨b, j, none⟩) (n - j) (c - j)) w := by
  have ht : Tryz.prog.underlying 56 = some (.slice (Tryz.prog.elem 56)) := Tryz.underlying56
  have he : Tryz.prog.elem 56 = 3 := by kernel_rfl
  have hne : ¬ c = j := by omega
  rw [run_slice_l w _ _ _ _ ht .i64 (j : Int) (by omega) (by omega), he, sizeI]
  simp [Result.andThen, sliced, hne, Addr.add]
  omega
theorem ones_cells {w : World} {g k : Nat} {cur : List Value} (h : w.heap[g]? = some (.cells cur.toArray 3 (0, 0))) (hk : cur.take k = List.replicate k (.int .i64 1)) : ∀ j, j < k → w.cell? ⟨g, j, none⟩ = some (.int .i64 1) := fun j hj => by
  rw [cell_of_row w g j _ _ _ h]
  have e : (cur.take k)[j]? = some (.int .i64 1) := by rw [hk, List.getElem?_replicate, if_pos hj]
  rw [List.getElem?_take, if_pos hj] at e
  simpa using e
theorem ones_more {k m : Nat} {cur cs : List Value} (hk : cur.take k = List.replicate k (.int .i64 1)) (hcs : cs = List.replicate m (.int .i64 1)) (hl : k ≤ cur.length) : (splice cur k cs).take (k + m) = List.replicate (k + m) (.int .i64 1) := by
  have hm : cs.length = m := by rw [hcs]; simp
  unfold splice
  rw [← List.append_assoc, List.take_left' (by rw [List.length_append, List.length_take, hm]; omega), hk, hcs, ← List.replicate_append_replicate]

set_option maxRecDepth 100000 in
set_option maxHeartbeats 3200000 in
theorem repeat_some (b c n : Nat) (hn : n ≤ 9) (h0 : 0 < n) (w : World) (hx : w.cell? ⟨b, 0, none⟩ = some (.int .i64 1)) (hb : b < w.heap.size) :
    Calls Tryz.prog 85 #[.slice (some ⟨b, 0, none⟩) 1 c, .int .i64 (n : Int)] w (NewA (List.replicate n 1) w) := by
  obtain ⟨j0, hj0, hy0, hy1, hy2⟩ := info_parts infoInt
  have hmul := Tryz.bits_Mul 1 n (by decide) (by omega) w
  rw [show 1 * n / 18446744073709551616 = 0 by omega, show 1 * n % 18446744073709551616 = n by omega] at hmul
  have HM : Hid (Calls Tryz.prog 113 #[.int .u64 1, .int .u64 (n : Int)] w fun e w' => e = .returned (.tuple #[.int .u64 0, .int .u64 (n : Int)]) ∧ w' = w) := Lib.hid hmul
  have hw1 : IntKind.u64.wrap (n : Int) = (n : Int) := by simp [IntKind.wrap, IntKind.bits, IntKind.signed]; omega
  have hw2 : IntKind.i64.wrap (n : Int) = (n : Int) := by rw [IntKind.wrap_i64]; omega
  have HX := Lib.hid hx
  have n0 : ¬ (n : Int) < 0 := by omega
  have n1 : ¬ (n : Int) > 9223372036854775807 := by omega
  clear hmul hx
  go_enter Tryz.func85, Tryz.ntmps85
  go_wp2_with fail
  refine HM.out.mono ?_
  rintro e w1 ⟨rfl, hw⟩
  obtain rfl : w = w1 := hw.symm
  clear hw HM
  go_wp2_with (at_make; refine wpList_make_full _ rfl _ _ 56 rfl w.heap.size 3 j0 (.int .i64 0) 1 Tryz.underlying56 hj0 hy0 hy1 .i64 .i64 _ _ n rfl rfl rfl rfl (by rw [hy2]; omega) (by unfold maxLen; omega) (Nat.le_refl _) ?_; intro w1 hown hgrow)
  have hb1 : Below w.heap.size w w1 := (Below.refl _ _).grown hgrow (Nat.le_refl _) (fun k hk => by cases hk)
  have s1 := hgrow.size
  obtain ⟨cur, hcur, hcl⟩ : ∃ cur : List Value, w1.heap[w.heap.size]? = some (.cells cur.toArray 3 (0, 0)) ∧ cur.length = n := by
    rcases hown.2 with ⟨h', _⟩ | ⟨g', cap', cur, h', hbb, hg, hnc, hcm, hcs, htake⟩
    · simp at h'
    · simp only [Value.slice.injEq, Option.some.injEq, Addr.mk.injEq, and_true, true_and] at h'
      obtain ⟨rfl, rfl⟩ := h'
      exact ⟨cur.toList, by simpa using hg, by rw [Array.length_toList]; omega⟩
  have HXc : Hid (∀ j v, [Value.int .i64 1][j]? = some v → w1.cell? ((⟨b, 0, none⟩ : Addr).add j) = some v) := Lib.hid fun j v hv => by
    match j, hv with
    | 0, hv =>
      have e : Value.int .i64 1 = v := by simpa using hv
      subst e
      exact (hb1.cell (p := ⟨b, 0, none⟩) hb).trans HX.out
  have HB1 := Lib.hid hb1
  have HG := Lib.hid hcur
  clear hown hgrow hb1 hcur HX hw1
  have hcp := fun ty => run_copy_row (P := Tryz.prog) w1 56 56 ty 3 w.heap.size 0 n n ⟨b, 0, none⟩ 1 c cur.toArray 3 [Value.int .i64 1] Tryz.underlying56 (by kernel_rfl) HG.out (show 1 = Nat.min 1 n from (Nat.min_eq_left (by omega)).symm) HXc.out (by simp; omega) (fun v hv => by rw [List.mem_singleton] at hv; subst hv; rfl)
  obtain ⟨W2, hW2⟩ : ∃ W2, w1.setRow w.heap.size (cur.toArray.toList.take 0 ++ [Value.int .i64 1] ++ cur.toArray.toList.drop (0 + [Value.int .i64 1].length)).toArray = W2 := ⟨_, rfl⟩
  have h2 : W2.heap[w.heap.size]? = some (.cells (splice cur 0 [Value.int .i64 1]).toArray 3 (0, 0)) := by
    rw [← hW2, setRow_heap w1 w.heap.size _ _ _ _ HG.out]
    simp [splice]
  have hb2 : Below w.heap.size w W2 := by rw [← hW2]; exact below_setRow HB1.out (Nat.le_refl _) _
  have hl2 : (splice cur 0 [Value.int .i64 1]).length = n := by rw [length_splice _ _ _ (by simp; omega), hcl]
  have ht2 := ones_more (k := 0) (m := 1) (cur := cur) (cs := [Value.int .i64 1]) rfl rfl (by omega)
  have HR2 : Hid (∃ cur : List Value, W2.heap[w.heap.size]? = some (.cells cur.toArray 3 (0, 0)) ∧ cur.length = n ∧ cur.take 1 = List.replicate 1 (.int .i64 1)) := Lib.hid ⟨_, h2, hl2, ht2⟩
  have HB2 := Lib.hid hb2
  rw [hW2] at hcp
  clear h2 hb2 hl2 ht2 hW2 HXc
  rw [hcp]
  go_wp2
  clear hcp
  go_loopw [8] (fun kv wr => ∃ k : Nat, 1 ≤ k ∧ k ≤ n ∧ kv = .int .i64 (k : Int) ∧ Hid (∃ cur : List Value, wr.heap[w.heap.size]? = some (.cells cur.toArray 3 (0, 0)) ∧ cur.length = n ∧ cur.take k = List.replicate k (.int .i64 1)) ∧ Hid (Below w.heap.size w wr)) (fun kv _ => n - (intOf kv).toNat)
  case atStart => exact ⟨1, Nat.le_refl _, by omega, rfl, HR2, HB2⟩
  case round =>
    clear HR2 HB2 HG HB1 hcl s1
    obtain ⟨k, hk1, hk, rfl, HR, HB⟩ := hrel
    by_cases hkn : k < n
    · obtain ⟨cr, hcr, hcl, htk⟩ := HR.out
      obtain ⟨m, hm⟩ : ∃ m, Nat.min k (n - k) = m := ⟨_, rfl⟩
      have hm1 : 1 ≤ m ∧ m ≤ k ∧ k + m ≤ n := by
        have h1 := Nat.min_le_left k (n - k)
        have h2 := Nat.min_le_right k (n - k)
        have h3 : 1 ≤ Nat.min k (n - k) := Nat.le_min.2 ⟨hk1, by omega⟩
        have hm' : min k (n - k) = m := hm
        omega
      obtain ⟨cs, hcs⟩ : ∃ cs : List Value, cs = List.replicate m (.int .i64 1) := ⟨_, rfl⟩
      have hcsl : cs.length = m := by rw [hcs]; simp
      have h2 := ones_more htk hcs (by omega)
      have hl2 := length_splice cr k cs (by omega)
      have HS : Hid (∀ w' : World, w'.heap[w.heap.size]? = some (.cells (splice cr k cs).toArray 3 (0, 0)) → ∃ cur : List Value, w'.heap[w.heap.size]? = some (.cells cur.toArray 3 (0, 0)) ∧ cur.length = n ∧ cur.take (k + m) = List.replicate (k + m) (.int .i64 1)) := Lib.hid fun w' h => ⟨_, h, by rw [hl2, hcl], h2⟩
      have hr1 := rep_from w.heap.size n n k hkn (Nat.le_refl _)
      have hr2 := rep_to ⟨w.heap.size, 0, none⟩ n n k (by omega)
      have hwk : IntKind.i64.wrap ((k : Int) + (m : Int)) = (k : Int) + (m : Int) := by rw [IntKind.wrap_i64]; omega
      have hkI : (k : Int) < (n : Int) := by omega
      have hsrc : ∀ j v, cs[j]? = some v → wr.drew.cell? ((⟨w.heap.size, 0, none⟩ : Addr).add j) = some v := fun j v hv => by
        rw [hcs, List.getElem?_replicate] at hv
        have hj : j < m := by
          by_cases hj : j < m
          · exact hj
          · rw [if_neg hj] at hv; cases hv
        rw [if_pos hj] at hv
        have e : (⟨w.heap.size, 0, none⟩ : Addr).add j = ⟨w.heap.size, j, none⟩ := by unfold Addr.add; split <;> simp_all
        rw [e, ← Option.some.inj hv]
        exact ones_cells (w := wr.drew) hcr htk j (by omega)
      have hcrd : wr.drew.heap[w.heap.size]? = some (.cells cr.toArray 3 (0, 0)) := hcr
      have h1c : ∀ v ∈ cs, v.oneCell' = true := fun v hv => by rw [hcs] at hv; rw [List.eq_of_mem_replicate hv]; rfl
      have HCR := Lib.hid hcrd
      have HSRC := Lib.hid hsrc
      have H1C := Lib.hid h1c
      have hfit : k + cs.length ≤ cr.length := by omega
      have hnl : cs.length = Nat.min k (n - k) := by rw [hcsl, hm]
      have HNL := Lib.hid hnl
      have HFIT := Lib.hid hfit
      have HBD := Lib.hid HB.out.drew
      clear hcr htk hcs h2 hl2 hm hsrc hcrd h1c hnl hfit HR
      go_wp2
      go_region_held3 (fun _ => True) (first | trivial | go_keep) ((refine step_copy_splice (by rfl) (.tmp 41) (.tmp 44) 56 56 (by rfl) 3 Tryz.underlying56 (by kernel_rfl) (some ⟨w.heap.size, k, none⟩) (some ⟨w.heap.size, 0, none⟩) (n - k) (n - k) k n (by rfl) (by rfl) w.heap.size k cr 3 HCR.out cs HNL.out (fun _ => ⟨rfl, _, rfl, HSRC.out⟩) HFIT.out H1C.out w.heap.size w HBD.out (Nat.le_refl _) ?_; intro w6 hw6 hb6))
      go_wp2
      go_roundw
      case rel => exact ⟨k + m, by omega, by omega, by go_num, Lib.hid (HS.out _ hw6.out), Lib.hid hb6⟩
      case measure => simp [intOf]; omega
    · obtain rfl : k = n := by omega
      have hkI : ¬ (k : Int) < (k : Int) := by omega
      go_wp2
      go_ret
      refine ⟨_, rfl, ?_, HB.out⟩
      obtain ⟨cr, hcr, hcl, htk⟩ := HR.out
      unfold OwnA
      rw [List.length_replicate, List.map_replicate]
      exact ⟨by simp, .inr ⟨w.heap.size, k, cr.toArray, rfl, Nat.le_refl _, hcr, Nat.le_refl _, by unfold maxLen; omega, by simp; omega, by simpa using htk⟩⟩

set_option maxRecDepth 100000 in
set_option maxHeartbeats 3200000 in
theorem repeat_none (b c : Nat) (w : World) :
    Calls Tryz.prog 85 #[.slice (some ⟨b, 0, none⟩) 1 c, .int .i64 0] w (NewA [] w) := by
  obtain ⟨j0, hj0, hy0, hy1, hy2⟩ := info_parts infoInt
  have hmul := Tryz.bits_Mul 1 0 (by decide) (by decide) w
  have HM : Hid (Calls Tryz.prog 113 #[.int .u64 1, .int .u64 0] w fun e w' => e = .returned (.tuple #[.int .u64 0, .int .u64 0]) ∧ w' = w) := Lib.hid hmul
  clear hmul
  go_enter Tryz.func85, Tryz.ntmps85
  go_wp2_with fail
  refine HM.out.mono ?_
  rintro e w1 ⟨rfl, hw⟩
  obtain rfl : w = w1 := hw.symm
  clear hw HM
  go_wp2_with (at_make; refine wpList_make_full _ rfl _ _ 56 rfl w.heap.size 3 j0 (.int .i64 0) 1 Tryz.underlying56 hj0 hy0 hy1 .i64 .i64 _ _ 0 rfl rfl rfl rfl (by rw [hy2]; omega) (by unfold maxLen; omega) (Nat.le_refl _) ?_; intro w1 hown hgrow)
  have hb1 : Below w.heap.size w w1 := (Below.refl _ _).grown hgrow (Nat.le_refl _) (fun k hk => by cases hk)
  have HB1 := Lib.hid hb1
  have HO1 : Hid (w1.ownsRow w.heap.size 3 1 (.slice (some ⟨w.heap.size, 0, none⟩) 0 0) 0 []) := Lib.hid (by have e : (madeCells (Value.int .i64 0).cells (0 * 1)).toList = [] := List.eq_nil_of_length_eq_zero hown.1; rw [e] at hown; exact hown)
  have hcp := fun ty => run_copy_none (P := Tryz.prog) w1 56 56 ty 3 (some ⟨w.heap.size, 0, none⟩) (some ⟨b, 0, none⟩) 0 0 1 c Tryz.underlying56 (by kernel_rfl) rfl
  clear hown hgrow hb1
  rw [hcp]
  go_wp2
  clear hcp
  go_loopw [8] (fun kv wr => kv = .int .i64 0 ∧ wr = w1) (fun _ _ => 0)
  case atStart => exact ⟨rfl, rfl⟩
  case round =>
    obtain ⟨rfl, rfl⟩ := hrel
    go_wp2
    go_ret
    exact ⟨_, rfl, HO1.out, HB1.out⟩
theorem repeat_ones (b c n : Nat) (hn : n ≤ 9) (w : World) (hx : w.cell? ⟨b, 0, none⟩ = some (.int .i64 1)) (hb : b < w.heap.size) :
    Calls Tryz.prog 85 #[.slice (some ⟨b, 0, none⟩) 1 c, .int .i64 (n : Int)] w (NewA (List.replicate n 1) w) := by
  by_cases h0 : n = 0
  · subst h0
    exact repeat_none b c w
  · exact repeat_some b c n hn (by omega) w hx hb
end Go.Proofs.YtalclebehbdliaaGreat
