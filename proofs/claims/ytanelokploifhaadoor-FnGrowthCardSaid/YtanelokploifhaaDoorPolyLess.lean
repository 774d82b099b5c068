/-
  The program's tables without a column: what the plain words say, a table in new memory; nothing that was there before is changed.
-/
import Derived.Test.YtanelokploifhaaDoorPolyCat
import Derived.Test.YtanelokploifhaaDoorLiveNum
import Derived.Deep.RegionHeld3
namespace Go.Proofs.YtanelokploifhaaDoor
open Go Go.RowKit

theorem two_new {w : World} {a b : Value} {t : TypeId} : (w.alloc (.cells #[a, b] t)).drew.cell? ⟨w.heap.size, 0, none⟩ = some a ∧ (w.alloc (.cells #[a, b] t)).drew.cell? ⟨w.heap.size, 1, none⟩ = some b := by
  have h : (w.alloc (.cells #[a, b] t)).drew.heap[w.heap.size]? = some (.cells #[a, b] t (0, 0)) := heap_alloc_new w _
  unfold World.cell?
  constructor <;> (rw [h]; rfl)
theorem size_int (w : World) : (sizeOf 3).run Tryd.prog w = .ok 1 w := Tryd.sizeOf3 w
theorem size_row (w : World) : (sizeOf 48).run Tryd.prog w = .ok 1 w := Tryd.sizeOf48 w
set_option maxRecDepth 100000 in
theorem slice_to (a : Addr) (n c j : Nat) (hj : j ≤ c) (w : World) : (Instr.slice 48 (.slice (some a) n c) none (some (.int .i64 (j : Int))) none).run Tryd.prog w = .ok (.slice (some a) j c) w := by
  have ht : Tryd.prog.underlying 48 = some (.slice (Tryd.prog.elem 48)) := Tryd.underlying48
  have he : Tryd.prog.elem 48 = 3 := by kernel_rfl
  rw [run_slice_h w _ _ _ _ ht .i64 (j : Int) (by omega) (by omega), he, size_int]
  simp [Result.andThen, sliced, Addr.add]
theorem add_zero_at (b off k : Nat) : (⟨b, off, none⟩ : Addr).add k = ⟨b, off + k, none⟩ := by unfold Addr.add; split <;> simp_all
set_option maxRecDepth 100000 in
theorem slice_from (b off n c : Nat) (j : Nat) (hj : j ≤ n) (hn : n ≤ c) : ∃ p2, (p2 = off + j ∨ n - j = 0) ∧ ∀ w, (Instr.slice 48 (.slice (some ⟨b, off, none⟩) n c) (some (.int .i64 (j : Int))) none none).run Tryd.prog w = .ok (.slice (some ⟨b, p2, none⟩) (n - j) (c - j)) w := by
  have ht : Tryd.prog.underlying 48 = some (.slice (Tryd.prog.elem 48)) := Tryd.underlying48
  have he : Tryd.prog.elem 48 = 3 := by kernel_rfl
  by_cases h : c = j
  · refine ⟨off, Or.inr (by omega), fun w => ?_⟩
    rw [run_slice_l w _ _ _ _ ht .i64 (j : Int) (by omega) (by omega), he, size_int]
    simp [Result.andThen, sliced, h]
  · refine ⟨off + j, Or.inl rfl, fun w => ?_⟩
    rw [run_slice_l w _ _ _ _ ht .i64 (j : Int) (by omega) (by omega), he, size_int]
    simp [Result.andThen, sliced, h, add_zero_at]
def lessTo (j : Nat) (t : List (List Int)) (k : Nat) : List (List Int) := (t.take k).map (lessR j)
theorem lessTo_len (j : Nat) (t : List (List Int)) {k : Nat} (hk : k ≤ t.length) : (lessTo j t k).length = k := by
  unfold lessTo
  rw [List.length_map, List.length_take]; omega
theorem lessTo_next (j : Nat) (t : List (List Int)) {k : Nat} (hk : k < t.length) : lessTo j t (k + 1) = lessTo j t k ++ [lessR j (t.getD k [])] := by
  unfold lessTo
  rw [rows_take_next t k hk, List.map_append]; rfl
theorem lessTo_all (j : Nat) (t : List (List Int)) : lessTo j t t.length = t.map (lessR j) := by unfold lessTo; rw [List.take_length]

set_option maxRecDepth 100000 in
set_option maxHeartbeats 3200000 in
theorem impl_without (A : Option Addr) (c : Nat) (t : List (List Int)) (N : Nat) (hN : N ≤ 4) (ht : t.length ≤ 4) (hr : ∀ i, i < t.length → (t.getD i []).length = N) (j : Nat) (hj : j < N) (w : World) (hg : GridC w A t) :
    Calls Tryd.prog 69 #[.slice A t.length c, .int .i64 (j : Int)] w (NewG (t.map (lessR j)) w) := by
  obtain ⟨i0, hi, hz0, hz1, hz2⟩ := info_parts infoSl
  have HG := Lib.hid hg
  have HR := Lib.hid hr
  have HM0 := Lib.hid (World.ownsRow_nil w w.heap.size 48 1)
  have HNX : Hid (∀ k, k < t.length → lessTo j t (k + 1) = lessTo j t k ++ [lessR j (t.getD k [])]) := Lib.hid fun k hk => lessTo_next j t hk
  have HLL : Hid (∀ k, k ≤ t.length → (lessTo j t k).length = k) := Lib.hid fun k hk => lessTo_len j t hk
  rw [← lessTo_all]
  clear hg hr
  go_enter Tryd.func69, Tryd.ntmps69
  go_wp2
  go_loopw [5, 10] (fun v iv wr => ∃ (k : Nat) (vs : List Value), k ≤ t.length ∧ iv = .int .i64 (k : Int) ∧ wr.ownsRow w.heap.size 48 1 v (lessTo j t k).length vs ∧ RowsOwn wr w.heap.size v.ownBlock vs (lessTo j t k) ∧ Hid (Below w.heap.size w wr)) (fun _ iv _ => t.length - (intOf iv).toNat)
  case atStart => exact ⟨0, [], Nat.zero_le _, rfl, HM0.out, RowsOwn.nil _ _ _, Lib.hid (Below.refl _ _)⟩
  case round =>
    obtain ⟨k, vs, hk, rfl, hO, hR, hbl⟩ := hrel
    obtain ⟨W0, rfl⟩ : ∃ W0 : World, W0 = wr := ⟨_, rfl⟩
    by_cases hlt : k < t.length
    · have hrk := HR.out k hlt
      have HNX1 := Lib.hid (HNX.out k hlt)
      have HML := Lib.hid (HLL.out k (by omega))
      obtain ⟨b, off, b2, off2, c2, rfl, k1, hat, hc2, hb1, hb2⟩ := HG.out.row (k := k) hlt (by omega)
      rw [hrk] at k1 hc2
      have HAT := Lib.hid hat
      have HO := Lib.hid hO
      have HRW := Lib.hid hR
      have hw := hbl.out.size
      have k2 := (hbl.out.cell (p := ⟨b, off + k, none⟩) hb1).trans k1
      have hb2' : b2 < W0.heap.size := by omega
      obtain ⟨r, hrr⟩ : ∃ r, t.getD k [] = r := ⟨_, rfl⟩
      rw [hrr] at HNX1 HAT hrk
      have HCAT : Hid (∀ (n1 c1 n2 c3 p2 : Nat) (W : World) (cc : Nat), n1 = j → n2 = N - (j + 1) → (p2 = off2 + (j + 1) ∨ n2 = 0) → Below W0.heap.size W0 W → W0.heap.size < W.heap.size → W.cell? ⟨W0.heap.size, 0, none⟩ = some (.slice (some ⟨b2, off2, none⟩) n1 c1) → W.cell? ⟨W0.heap.size, 1, none⟩ = some (.slice (some ⟨b2, p2, none⟩) n2 c3) → Calls Tryd.prog 81 #[.slice (some ⟨W0.heap.size, 0, none⟩) 2 cc] W (NewA (lessR j r) W)) := Lib.hid (by
        intro n1 c1 n2 c3 p2 W cc e1 e2 e3 hb hs h1 h2
        have ha : IntsAt W b2 off2 r := (HAT.out.below hbl.out hb2).below hb hb2'
        have l1 : (r.take j).length = n1 := by rw [List.length_take]; omega
        have l2 : (r.drop (j + 1)).length = n2 := by rw [List.length_drop]; omega
        refine concat_two W0.heap.size cc b2 off2 c1 b2 p2 c3 (r.take j) (r.drop (j + 1)) (by omega) (by omega) W (by rw [l1]; exact h1) (by rw [l2]; exact h2) hs (fun i hi => ?_) (fun i hi => ?_) (by have := hb.size; omega) (by have := hb.size; omega)
        · rw [List.length_take] at hi
          have := ha i (by omega)
          rw [this, List.getD_eq_getElem?_getD, List.getD_eq_getElem?_getD, List.getElem?_take_of_lt (by omega)]
        · rw [l2] at hi
          have e4 : p2 = off2 + (j + 1) := by omega
          have := ha (j + 1 + i) (by omega)
          rw [e4, show off2 + (j + 1) + i = off2 + (j + 1 + i) by omega, this, List.getD_eq_getElem?_getD, List.getD_eq_getElem?_getD, List.getElem?_drop])
      clear hO hR hat k1 hrr HAT HR HNX HLL HG
      have HBN : ∀ o, Below W0.heap.size W0 (W0.alloc o).drew := fun o => below_new.drew
      obtain ⟨p2, hp2, hs2⟩ := slice_from b2 off2 N c2 (j + 1) (by omega) hc2
      have hs1 := slice_to ⟨b2, off2, none⟩ N c2 j (by omega)
      have hw1 : IntKind.i64.wrap ((j : Int) + 1) = (j : Int) + 1 := by rw [IntKind.wrap_i64]; omega
      rw [show ((j + 1 : Nat) : Int) = (j : Int) + 1 by omega] at hs2
      have HP2 := Lib.hid hp2
      clear hp2
      go_wp2
      go_region_held3 (fun _ => True) (first | trivial | go_keep) (first | (go_at_call 81; refine (HCAT.out _ _ _ _ _ _ _ rfl rfl HP2.out (HBN _) (by show W0.heap.size < (W0.alloc _).heap.size; rw [World.size_alloc]; omega) two_new.1 two_new.2).mono ?_; rintro e w6 ⟨v6, rfl, ho6, hb6⟩; have hb7 : Below W0.heap.size W0 w6 := (HBN _).trans (hb6.mono (HBN _).size); have hu6 : w6.ownsRow W0.heap.size 3 1 v6 (lessR j r).length ((lessR j r).map (Value.int .i64)) := World.ownsRow.mono ho6 (HBN _).size; obtain ⟨A6, c6, rfl⟩ := slice_of_owns hu6; have HU := Lib.hid hu6; have HB7 := Lib.hid hb7; have HOK := Lib.hid (kept_below HO.out hb7); have hs7 := hb7.size; clear ho6 hb6 hu6 hb7) | (refine step_append_lies _ (by rfl) _ _ _ (by rfl) w.heap.size 48 i0 _ 1 24 Tryd.underlying24 hi hz0 hz1 hz2 rfl (by omega) u5 (lessTo j t k).length vs (by rfl) (HOK.out.alloc _) ⟨w6.heap.size, 0, none⟩ 1 1 [.slice A6 (lessR j r).length c6] (by rfl) (by rfl) (World.news_of_block (cs := #[.slice A6 (lessR j r).length c6]) (t := 48) (fr := (0, 0)) (heap_alloc_new w6 _)) (by simp [Value.oneCell']) (by omega) (by rw [HML.out]; unfold maxLen; omega) (by rw [HML.out]; omega) (by simp; omega) (w6.heap.size + 1) (by simp) ?_; intro gg cap w8 ho8 hg8 hat8 hlt8; have HM := Lib.hid (part_more HO.out HRW.out HB7.out hw HU.out _ ho8 hg8 hat8); clear ho8 hg8 hat8))
      go_wp2
      go_roundw
      case rel => exact ⟨k + 1, _, by omega, by go_num, by rw [HNX1.out]; exact HM.out.1, by rw [HNX1.out]; exact HM.out.2.1, Lib.hid (HM.out.2.2 _ rfl hbl.out)⟩
      case measure => simp [intOf]; omega
    · obtain rfl : k = t.length := by omega
      have HOG : Hid (OwnG W0 w.heap.size _ (lessTo j t t.length)) := Lib.hid ⟨vs, hO, hR⟩
      clear hO hR
      go_wp2
      go_ret
      exact ⟨_, rfl, HOG.out, hbl.out⟩
end Go.Proofs.YtanelokploifhaaDoor
