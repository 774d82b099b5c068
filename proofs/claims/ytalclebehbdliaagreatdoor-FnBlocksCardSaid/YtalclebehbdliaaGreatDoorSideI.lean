/-
  The program's JoinGraphs: what the plain words say, in new memory; nothing that was there before is changed.
-/
import Derived.Test.YtalclebehbdliaaGreatDoorSideSpec
import Derived.Test.YtalclebehbdliaaGreatDoorSquareRows
import Derived.Test.YtalclebehbdliaaGreatDoorRowEnds
import Derived.Test.YtalclebehbdliaaGreatDoorMatMulI
namespace Go.Proofs.YtalclebehbdliaaGreatDoor
open Go Go.RowKit

/-- The numbers xs at place q of row r. -/
def segF (f : Nat → Nat → Int) (r q : Nat) (xs : List Int) : Nat → Nat → Int := fun i j => if i = r ∧ q ≤ j ∧ j < q + xs.length then xs.getD (j - q) 0 else f i j
theorem segF_next (f : Nat → Nat → Int) (r q : Nat) (xs : List Int) (hr : r < 9) (hq : q + xs.length ≤ 9) :
    ((sqA f).toList.take (r * 9 + q) ++ xs.map (Value.int .i64) ++ (sqA f).toList.drop (r * 9 + q + (xs.map (Value.int .i64)).length)).toArray = sqA (segF f r q xs) := by
  unfold sqA sqL
  congr 1
  rw [ints_range xs, List.length_map, List.length_range]
  refine Eq.trans (spliced (r * 9 + q) xs.length (by omega) (fun t => .int .i64 (f (t / 9) (t % 9))) fun j => .int .i64 (xs.getD j 0)) ?_
  refine List.map_congr_left fun t ht => ?_
  have ht' := List.mem_range.1 ht
  unfold segF
  by_cases c : r * 9 + q ≤ t ∧ t < r * 9 + q + xs.length
  · rw [if_pos c, if_pos (by omega), show t % 9 - q = t - (r * 9 + q) by omega]
  · rw [if_neg c, if_neg (by omega)]
theorem copy_seg {w : World} {g r q n c : Nat} {f : Nat → Nat → Int} {xs : List Int} {b off cc : Nat} (hs : SqAt w g f) (hr : r < 9) (hq : q + xs.length ≤ 9) (hn : xs.length ≤ n) (hx : IntsAt w b off xs) (ty : TypeId) :
    (Builtin.copy_ #[48, 48] ty #[.slice (some ⟨g, r * 9 + q, none⟩) n c, .slice (some ⟨b, off, none⟩) xs.length cc]).run Tryz.prog w = .ok (goInt xs.length) (w.setRow g (sqA (segF f r q xs))) := by
  have h := run_copy_row (P := Tryz.prog) w 48 48 ty 3 g (r * 9 + q) n c ⟨b, off, none⟩ xs.length cc _ _ (xs.map (Value.int .i64)) Tryz.underlying48 (by kernel_rfl) hs
    (by rw [List.length_map]; exact (Nat.min_eq_left hn).symm) (fun j v hv => by
      rw [List.getElem?_map] at hv
      have hj : j < xs.length := by
        by_cases h : j < xs.length
        · exact h
        · rw [List.getElem?_eq_none (by omega)] at hv; cases hv
      have e : (⟨b, off, none⟩ : Addr).add j = ⟨b, off + j, none⟩ := by unfold Addr.add; split <;> simp_all
      rw [e, hx j hj]
      rw [List.getElem?_eq_getElem hj] at hv
      rw [← hv, List.getD_eq_getElem?_getD, List.getElem?_eq_getElem hj]; rfl) (by rw [List.length_map, sqA_size]; omega) (fun v hv => by
      obtain ⟨x, _, rfl⟩ := List.mem_map.1 hv
      rfl)
  rw [segF_next f r q xs hr hq, List.length_map] at h
  exact h
theorem row_from (b off q : Nat) (hq : q ≤ 8) (w : World) : (Instr.sliceAt 57 (.pointer (some ⟨b, off, none⟩)) (some (.int .i64 (q : Int))) none none).run Tryz.prog w = .ok (.slice (some ⟨b, off + q, none⟩) (9 - q) (9 - q)) w := by
  have hu := Tryz.underlying57
  have hal : Tryz.prog.arrayLen 57 = 9 := by simp [Program.arrayLen, hu]
  rw [run_sliceAt_array_l w 57 ⟨b, off, none⟩ (by simp [Program.arrayLen, Program.elem, hu]) .i64 (q : Int) (by omega) (by rw [hal]; omega), hal, Int.toNat_natCast]
  have he : Tryz.prog.elem 57 = 3 := by simp [Program.elem, hu]
  rw [he, Tryz.sizeOf3]
  have hne : ¬ 9 = q := by omega
  simp [slicedAt, Result.andThen, hne]
  unfold Addr.add
  by_cases h0 : q = 0
  · subst h0; simp
  · rw [if_neg h0]

/-- The first k rows of b behind a. -/
def sideK (a b : List (List Int)) (k : Nat) : Nat → Nat → Int := fun i j => if a.length ≤ i ∧ i < a.length + k ∧ a.length ≤ j ∧ j < a.length + b.length then cellOf b (i - a.length) (j - a.length) else cellOf a i j
theorem sideK_zero (a b : List (List Int)) : sideK a b 0 = cellOf a := by
  funext i j; unfold sideK; rw [if_neg (by omega)]
theorem sideK_next (a b : List (List Int)) (k : Nat) (hb : (b.getD k []).length = b.length) : segF (sideK a b k) (a.length + k) a.length (b.getD k []) = sideK a b (k + 1) := by
  funext i j
  unfold segF sideK
  rw [hb]
  by_cases c : i = a.length + k ∧ a.length ≤ j ∧ j < a.length + b.length
  · rw [if_pos c, if_pos (by omega), c.1, show a.length + k - a.length = k by omega]; rfl
  · rw [if_neg c]
    by_cases c2 : a.length ≤ i ∧ i < a.length + k ∧ a.length ≤ j ∧ j < a.length + b.length
    · rw [if_pos c2, if_pos (by omega)]
    · rw [if_neg c2, if_neg (by omega)]
theorem cell_out {m : List (List Int)} (h : MatFacts m) {i j : Nat} (hij : m.length ≤ i ∨ m.length ≤ j) : cellOf m i j = 0 := by
  by_cases hi : i < m.length
  · exact cellOf_beyond h hi (by omega)
  · unfold cellOf
    have e : m.getD i [] = [] := by rw [List.getD_eq_getElem?_getD, List.getElem?_eq_none (by omega)]; rfl
    rw [e]; rfl
theorem sideK_all {a b : List (List Int)} (fa : MatFacts a) : tabOf (a.length + b.length) (a.length + b.length) (sideK a b b.length) = joinT a b := by
  refine tabOf_congr fun i j hi hj => ?_
  unfold sideK
  by_cases c1 : i < a.length
  · rw [if_neg (by omega), if_pos c1]
    by_cases c2 : j < a.length
    · rw [if_pos c2]
    · rw [if_neg c2]; exact cell_out fa (by omega)
  · rw [if_neg c1]
    by_cases c2 : j < a.length
    · rw [if_pos c2, if_neg (by omega)]; exact cell_out fa (by omega)
    · rw [if_neg c2, if_pos (by omega)]

set_option maxRecDepth 100000 in
set_option maxHeartbeats 3200000 in
theorem impl_joinGraphs (A1 A2 : Option Addr) (c1 c2 : Nat) (a b : List (List Int)) (ha : a.length ≤ 1048576) (hb : b.length ≤ 1048576) (ta : tot a ≤ 1048576) (tb : tot b ≤ 1048576) (w : World) (h1 : GridS w A1 a) (h2 : GridS w A2 b) :
    Calls Tryz.prog 10 #[.slice A1 a.length c1, .slice A2 b.length c2] w (NewGB (joinG a b) w) := by
  have I1 := Lib.hid (impl_isMatrix A1 c1 a (by omega) (fun k hk => by have := row_le_tot hk; omega) w h1)
  have I2 := Lib.hid (impl_isMatrix A2 c2 b (by omega) (fun k hk => by have := row_le_tot hk; omega) w h2)
  have HE := Lib.hid (ownG_nil w w.heap.size)
  cases ma : isMat a with
  | false =>
    rw [ma] at I1
    rw [show joinG a b = none from if_neg (by rw [ma]; simp)]
    clear h1 h2 I2
    go_enter Tryz.func10, Tryz.ntmps10
    go_wp2_with fail
    refine I1.out.mono ?_
    rintro e w1 ⟨rfl, rfl⟩
    go_wp2
    go_ret2
    exact ⟨_, rfl, HE.out, Below.refl _ _⟩
  | true =>
    rw [ma] at I1
    cases mb : isMat b with
    | false =>
      rw [mb] at I2
      rw [show joinG a b = none from if_neg (by rw [mb]; simp)]
      clear h1 h2
      go_enter Tryz.func10, Tryz.ntmps10
      go_wp2_with fail
      refine I1.out.mono ?_
      rintro e w1 ⟨rfl, rfl⟩
      go_wp2_with fail
      refine I2.out.mono ?_
      rintro e w2 ⟨rfl, rfl⟩
      go_wp2
      go_ret2
      exact ⟨_, rfl, HE.out, Below.refl _ _⟩
    | true =>
      rw [mb] at I2
      have wl : IntKind.i64.wrap ((a.length : Int) + (b.length : Int)) = ((a.length + b.length : Nat) : Int) := by rw [IntKind.wrap_i64]; omega
      by_cases hs : a.length + b.length ≤ 9
      · rw [show joinG a b = some (joinT a b) from if_pos ⟨ma, mb, hs⟩]
        have fa := isMat_facts ma
        have hb1 := (isMat_iff.1 mb).1.1
        have HQ := Lib.hid (impl_squareOf A1 c1 a fa w h1)
        have HR := Lib.hid (fun w' => impl_rows (sideK a b b.length) (a.length + b.length) hs w')
        rw [sideK_all fa] at HR
        have HB := Lib.hid (isMat_facts mb).row
        have H2 := Lib.hid h2
        have HK0 := Lib.hid (sideK_zero a b)
        have HKN := Lib.hid (sideK_next a b)
        obtain ⟨Z, hz, HZ⟩ := sq_zero
        clear h1 h2 ma mb fa
        go_enter Tryz.func10, Tryz.ntmps10
        go_wp2_with fail
        refine I1.out.mono ?_
        rintro e wi ⟨rfl, hw⟩
        obtain rfl : w = wi := hw.symm
        go_wp2_with fail
        refine I2.out.mono ?_
        rintro e wi ⟨rfl, hw⟩
        obtain rfl : w = wi := hw.symm
        go_wp2_with fail
        refine HQ.out.mono ?_
        rintro e w1 ⟨rfl, b1⟩
        have hsq : SqAt (w1.alloc (.cells Z 59)) w1.heap.size (fun _ _ => 0) := by rw [HZ.out]; exact SqAt.new w1 _
        have HS0 := Lib.hid (hsq.stored (f' := cellOf a))
        have HB1 := Lib.hid (below_row (b1.alloc b1.size (.cells Z 59)) (show w.heap.size ≤ w1.heap.size from b1.size) (sqA (cellOf a)))
        have HSQ := Lib.hid hsq
        have hsz := b1.size
        clear b1 hsq HQ I1 I2 HE
        have hst := HSQ.out.store (f' := cellOf a)
        go_wp2
        go_loopw [29] (fun iv wr => ∃ k : Nat, k ≤ b.length ∧ iv = .int .i64 k ∧ SqAt wr w1.heap.size (sideK a b k) ∧ Below w.heap.size w wr) (fun iv _ => b.length - (intOf iv).toNat)
        case atStart => exact ⟨0, Nat.zero_le _, rfl, by rw [HK0.out]; exact HS0.out, HB1.out⟩
        case round =>
          obtain ⟨k, hk, rfl, hsk, hbl⟩ := hrel
          by_cases hlt : k < b.length
          · obtain ⟨bb, off, A', c', rfl, hc, hrow, hbs⟩ := (H2.out.below hbl).row hlt
            have hlen := HB.out k hlt
            obtain ⟨b2, off2, rfl, hat, _⟩ := hrow (by omega)
            have hcp := copy_seg (cc := c') (n := 9 - a.length) (c := 9 - a.length) (r := a.length + k) (q := a.length) hsk (by omega) (by omega) (by omega) hat
            rw [HKN.out k hlen] at hcp
            have HS := Lib.hid (hsk.stored (f' := sideK a b (k + 1)))
            have HBB := Lib.hid (below_row hbl (show w.heap.size ≤ w1.heap.size from hsz) (sqA (sideK a b (k + 1))))
            have hcut := row_from w1.heap.size ((a.length + k) * 9) a.length (by omega)
            have w2 : IntKind.i64.wrap ((a.length : Int) + (k : Int)) = ((a.length + k : Nat) : Int) := by rw [IntKind.wrap_i64]; omega
            rw [hlen] at hc hcp
            clear hsk hbl hat hrow
            generalize hak : a.length + k = ak at *
            go_wp2
            go_roundw
            case rel => exact ⟨k + 1, by omega, by go_num, HS.out, HBB.out⟩
            case measure => simp [intOf]; omega
          · obtain rfl : k = b.length := by omega
            have HS := Lib.hid hsk
            have HBB := Lib.hid hbl
            have hsz2 := hbl.size
            clear hsk hbl
            generalize sideK a b b.length = F at *
            generalize hab : a.length + b.length = N at *
            go_wp2
            refine sq_load HS.out _ rfl rfl ?_
            go_wp2_with fail
            refine (HR.out _).mono ?_
            rintro e w3 ⟨v, rfl, ho, b3⟩
            have HO := Lib.hid (ho.mono hsz2)
            have HB3 := Lib.hid (HBB.out.trans (b3.mono hsz2))
            obtain ⟨A, c, rfl, -⟩ := ho.gridS
            clear ho b3
            go_wp2
            go_ret2
            exact ⟨_, rfl, HO.out, HB3.out⟩
      · rw [show joinG a b = none from if_neg (by omega)]
        clear h1 h2 ma mb
        go_enter Tryz.func10, Tryz.ntmps10
        go_wp2_with fail
        refine I1.out.mono ?_
        rintro e wi ⟨rfl, hw⟩
        obtain rfl : w = wi := hw.symm
        go_wp2_with fail
        refine I2.out.mono ?_
        rintro e wi ⟨rfl, hw⟩
        obtain rfl : w = wi := hw.symm
        go_wp2
        go_ret2
        exact ⟨_, rfl, HE.out, Below.refl _ _⟩
end Go.Proofs.YtalclebehbdliaaGreatDoor
