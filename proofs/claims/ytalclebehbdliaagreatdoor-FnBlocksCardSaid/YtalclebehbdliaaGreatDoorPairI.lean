/-
  The program's PairGraph: what the plain words say, in new memory; nothing that was there before is changed.
-/
import Derived.Test.YtalclebehbdliaaGreatDoorPairSpec
import Derived.Test.YtalclebehbdliaaGreatDoorSideI
import Derived.Test.YtalclebehbdliaaGreatDoorBlockI
import Derived.Deep.RegionHeld3
namespace Go.Proofs.YtalclebehbdliaaGreatDoor
open Go Go.RowKit

def multF (x : Int) (ys : List Int) (l : Nat) : Int := x * ys.getD l 0

set_option maxRecDepth 100000 in
set_option maxHeartbeats 3200000 in
theorem impl_multiplesOf (A : Option Addr) (c : Nat) (ys : List Int) (hl : ys.length ≤ 9) (hy : ∀ k, k < ys.length → 0 ≤ ys.getD k 0 ∧ ys.getD k 0 ≤ 1000000) (x : Int) (hx : 0 ≤ x ∧ x ≤ 1000000) (w : World) (hr : RowS w A ys) :
    Calls Tryz.prog 44 #[.slice A ys.length c, .int .i64 x] w (NewA ((List.range ys.length).map (multF x ys)) w) := by
  obtain ⟨j0, hj0, hy0, hy1, hy2⟩ := info_parts infoInt
  have HR := Lib.hid hr
  have HY := Lib.hid hy
  have HALL := Lib.hid (upL_all (multF x ys) ys.length)
  clear hr hy
  go_enter Tryz.func44, Tryz.ntmps44
  go_wp2_with (at_make; refine wpList_make_full _ rfl _ _ 48 rfl w.heap.size 3 j0 (.int .i64 0) 1 Tryz.underlying48 hj0 hy0 hy1 .i64 .i64 _ _ ys.length rfl rfl rfl rfl (by rw [hy2]; omega) (by unfold maxLen; omega) (Nat.le_refl _) ?_; intro w2 hown hgrow)
  have ho0 := made_ints hown
  have hbel : Below w.heap.size w w2 := grown_below hgrow
  rw [upL_zero (multF x ys)] at ho0
  have HO2 := Lib.hid ho0
  have HB2 := Lib.hid hbel
  clear hown hgrow hbel ho0
  go_loopw [13] (fun iv wr => ∃ i : Nat, i ≤ ys.length ∧ iv = .int .i64 (i : Int) ∧ Hid (wr.ownsRow w.heap.size 3 1 (.slice (some ⟨w.heap.size, 0, none⟩) ys.length ys.length) ys.length ((upL (multF x ys) ys.length i).map (Value.int .i64))) ∧ Hid (Below w.heap.size w wr)) (fun iv _ => ys.length - (intOf iv).toNat)
  case atStart => exact ⟨0, Nat.zero_le _, rfl, HO2, HB2⟩
  case round =>
    clear HO2 HB2
    obtain ⟨i, hi, rfl, HO3, HB3⟩ := hrel
    by_cases hil : i < ys.length
    · obtain ⟨b2, off2, rfl, hat, _⟩ := (HR.out.below HB3.out) (by omega)
      have ka := hat i hil
      obtain ⟨y0, y1⟩ := HY.out i hil
      have hnx := upL_next (multF x ys) ys.length i
      have hmf : multF x ys i = x * ys.getD i 0 := rfl
      rw [hmf] at hnx
      have hm0 := Int.mul_nonneg hx.1 y0
      have hm1 : x * ys.getD i 0 ≤ 1000000 * 1000000 := Int.le_trans (Int.mul_le_mul_of_nonneg_right hx.2 y0) (Int.mul_le_mul_of_nonneg_left y1 (by decide))
      have w1 : IntKind.i64.wrap (x * ys.getD i 0) = x * ys.getD i 0 := by rw [IntKind.wrap_i64]; omega
      obtain ⟨hc4, hf4, HO5, HB5⟩ := put_num (upL_len _ _ _) hil hnx HO3.out (Nat.le_refl _) HB3.out
      generalize (upL (multF x ys) ys.length i).getD i 0 = z at *
      clear hmf hnx hm0 hm1 hat
      generalize ys.getD i 0 = y at *
      go_wp2
      go_roundw
      case rel => exact ⟨i + 1, by omega, by go_num, HO5, HB5⟩
      case measure => simp [intOf]; omega
    · obtain rfl : i = ys.length := by omega
      have ho3 := HO3.out
      rw [HALL.out] at ho3
      have HO4 : Hid (OwnA wr w.heap.size (.slice (some ⟨w.heap.size, 0, none⟩) ys.length ys.length) ((List.range ys.length).map (multF x ys))) := Lib.hid (by
        unfold OwnA
        rw [List.length_map, List.length_range]
        exact ho3)
      clear ho3
      go_wp2
      go_ret
      exact ⟨_, rfl, HO4.out, HB3.out⟩

/-! ### Filling by blocks -/

theorem div_mod_at {d i k : Nat} (hk : k < d) : (i * d + k) / d = i ∧ (i * d + k) % d = k := by
  have hd : 0 < d := by omega
  constructor
  · rw [Nat.mul_comm, Nat.mul_add_div hd, Nat.div_eq_of_lt hk]; rfl
  · rw [Nat.mul_comm, Nat.mul_add_mod, Nat.mod_eq_of_lt hk]
theorem at_div_mod (x d : Nat) : x = x / d * d + x % d := by
  rw [Nat.mul_comm]; exact (Nat.div_add_mod x d).symm
/-- The blocks ahead of i and j, and k rows there. -/
def blkF (a b : List (List Int)) (i j k : Nat) : Nat → Nat → Int := fun x y => if y < a.length * b.length ∧ (x / b.length < i ∨ (x / b.length = i ∧ (y / b.length < j ∨ (y / b.length = j ∧ x % b.length < k)))) then pairF a b x y else 0
theorem blkF_zero (a b : List (List Int)) : blkF a b 0 0 0 = fun _ _ => 0 := by
  funext x y; unfold blkF; generalize x / b.length = xd at *; generalize y / b.length = yd at *; generalize x % b.length = xm at *; rw [if_neg (by omega)]
theorem blkF_next (a b : List (List Int)) (i j k : Nat) (hj : j < a.length) (hk : k < b.length) (hb : (b.getD k []).length = b.length) :
    segF (blkF a b i j k) (i * b.length + k) (j * b.length) ((List.range b.length).map (multF (cellOf a i j) (b.getD k []))) = blkF a b i j (k + 1) := by
  have hjl : j * b.length + b.length ≤ a.length * b.length := by
    rw [← Nat.succ_mul]; exact Nat.mul_le_mul_right _ hj
  funext x y
  unfold segF blkF
  rw [List.length_map, List.length_range]
  obtain ⟨q1, q2⟩ := div_mod_at (i := i) hk
  by_cases c : x = i * b.length + k ∧ j * b.length ≤ y ∧ y < j * b.length + b.length
  · obtain ⟨rfl, y1, y2⟩ := c
    obtain ⟨z, rfl⟩ : ∃ z, y = j * b.length + z := ⟨y - j * b.length, by omega⟩
    obtain ⟨r1, r2⟩ := div_mod_at (i := j) (show z < b.length by omega)
    rw [if_pos ⟨rfl, by omega, by omega⟩, q1, q2, r1, if_pos (by omega), show j * b.length + z - j * b.length = z by omega]
    unfold pairF multF
    rw [q1, q2, r1, r2, List.getD_eq_getElem?_getD, List.getElem?_map, List.getElem?_range (by omega)]
    rfl
  · rw [if_neg c]
    have hn : ¬ (x / b.length = i ∧ x % b.length = k ∧ y / b.length = j) := by
      rintro ⟨h1, h2, h3⟩
      refine c ⟨by have := at_div_mod x b.length; rw [h1, h2] at this; exact this, ?_⟩
      have h4 := at_div_mod y b.length
      rw [h3] at h4
      have h5 := Nat.mod_lt y (show 0 < b.length by omega)
      omega
    by_cases c2 : y < a.length * b.length ∧ (x / b.length < i ∨ (x / b.length = i ∧ (y / b.length < j ∨ (y / b.length = j ∧ x % b.length < k))))
    · rw [if_pos c2, if_pos (by omega)]
    · rw [if_neg c2, if_neg (by omega)]
theorem blkF_col (a b : List (List Int)) (i j : Nat) (hb : 0 < b.length) : blkF a b i j b.length = blkF a b i (j + 1) 0 := by
  funext x y
  unfold blkF
  have := Nat.mod_lt x hb
  by_cases c : y < a.length * b.length ∧ (x / b.length < i ∨ (x / b.length = i ∧ (y / b.length < j ∨ (y / b.length = j ∧ x % b.length < b.length))))
  · rw [if_pos c, if_pos (by omega)]
  · rw [if_neg c, if_neg (by omega)]
theorem blkF_row (a b : List (List Int)) (i : Nat) (hb : 0 < b.length) : blkF a b i a.length 0 = blkF a b (i + 1) 0 0 := by
  funext x y
  unfold blkF
  by_cases hy : y < a.length * b.length
  · have := (div_in hb hy).1
    generalize x / b.length = xd at *
    generalize y / b.length = yd at *
    generalize x % b.length = xm at *
    by_cases c : y < a.length * b.length ∧ (xd < i ∨ (xd = i ∧ (yd < a.length ∨ (yd = a.length ∧ xm < 0))))
    · rw [if_pos c, if_pos (by omega)]
    · rw [if_neg c, if_neg (by omega)]
  · rw [if_neg (fun h => hy h.1), if_neg (fun h => hy h.1)]
theorem blkF_all (a b : List (List Int)) (hb : 0 < b.length) : tabOf (a.length * b.length) (a.length * b.length) (blkF a b a.length 0 0) = pairT a b := by
  refine tabOf_congr fun x y hx hy => ?_
  unfold blkF
  have := (div_in hb hx).1
  rw [if_pos ⟨hy, Or.inl this⟩]; rfl

set_option maxRecDepth 100000 in
set_option maxHeartbeats 6400000 in
theorem impl_pairGraph (A1 A2 : Option Addr) (c1 c2 : Nat) (a b : List (List Int)) (ha : a.length ≤ 1048576) (hb : b.length ≤ 1048576) (ta : tot a ≤ 1048576) (tb : tot b ≤ 1048576) (w : World) (h1 : GridS w A1 a) (h2 : GridS w A2 b) :
    Calls Tryz.prog 13 #[.slice A1 a.length c1, .slice A2 b.length c2] w (NewGB (pairG a b) w) := by
  have I1 := Lib.hid (impl_isMatrix A1 c1 a (by omega) (fun k hk => by have := row_le_tot hk; omega) w h1)
  have I2 := Lib.hid (impl_isMatrix A2 c2 b (by omega) (fun k hk => by have := row_le_tot hk; omega) w h2)
  have HE := Lib.hid (fun w' => ownG_nil w' w.heap.size)
  cases ma : isMat a with
  | false =>
    rw [ma] at I1
    rw [show pairG a b = none from if_neg (by rw [ma]; simp)]
    clear h1 h2 I2
    go_enter Tryz.func13, Tryz.ntmps13
    go_wp2_with fail
    refine I1.out.mono ?_
    rintro e w1 ⟨rfl, rfl⟩
    go_wp2
    go_ret2
    exact ⟨_, rfl, HE.out _, Below.refl _ _⟩
  | true =>
    rw [ma] at I1
    cases mb : isMat b with
    | false =>
      rw [mb] at I2
      rw [show pairG a b = none from if_neg (by rw [mb]; simp)]
      clear h1 h2
      go_enter Tryz.func13, Tryz.ntmps13
      go_wp2_with fail
      refine I1.out.mono ?_
      rintro e w1 ⟨rfl, rfl⟩
      go_wp2_with fail
      refine I2.out.mono ?_
      rintro e w2 ⟨rfl, rfl⟩
      go_wp2
      go_ret2
      exact ⟨_, rfl, HE.out _, Below.refl _ _⟩
    | true =>
      rw [mb] at I2
      have la := (isMat_iff.1 ma).1
      have lb := (isMat_iff.1 mb).1
      have hmul : a.length * b.length ≤ 9 * 9 := Nat.mul_le_mul la.2 lb.2
      have wl : IntKind.i64.wrap ((a.length : Int) * (b.length : Int)) = ((a.length * b.length : Nat) : Int) := by rw [← Int.natCast_mul, IntKind.wrap_i64]; omega
      by_cases hs : a.length * b.length ≤ 9
      · rw [show pairG a b = if isMat (pairT a b) = true then some (pairT a b) else none by
          unfold pairG
          by_cases hp : isMat (pairT a b) = true
          · rw [if_pos ⟨ma, mb, hs, hp⟩, if_pos hp]
          · rw [if_neg (fun h => hp h.2.2.2), if_neg hp]]
        have HA := Lib.hid (isMat_facts ma)
        have HB := Lib.hid (isMat_facts mb)
        have CA := Lib.hid (fun i j (hi : i < a.length) (hj : j < a.length) => ((isMat_iff.1 ma).2 i hi).2 j hj)
        have H1 := Lib.hid h1
        have H2 := Lib.hid h2
        have HMU : Hid (∀ k A c x w', k < b.length → 0 ≤ x ∧ x ≤ 1000000 → RowS w' A (b.getD k []) → Calls Tryz.prog 44 #[.slice A b.length c, .int .i64 x] w' (NewA ((List.range b.length).map (multF x (b.getD k []))) w')) := Lib.hid fun k A c x w' hk hx hr => by
          have hl := (isMat_facts mb).row k hk
          have h := impl_multiplesOf A c (b.getD k []) (by omega) (fun l hl' => by rw [hl] at hl'; exact ((isMat_iff.1 mb).2 k hk).2 l hl') x hx w' hr
          rwa [hl] at h
        have HR := Lib.hid (fun w' => impl_rows (blkF a b a.length 0 0) (a.length * b.length) hs w')
        rw [blkF_all a b (by omega)] at HR
        have HIM : Hid (∀ A c w', GridS w' A (pairT a b) → Calls Tryz.prog 39 #[.slice A (pairT a b).length c] w' fun e w2 => e = .returned (.bool (isMat (pairT a b))) ∧ w2 = w') := Lib.hid fun A c w' hg => by
          have hl : (pairT a b).length = a.length * b.length := tabOf_length _ _ _
          exact impl_isMatrix A c (pairT a b) (by omega) (fun k hk => by rw [hl] at hk; rw [show (pairT a b).getD k [] = _ from tabOf_row hk]; simp; omega) w' hg
        have HR1 : Hid (isMat (pairT a b) = true → (if isMat (pairT a b) = true then some (pairT a b) else none) = some (pairT a b)) := Lib.hid fun h => if_pos h
        have HR2 : Hid (isMat (pairT a b) = false → (if isMat (pairT a b) = true then some (pairT a b) else none) = none) := Lib.hid fun h => if_neg (by rw [h]; decide)
        generalize (if isMat (pairT a b) = true then some (pairT a b) else none) = r at *
        generalize pairT a b = p at *
        have HK0 := Lib.hid (blkF_zero a b)
        have HKN := Lib.hid (blkF_next a b)
        have HKC := Lib.hid (fun i j => blkF_col a b i j (by omega))
        have HKR := Lib.hid (fun i => blkF_row a b i (by omega))
        have HIL : Hid (∀ i, i < a.length → i * b.length + b.length ≤ 9) := Lib.hid fun i hi => by
          have h : (i + 1) * b.length ≤ a.length * b.length := Nat.mul_le_mul_right _ hi
          rw [Nat.succ_mul] at h
          omega
        obtain ⟨Z, hz, HZ⟩ := sq_zero
        have hsq : SqAt (w.alloc (.cells Z 59)) w.heap.size (blkF a b 0 0 0) := by rw [HZ.out, HK0.out]; exact SqAt.new w _
        have HS0 := Lib.hid hsq
        have HB0 : Hid (Below w.heap.size w (w.alloc (.cells Z 59))) := Lib.hid ((Below.refl _ _).alloc (Nat.le_refl _) _)
        clear h1 h2 ma mb hmul hsq
        go_enter Tryz.func13, Tryz.ntmps13
        go_wp2_with fail
        refine I1.out.mono ?_
        rintro e wi ⟨rfl, hw⟩
        obtain rfl : w = wi := hw.symm
        go_wp2_with fail
        refine I2.out.mono ?_
        rintro e wi ⟨rfl, hw⟩
        obtain rfl : w = wi := hw.symm
        clear I1 I2
        generalize hab : a.length * b.length = N at *
        go_wp2
        go_loopw [32] (fun iv wr => ∃ i : Nat, i ≤ a.length ∧ iv = .int .i64 i ∧ SqAt wr w.heap.size (blkF a b i 0 0) ∧ Below w.heap.size w wr) (fun iv _ => a.length - (intOf iv).toNat)
        case atStart => exact ⟨0, Nat.zero_le _, rfl, HS0.out, HB0.out⟩
        case round =>
          obtain ⟨i, hi, rfl, hsk, hbl⟩ := hrel
          by_cases hil : i < a.length
          · obtain ⟨ab, ao, A', c', rfl, hc, hrow, has⟩ := H1.out.row hil
            have hlen := HA.out.row i hil
            obtain ⟨b2, off2, rfl, hat, hb2⟩ := hrow (by omega)
            rw [hlen] at hc
            have hc' := (hbl.cell (p := ⟨ab, ao + i, none⟩) has).trans hc
            have HAT : Hid (∀ j, j < a.length → w.cell? ⟨b2, off2 + j, none⟩ = some (.int .i64 (cellOf a i j))) := Lib.hid fun j hj => hat j (by omega)
            have HS1 := Lib.hid hsk
            have HB1 := Lib.hid hbl
            clear hsk hbl hat hrow hc
            obtain ⟨W1, rfl⟩ : ∃ W1 : World, W1 = wr := ⟨_, rfl⟩
            go_wp2
            go_loopw [39] (fun jv wr => ∃ j : Nat, j ≤ a.length ∧ jv = .int .i64 j ∧ SqAt wr w.heap.size (blkF a b i j 0) ∧ Below w.heap.size w wr) (fun jv _ => a.length - (intOf jv).toNat)
            case atStart => exact ⟨0, Nat.zero_le _, rfl, HS1.out, HB1.out⟩
            case round =>
              obtain ⟨j, hj, rfl, hsk, hbl⟩ := hrel
              by_cases hjl : j < a.length
              · have hx := (hbl.cell (p := ⟨b2, off2 + j, none⟩) hb2).trans (HAT.out j hjl)
                obtain ⟨x0, x1⟩ := CA.out i j hil hjl
                have HMX := Lib.hid (fun k A c w' hk hr => HMU.out k A c (cellOf a i j) w' hk ⟨x0, x1⟩ hr)
                have HKX := Lib.hid (fun k hk hb => HKN.out i j k hjl hk hb)
                generalize cellOf a i j = x at *
                have HS2 := Lib.hid hsk
                have HB2 := Lib.hid hbl
                have iil := HIL.out i hil
                have jjl := HIL.out j hjl
                have wj : IntKind.i64.wrap ((j : Int) * (b.length : Int)) = ((j * b.length : Nat) : Int) := by rw [← Int.natCast_mul, IntKind.wrap_i64]; omega
                have wi : IntKind.i64.wrap ((i : Int) * (b.length : Int)) = ((i * b.length : Nat) : Int) := by rw [← Int.natCast_mul, IntKind.wrap_i64]; omega
                clear hsk hbl
                generalize i * b.length = ib at *
                generalize j * b.length = jb at *
                obtain ⟨W2, rfl⟩ : ∃ W2 : World, W2 = wr := ⟨_, rfl⟩
                go_wp2
                go_loopw [46] (fun kv wr => ∃ k : Nat, k ≤ b.length ∧ kv = .int .i64 k ∧ SqAt wr w.heap.size (blkF a b i j k) ∧ Below w.heap.size w wr) (fun kv _ => b.length - (intOf kv).toNat)
                case atStart => exact ⟨0, Nat.zero_le _, rfl, HS2.out, HB2.out⟩
                case round =>
                  obtain ⟨k, hk, rfl, hsk, hbl⟩ := hrel
                  by_cases hkl : k < b.length
                  · obtain ⟨bb, bo, A3, c3, rfl, hc3, hrow3, hbs⟩ := H2.out.row hkl
                    have hlen3 := HB.out.row k hkl
                    rw [hlen3] at hc3
                    have hc3' := (hbl.cell (p := ⟨bb, bo + k, none⟩) hbs).trans hc3
                    have HC : Hid (∀ w', Below wr.heap.size wr w' → Calls Tryz.prog 44 #[.slice A3 b.length c3, .int .i64 x] w' (NewA ((List.range b.length).map (multF x (b.getD k []))) w')) := Lib.hid fun w' hb' => HMX.out k A3 c3 w' hkl ((hrow3.below hbl).below hb')
                    have HKK := Lib.hid (HKX.out k hkl hlen3)
                    have hXl : ((List.range b.length).map (multF x (b.getD k []))).length = b.length := by simp
                    have wk : IntKind.i64.wrap ((ib : Int) + (k : Int)) = ((ib + k : Nat) : Int) := by rw [IntKind.wrap_i64]; omega
                    have hcut := fun w' => row_from w.heap.size ((ib + k) * 9) jb (by omega) w'
                    have HSK := Lib.hid hsk
                    have HBK := Lib.hid hbl
                    clear hsk hbl hc3 hrow3
                    have HCP : Hid (∀ (w' : World) (v : Value), Below wr.heap.size wr w' → OwnA w' wr.heap.size v ((List.range b.length).map (multF x (b.getD k []))) → ∃ A c, v = .slice A b.length c ∧ (∀ ty, (Builtin.copy_ #[48, 48] ty #[.slice (some ⟨w.heap.size, (ib + k) * 9 + jb, none⟩) (9 - jb) (9 - jb), .slice A b.length c]).run Tryz.prog w' = .ok (goInt b.length) (w'.setRow w.heap.size (sqA (blkF a b i j (k + 1))))) ∧ Hid (SqAt (w'.setRow w.heap.size (sqA (blkF a b i j (k + 1)))) w.heap.size (blkF a b i j (k + 1)) ∧ Below w.heap.size w (w'.setRow w.heap.size (sqA (blkF a b i j (k + 1)))))) := Lib.hid fun w' v hb' ho => by
                      obtain ⟨A, c, rfl, hr⟩ := ho.rowV
                      rw [hXl]
                      obtain ⟨b5, o5, rfl, hat5, _⟩ := hr (by rw [hXl]; omega)
                      refine ⟨_, c, rfl, fun ty => ?_, Lib.hid ⟨(HSK.out.below hb').stored, below_row (HBK.out.trans (hb'.mono HBK.out.size)) (Nat.le_refl _) _⟩⟩
                      have h := copy_seg (cc := c) (n := 9 - jb) (c := 9 - jb) (r := ib + k) (q := jb) (HSK.out.below hb') (by omega) (by rw [hXl]; omega) (by rw [hXl]; omega) hat5 ty
                      rw [HKK.out, hXl] at h
                      exact h
                    clear HKK hXl
                    generalize (List.range b.length).map (multF x (b.getD k [])) = X at *
                    generalize hik : ib + k = ik at *
                    have ik0 : (0 : Int) ≤ (ik : Int) := by omega
                    have ik9 : (ik : Int) < 9 := by omega
                    have jb9 : (jb : Int) ≤ 9 := by omega
                    go_wp2
                    go_region_held3 (fun _ => True) (first | trivial | go_keep) (first | (go_at_call 44; refine (HC.out _ (by first | exact Below.refl _ _ | exact below_drewN (Below.refl _ _) _)).mono ?_; rintro e w4 ⟨v4, rfl, ho4, b4⟩; obtain ⟨A5, c5, rfl, hcp, HFIN⟩ := HCP.out w4 v4 (by first | exact b4 | exact below_behind (below_drewN (Below.refl _ _) _) b4) ho4; have hcpt := hcp 3; clear ho4 b4))
                    go_wp2
                    go_roundw
                    case rel => exact ⟨k + 1, by omega, by go_num, HFIN.out.1, HFIN.out.2⟩
                    case measure => simp [intOf]; omega
                  · obtain rfl : k = b.length := by omega
                    rw [HKC.out] at hsk
                    have HS3 := Lib.hid hsk
                    clear hsk
                    go_wp2
                    go_roundw
                    case rel => exact ⟨j + 1, by omega, by go_num, HS3.out, hbl⟩
                    case measure => simp [intOf]; omega
              · obtain rfl : j = a.length := by omega
                rw [HKR.out] at hsk
                have HS3 := Lib.hid hsk
                clear hsk
                go_wp2
                go_roundw
                case rel => exact ⟨i + 1, by omega, by go_num, HS3.out, hbl⟩
                case measure => simp [intOf]; omega
          · obtain rfl : i = a.length := by omega
            have HS := Lib.hid hsk
            have HBB := Lib.hid hbl
            have hsz2 := hbl.size
            clear hsk hbl
            generalize blkF a b a.length 0 0 = F at *
            go_wp2
            refine sq_load HS.out _ rfl rfl ?_
            go_wp2_with fail
            refine (HR.out _).mono ?_
            rintro e w3 ⟨v, rfl, ho, b3⟩
            have HO := Lib.hid (ho.mono hsz2)
            have HB3 := Lib.hid (HBB.out.trans (b3.mono hsz2))
            obtain ⟨A, c, rfl, hg⟩ := ho.gridS
            have HC := Lib.hid (HIM.out A c w3 hg)
            clear ho b3 hg
            go_wp2_with fail
            refine HC.out.mono ?_
            rintro e wi ⟨rfl, hw⟩
            obtain rfl : w3 = wi := hw.symm
            cases hp : isMat p with
            | true =>
              have hr := HR1.out hp
              subst hr
              clear HR1 HR2
              go_wp2
              go_ret2
              exact ⟨_, rfl, HO.out, HB3.out⟩
            | false =>
              have hr := HR2.out hp
              subst hr
              clear HR1 HR2
              go_wp2
              go_ret2
              exact ⟨_, rfl, HE.out _, HB3.out⟩
      · rw [show pairG a b = none from if_neg (fun h => hs h.2.2.1)]
        clear h1 h2 ma mb
        go_enter Tryz.func13, Tryz.ntmps13
        go_wp2_with fail
        refine I1.out.mono ?_
        rintro e wi ⟨rfl, hw⟩
        obtain rfl : w = wi := hw.symm
        go_wp2_with fail
        refine I2.out.mono ?_
        rintro e wi ⟨rfl, hw⟩
        obtain rfl : w = wi := hw.symm
        have hng : ¬ ((a.length * b.length : Nat) : Int) ≤ 9 := by omega
        generalize a.length * b.length = N at *
        go_wp2
        go_ret2
        exact ⟨_, rfl, HE.out _, Below.refl _ _⟩
end Go.Proofs.YtalclebehbdliaaGreatDoor
