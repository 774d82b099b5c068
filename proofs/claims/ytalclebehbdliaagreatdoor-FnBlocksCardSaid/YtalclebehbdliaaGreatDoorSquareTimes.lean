/-
  The program's product of two squares: the square of the products' numbers; nothing that was there before is changed.
-/
import Derived.Test.YtalclebehbdliaaGreatDoorSquareOf
import Derived.Test.YtalclebehbdliaaGreatDoorBaseTexts
import Derived.BigRegion
namespace Go.Proofs.YtalclebehbdliaaGreatDoor
open Go Go.RowKit

/-- The numbers lie between 0 and a million. -/
def SmallF (f : Nat → Nat → Int) : Prop := ∀ i j, i < 9 → j < 9 → 0 ≤ f i j ∧ f i j ≤ 1000000
theorem smallF_cell {m : List (List Int)} (h : MatFacts m) : SmallF (cellOf m) := by
  intro i j _ _
  by_cases hi : i < m.length
  · by_cases hj : j < m.length
    · exact h.cell i j hi hj
    · unfold cellOf
      have := h.row i hi
      rw [List.getD_eq_getElem?_getD, List.getElem?_eq_none (by omega)]
      simp
  · unfold cellOf
    have e : m.getD i [] = [] := by
      rw [List.getD_eq_getElem?_getD, List.getElem?_eq_none (by omega)]
      rfl
    rw [e]
    simp
def termsQ (f g : Nat → Nat → Int) (i j t : Nat) : Int := sumTo t fun k => f i k * g k j
def timesQ (f g : Nat → Nat → Int) (i j t : Nat) : Nat → Nat → Int := fun a b => if a < i ∨ (a = i ∧ b < j) then termsQ f g a b 9 else if a = i ∧ b = j then termsQ f g i j t else 0
theorem timesQ_zero (f g : Nat → Nat → Int) (a b : Nat) : timesQ f g 0 0 0 a b = 0 := by
  unfold timesQ termsQ
  rw [if_neg (by omega)]
  split <;> rfl
theorem timesQ_cell (f g : Nat → Nat → Int) (i j t : Nat) : timesQ f g i j t i j = termsQ f g i j t := by
  unfold timesQ
  rw [if_neg (by omega), if_pos ⟨rfl, rfl⟩]
theorem timesQ_term (f g : Nat → Nat → Int) (i j t a b : Nat) : putF (timesQ f g i j t) i j (termsQ f g i j t + f i t * g t j) a b = timesQ f g i j (t + 1) a b := by
  unfold putF
  by_cases e : a = i ∧ b = j
  · obtain ⟨rfl, rfl⟩ := e
    rw [if_pos ⟨rfl, rfl⟩]
    unfold timesQ
    rw [if_neg (by omega), if_pos ⟨rfl, rfl⟩]; rfl
  · rw [if_neg e]
    unfold timesQ
    rw [if_neg e, if_neg e]
theorem timesQ_next (f g : Nat → Nat → Int) (i j a b : Nat) : timesQ f g i j 9 a b = timesQ f g i (j + 1) 0 a b := by
  unfold timesQ
  by_cases h1 : a < i ∨ (a = i ∧ b < j)
  · rw [if_pos h1, if_pos (by omega)]
  · rw [if_neg h1]
    by_cases h2 : a = i ∧ b = j
    · obtain ⟨rfl, rfl⟩ := h2
      rw [if_pos ⟨rfl, rfl⟩, if_pos (by omega)]
    · rw [if_neg h2, if_neg (by omega)]
      split <;> rfl
theorem timesQ_row (f g : Nat → Nat → Int) (i a b : Nat) (hb : b < 9) : timesQ f g i 9 0 a b = timesQ f g (i + 1) 0 0 a b := by
  unfold timesQ
  by_cases h1 : a < i ∨ (a = i ∧ b < 9)
  · rw [if_pos h1, if_pos (by omega)]
  · rw [if_neg h1, if_neg (by omega), if_neg (by omega)]
    split <;> rfl
theorem timesQ_all (f g : Nat → Nat → Int) (a b : Nat) (ha : a < 9) : timesQ f g 9 0 0 a b = termsQ f g a b 9 := by
  unfold timesQ
  rw [if_pos (Or.inl ha)]
theorem termsQ_le {f g : Nat → Nat → Int} (hf : SmallF f) (hg : SmallF g) {i j t : Nat} (hi : i < 9) (hj : j < 9) (ht : t ≤ 9) : 0 ≤ termsQ f g i j t ∧ termsQ f g i j t ≤ t * 1000000000000 :=
  sumTo_le t fun k hk => prod_le (hf i k hi (by omega)) (hg k j (by omega) hj)
theorem SqAt.drew {w : World} {g : Nat} {f : Nat → Nat → Int} (h : SqAt w g f) : SqAt w.drew g f := h

/-- The product's four blocks behind the heap of w: the two squares, the result's, and the product so far. -/
structure TimesSt (f g : Nat → Nat → Int) (w : World) (p : Nat → Nat → Int) (wr : World) : Prop where
  one : SqAt wr w.heap.size f
  two : SqAt wr (w.heap.size + 1) g
  out : SqAt wr (w.heap.size + 1 + 1) fun _ _ => 0
  prod : SqAt wr (w.heap.size + 1 + 1 + 1) p
  below : Below w.heap.size w wr
theorem TimesSt.start (f g : Nat → Nat → Int) (w : World) : TimesSt f g w (fun _ _ => 0) ((((w.alloc (.cells (sqA f) 59)).alloc (.cells (sqA g) 59)).alloc (.cells (sqA fun _ _ => 0) 59)).alloc (.cells (sqA fun _ _ => 0) 59)) := by
  refine ⟨(((SqAt.new w f).alloc _).alloc _).alloc _, ?_, ?_, ?_, (((below_new.alloc ?_ _).alloc ?_ _).alloc ?_ _)⟩
  · have h := ((SqAt.new (w.alloc (.cells (sqA f) 59)) g).alloc (.cells (sqA fun _ _ => 0) 59)).alloc (.cells (sqA fun _ _ => 0) 59)
    rw [World.size_alloc] at h
    exact h
  · have h := (SqAt.new ((w.alloc (.cells (sqA f) 59)).alloc (.cells (sqA g) 59)) fun _ _ => 0).alloc (.cells (sqA fun _ _ => 0) 59)
    rw [World.size_alloc, World.size_alloc] at h
    exact h
  · have h := SqAt.new (((w.alloc (.cells (sqA f) 59)).alloc (.cells (sqA g) 59)).alloc (.cells (sqA fun _ _ => 0) 59)) fun _ _ => 0
    rw [World.size_alloc, World.size_alloc, World.size_alloc] at h
    exact h
  all_goals simp only [World.size_alloc]; omega
theorem TimesSt.congr {f g p p' : Nat → Nat → Int} {w wr : World} (h : TimesSt f g w p wr) (e : ∀ i j, i < 9 → j < 9 → p i j = p' i j) : TimesSt f g w p' wr := ⟨h.one, h.two, h.out, h.prod.congr e, h.below⟩
theorem TimesSt.put {f g p : Nat → Nat → Int} {w wr : World} (h : TimesSt f g w p wr) {i j : Nat} (hi : i < 9) (hj : j < 9) (x : Int) : TimesSt f g w (putF p i j x) (wr.setCell ⟨w.heap.size + 1 + 1 + 1, i * 9 + j, none⟩ (.int .i64 x)).drew :=
  ⟨h.one.set_other (show w.heap.size ≠ w.heap.size + 1 + 1 + 1 by omega), h.two.set_other (show w.heap.size + 1 ≠ w.heap.size + 1 + 1 + 1 by omega), h.out.set_other (show w.heap.size + 1 + 1 ≠ w.heap.size + 1 + 1 + 1 by omega), h.prod.put hi hj x, (h.below.setCell (by simp; omega) _).drew⟩

set_option maxRecDepth 100000 in
set_option maxHeartbeats 3200000 in
theorem impl_times (f g : Nat → Nat → Int) (hf : SmallF f) (hg : SmallF g) (w : World) :
    Calls Tryz.prog 93 #[.agg (sqA f), .agg (sqA g)] w (SqV (fun i j => termsQ f g i j 9) w) := by
  obtain ⟨Z, hz, HZ⟩ := sq_zero
  have HF := Lib.hid hf
  have HG := Lib.hid hg
  have HST := Lib.hid (TimesSt.start f g w)
  rw [← HZ.out] at HST
  clear hf hg HZ
  go_enter Tryz.func93, Tryz.ntmps93
  go_wp2
  go_loopw [9] (fun iv wr => ∃ i : Nat, i ≤ 9 ∧ iv = .int .i64 i ∧ TimesSt f g w (timesQ f g i 0 0) wr) (fun i _ => 9 - (intOf i).toNat)
  case atStart => exact ⟨0, Nat.zero_le _, rfl, HST.out.congr fun a b _ _ => (timesQ_zero f g a b).symm⟩
  case round =>
    obtain ⟨i, hi, rfl, hst⟩ := hrel
    by_cases hil : i < 9
    · have HS1 := Lib.hid hst
      clear hst
      obtain ⟨W1, rfl⟩ : ∃ W1 : World, W1 = wr := ⟨_, rfl⟩
      go_wp2
      go_loopw [12] (fun jv wr => ∃ j : Nat, j ≤ 9 ∧ jv = .int .i64 j ∧ TimesSt f g w (timesQ f g i j 0) wr) (fun j _ => 9 - (intOf j).toNat)
      case atStart => exact ⟨0, Nat.zero_le _, rfl, HS1.out⟩
      case round =>
        obtain ⟨j, hj, rfl, hst⟩ := hrel
        by_cases hjl : j < 9
        · have HS2 := Lib.hid hst
          clear hst
          obtain ⟨W2, rfl⟩ : ∃ W2 : World, W2 = wr := ⟨_, rfl⟩
          go_wp2
          go_loopw [15] (fun tv wr => ∃ t : Nat, t ≤ 9 ∧ tv = .int .i64 t ∧ TimesSt f g w (timesQ f g i j t) wr) (fun t _ => 9 - (intOf t).toNat)
          case atStart => exact ⟨0, Nat.zero_le _, rfl, HS2.out⟩
          case round =>
            obtain ⟨t, ht, rfl, hst⟩ := hrel
            by_cases htl : t < 9
            · have k1 := hst.prod.cell hil hjl
              have kf := hst.prod.frozen (i * 9 + j)
              have k2 := hst.one.cell hil htl
              have k3 := hst.two.cell htl hjl
              rw [timesQ_cell] at k1
              have hT := termsQ_le HF.out HG.out hil hjl (Nat.le_of_lt htl)
              have hxy := prod_le (HF.out i t hil htl) (HG.out t j htl hjl)
              have HS := Lib.hid ((hst.put hil hjl (termsQ f g i j t + f i t * g t j)).congr fun a b _ _ => timesQ_term f g i j t a b)
              clear hst
              generalize termsQ f g i j t = T at *
              generalize f i t = x at *
              generalize g t j = y at *
              have hT2 : T ≤ 9000000000000 := by omega
              go_wp2
              go_region
              go_wp2
              go_roundw
              case rel => exact ⟨t + 1, by omega, by go_num, HS.out⟩
              case measure => simp [intOf]; omega
            · obtain rfl : t = 9 := by omega
              have HS3 := Lib.hid (hst.congr fun a b _ _ => timesQ_next f g i j a b)
              clear hst
              go_wp2
              go_roundw
              case rel => exact ⟨j + 1, by omega, by go_num, HS3.out⟩
              case measure => simp [intOf]; omega
        · obtain rfl : j = 9 := by omega
          have HS3 := Lib.hid (hst.congr fun a b _ hb => timesQ_row f g i a b hb)
          clear hst
          go_wp2
          go_roundw
          case rel => exact ⟨i + 1, by omega, by go_num, HS3.out⟩
          case measure => simp [intOf]; omega
    · obtain rfl : i = 9 := by omega
      have HS3 := Lib.hid (hst.congr fun a b ha _ => timesQ_all f g a b ha)
      clear hst
      go_wp2
      refine sq_load HS3.out.prod _ rfl rfl ?_
      have hsr := HS3.out.out.store (f' := fun i j => termsQ f g i j 9)
      go_wp2
      refine bodyPost_ret (sq_results rfl _ _ (w.heap.size + 1 + 1) _ rfl HS3.out.out.stored) rfl ⟨rfl, below_row HS3.out.below (by omega) _⟩
end Go.Proofs.YtalclebehbdliaaGreatDoor
