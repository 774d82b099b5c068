/-
  The laws' helpers on slices of slices of numbers: how many numbers there are, counted down from a limit; a copy in new memory; two that hold the same are found equal.
-/
import Derived.Test.YtfgjlpnmjfekhaaRows
import Derived.Test.YtfgjlpnmjfekhaaGrid
import Derived.WalkLawsBesides
import Derived.Deep.QuietTactic
import Derived.BigQuiet
namespace Go.Proofs.Ytfgjlpnmjfekhaa
open Go Go.RowKit

theorem infoInt : (Try.prog.info? 3).map (fun i => (i.zero, i.size, i.bytes)) = some (some (.int .i64 0), 1, 8) := by kernel_rfl
theorem infoSl : (Try.prog.info? 33).map (fun i => (i.zero, i.size, i.bytes)) = some (some (.slice none 0 0), 1, 24) := by kernel_rfl

def TrueBelowG (w : World) (e : Ending) (w' : World) : Prop := e = .returned (.bool true) ∧ Below w.heap.size w w'
/-- What is left of the limit, or -1. -/
def LeftPost (L : Int) (n : Nat) (w : World) (e : Ending) (w' : World) : Prop := ∃ r : Int, e = .returned (.int .i64 r) ∧ (r = -1 ∨ (0 ≤ r ∧ r + n = L)) ∧ w' = w

set_option maxRecDepth 100000 in
theorem sz_ints (A : Option Addr) (n c : Nat) (L : Int) (hL0 : 0 ≤ L) (hL : L ≤ 1099511627776) (hn : n ≤ 9223372036854775807) (w : World) :
    Calls Try.prog 23 #[.slice A n c, .int .i64 L] w (LeftPost L n w) := by
  by_cases h0 : L - (n : Int) < 0
  · go_enter Try.func23, Try.ntmps23
    go_wp2
    go_ret
    exact ⟨-1, rfl, Or.inl rfl, rfl⟩
  · go_enter Try.func23, Try.ntmps23
    go_wp2
    go_ret
    exact ⟨L - n, rfl, Or.inr ⟨by omega, by omega⟩, rfl⟩

/-- What is left of the limit behind a table, or -1. -/
def SzGPost (L : Int) (m : List (List Int)) (w : World) (e : Ending) (w' : World) : Prop := ∃ r : Int, e = .returned (.int .i64 r) ∧ (r = -1 ∨ (0 ≤ r ∧ r + m.length + tot m = L)) ∧ w' = w

set_option maxRecDepth 100000 in
set_option maxHeartbeats 800000 in
theorem sz_grid (A : Option Addr) (c : Nat) (m : List (List Int)) (L : Int) (hL0 : 0 ≤ L) (hL : L ≤ 1099511627776) (hn : m.length ≤ 9223372036854775807) (hsz : ∀ k, k < m.length → (m.getD k []).length ≤ 9223372036854775807) (w : World) (hc : GridS w A m) :
    Calls Try.prog 8 #[.slice A m.length c, .int .i64 L] w (SzGPost L m w) := by
  by_cases h0 : L - (m.length : Int) < 0
  · go_enter Try.func8, Try.ntmps8
    go_wp2
    go_ret
    exact ⟨-1, rfl, Or.inl rfl, rfl⟩
  have HC := Lib.hid hc
  have HS := Lib.hid hsz
  clear hc hsz
  go_enter Try.func8, Try.ntmps8
  go_wp2
  go_loop [1, 5] (fun l i => ∃ (k : Nat) (r : Int), k ≤ m.length ∧ 0 ≤ r ∧ r ≤ L ∧ Hid (r + m.length + tot (m.take k) = L) ∧ l = .int .i64 r ∧ i = .int .i64 k) (fun _ i => m.length - (intOf i).toNat)
  case atStart => exact ⟨0, _, Nat.zero_le _, by omega, by omega, Lib.hid (by simp [tot]), rfl, rfl⟩
  case round =>
    obtain ⟨k, r, hk, hr0, hr1, hr, rfl, rfl⟩ := hrel
    by_cases hlt : k < m.length
    · have hnx := Lib.hid (tot_next m k hlt)
      have hs1 := HS.out k hlt
      obtain ⟨b, off, A', c', rfl, hc1, _, _⟩ := HC.out.row hlt
      generalize m.getD k [] = x at hc1 hs1 hnx
      have HZ := Lib.hid (sz_ints A' x.length c' r hr0 (by omega) hs1)
      go_wp2_with fail
      refine (HZ.out _).mono ?_
      rintro e w1 ⟨r1, rfl, hr2, rfl⟩
      rcases hr2 with rfl | ⟨hr2, hr3⟩
      · go_wp2
        go_ret
        exact ⟨-1, rfl, Or.inl rfl, rfl⟩
      · go_wp2
        go_round
        case rel => exact ⟨k + 1, r1, by omega, hr2, by omega, Lib.hid (by have := hnx.out; have := hr.out; omega), rfl, by go_num⟩
        case measure => simp [intOf]; omega
    · obtain rfl : k = m.length := by omega
      go_wp2
      go_ret
      exact ⟨r, rfl, Or.inr ⟨hr0, by have := hr.out; rw [tot_all (Nat.le_refl _)] at this; exact this⟩, rfl⟩

/-! ### Copies -/

/-- A row that is being filled from the front. -/
def filledI (xs : List Int) (k n : Nat) : List Value := (xs.take k).map (Value.int .i64) ++ List.replicate (n - k) (.int .i64 0)
theorem filledI_none (xs : List Int) (n : Nat) : filledI xs 0 n = List.replicate n (.int .i64 0) := by simp [filledI]
theorem filledI_all (xs : List Int) : filledI xs xs.length xs.length = xs.map (Value.int .i64) := by simp [filledI]
theorem ints_take_next (xs : List Int) (k : Nat) (h : k < xs.length) : xs.take (k + 1) = xs.take k ++ [xs.getD k 0] := by
  rw [List.take_succ_eq_append_getElem h]
  simp [List.getD, List.getElem?_eq_getElem h]
theorem filledI_set (xs : List Int) (k : Nat) (h : k < xs.length) : (filledI xs k xs.length).set k (.int .i64 (xs.getD k 0)) = filledI xs (k + 1) xs.length := by
  have hl : ((xs.take k).map (Value.int .i64)).length = k := by simp; omega
  have hr : List.replicate (xs.length - k) (Value.int .i64 0) = .int .i64 0 :: List.replicate (xs.length - (k + 1)) (.int .i64 0) := by
    rw [show xs.length - k = (xs.length - (k + 1)) + 1 by omega, List.replicate_succ]
  unfold filledI
  rw [ints_take_next xs k h, List.map_append, hr]
  rw [List.set_append_right _ _ (by omega), hl, Nat.sub_self]
  simp
theorem filledI_at (xs : List Int) (k : Nat) (h : k < xs.length) : (filledI xs k xs.length)[k]? = some (.int .i64 0) := by
  have hl : ((xs.take k).map (Value.int .i64)).length = k := by simp; omega
  unfold filledI
  rw [List.getElem?_append_right (by omega), hl, Nat.sub_self]
  rw [List.getElem?_replicate, if_pos (by omega)]

/-- A copy in new memory, at the heap's end. -/
def CopyIPost (xs : List Int) (w : World) (e : Ending) (w' : World) : Prop :=
  e = .returned (.slice (some ⟨w.heap.size, 0, none⟩) xs.length xs.length) ∧ w'.ownsRow w.heap.size 3 1 (.slice (some ⟨w.heap.size, 0, none⟩) xs.length xs.length) xs.length (xs.map (Value.int .i64)) ∧ Below w.heap.size w w' ∧ w.heap.size < w'.heap.size

set_option maxRecDepth 100000 in
set_option maxHeartbeats 800000 in
theorem copy_ints (A : Option Addr) (c : Nat) (xs : List Int) (hn : xs.length ≤ 1099511627776) (w : World) (hc : RowS w A xs) :
    Calls Try.prog 28 #[.slice A xs.length c] w (CopyIPost xs w) := by
  obtain ⟨i0, hi, hz0, hz1, hz2⟩ := info_parts infoInt
  have HC := Lib.hid hc
  clear hc
  go_enter Try.func28, Try.ntmps28
  go_wp2_with (at_make; refine wpList_make_full _ rfl _ _ 33 rfl w.heap.size 3 i0 (.int .i64 0) 1 Try.underlying33 hi hz0 hz1 .i64 .i64 _ _ xs.length rfl rfl rfl rfl (by rw [hz2]; omega) (by unfold maxLen; omega) (Nat.le_refl _) ?_; intro w1 hown hgrow)
  have hown0 : w1.ownsRow w.heap.size 3 1 (.slice (some ⟨w.heap.size, 0, none⟩) xs.length xs.length) xs.length (filledI xs 0 xs.length) := by
    have e : (madeCells (Value.int .i64 0).cells (xs.length * 1)).toList = List.replicate xs.length (.int .i64 0) := by rw [Nat.mul_one]; exact toList_madeCells_one _ _
    rw [filledI_none, ← e]; exact hown
  have hbel : Below w.heap.size w w1 := (Below.refl _ _).grown hgrow (Nat.le_refl _) (fun k hk => by cases hk)
  have hsz1 : w.heap.size < w1.heap.size := (hown0.lt _ rfl).2
  clear hown hgrow
  go_loopw [4] (fun i wr => ∃ k : Nat, k ≤ xs.length ∧ i = .int .i64 k ∧ wr.ownsRow w.heap.size 3 1 (.slice (some ⟨w.heap.size, 0, none⟩) xs.length xs.length) xs.length (filledI xs k xs.length) ∧ Below w.heap.size w wr ∧ w.heap.size < wr.heap.size) (fun i _ => xs.length - (intOf i).toNat)
  case atStart => exact ⟨0, Nat.zero_le _, rfl, hown0, hbel, hsz1⟩
  case round =>
    obtain ⟨k, hk, rfl, ho, hbl, hs2⟩ := hrel
    by_cases hlt : k < xs.length
    · obtain ⟨b, off, rfl, hat, hb⟩ := HC.out (by omega)
      have hc1 := hat.below hbl hb k hlt
      have hc2 : wr.cell? ⟨w.heap.size, k, none⟩ = some (.int .i64 0) := (ho.cellAt k (by omega)).trans (filledI_at xs k hlt)
      have hf2 : wr.frozen? ⟨w.heap.size, k, none⟩ = false := ho.frozenAt k
      have hst := (ho.stored k (.int .i64 (xs.getD k 0))).1
      rw [filledI_set xs k hlt] at hst
      have HO := Lib.hid hst
      have HB := Lib.hid hbl
      clear hst ho hbl hat
      generalize xs.getD k 0 = x at hc1 HO
      go_wp2
      go_roundw
      case rel => exact ⟨k + 1, by omega, by go_num, HO.out, HB.out.setCell (Nat.le_refl _) _, by simpa using hs2⟩
      case measure => simp [intOf]; omega
    · obtain rfl : k = xs.length := by omega
      rw [filledI_all] at ho
      have HO := Lib.hid ho
      clear ho
      go_wp2
      go_ret
      exact ⟨rfl, HO.out, hbl, hs2⟩

set_option maxRecDepth 100000 in
set_option maxHeartbeats 800000 in
theorem same_ints (A1 A2 : Option Addr) (c1 c2 : Nat) (xs : List Int) (hn : xs.length ≤ 1099511627776) (w : World) (h1 : RowS w A1 xs) (h2 : RowS w A2 xs) :
    Calls Try.prog 31 #[.slice A1 xs.length c1, .slice A2 xs.length c2] w (TrueBelowG w) := by
  have H1 := Lib.hid h1
  have H2 := Lib.hid h2
  clear h1 h2
  go_enter Try.func31, Try.ntmps31
  go_wp2
  go_loopw [5] (fun i wr => ∃ k q : Nat, k ≤ xs.length ∧ i = .int .i64 k ∧ wr = w.drewN q) (fun i _ => xs.length - (intOf i).toNat)
  case atStart => exact ⟨0, 0, Nat.zero_le _, rfl, rfl⟩
  case round =>
    obtain ⟨k, q, hk, rfl, rfl⟩ := hrel
    by_cases hlt : k < xs.length
    · obtain ⟨b1, o1, rfl, s1, _⟩ := H1.out (by omega)
      obtain ⟨b2, o2, rfl, s2, _⟩ := H2.out (by omega)
      have ha := s1 k hlt
      have hb := s2 k hlt
      clear s1 s2
      generalize xs.getD k 0 = x at ha hb
      go_wp2
      go_quiet (fail)
      go_wp2
      go_roundw
      case rel => exact ⟨k + 1, q + nq, by omega, by go_num, rfl⟩
      case measure => simp [intOf]; omega
    · obtain rfl : k = xs.length := by omega
      go_wp2
      go_ret
      exact ⟨rfl, below_drewN (Below.refl _ _) _⟩
end Go.Proofs.Ytfgjlpnmjfekhaa
