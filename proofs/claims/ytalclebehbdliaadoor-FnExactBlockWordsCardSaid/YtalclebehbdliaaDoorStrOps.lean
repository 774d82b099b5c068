/-
  The laws' helpers on slices of strings: their size is counted down from a limit; they are copied into new memory.
-/
import Derived.Test.YtalclebehbdliaaDoorRows
import Derived.Test.YtalclebehbdliaaDoorStrs
import Derived.Test.YtalclebehbdliaaDoorStrSame
import Derived.WalkLawsBesides
import Derived.Deep.QuietTactic
import Derived.BigQuiet
namespace Go.Proofs.YtalclebehbdliaaDoor
open Go Go.RowKit

/-- What is left of the limit, or -1. -/
def SzPost (L : Int) (xs : List ByteArray) (w : World) (e : Ending) (w' : World) : Prop := ∃ r : Int, e = .returned (.int .i64 r) ∧ (r = -1 ∨ (0 ≤ r ∧ (xs.length : Int) + total xs + r ≤ L)) ∧ w = w'

set_option maxRecDepth 100000 in
set_option maxHeartbeats 800000 in
theorem sz_some (b off c : Nat) (xs : List ByteArray) (L : Int) (hL0 : 0 ≤ L) (hL : L ≤ 1099511627776) (hn : xs.length ≤ 9223372036854775807) (hsz : ∀ k, k < xs.length → (xs.getD k ByteArray.empty).size ≤ 9223372036854775807) (w : World) (hc : StrsAt w b off xs) :
    Calls Tryd.prog 13 #[.slice (some ⟨b, off, none⟩) xs.length c, .int .i64 L] w (SzPost L xs w) := by
  by_cases h0 : L - (xs.length : Int) < 0
  · go_enter Tryd.func13, Tryd.ntmps13
    go_wp2
    go_ret
    exact ⟨-1, rfl, Or.inl rfl, rfl⟩
  have HC := Lib.hid hc
  have HS := Lib.hid hsz
  clear hc hsz
  go_enter Tryd.func13, Tryd.ntmps13
  go_wp2
  go_loop [1, 5] (fun l i => ∃ (k : Nat) (r : Int), k ≤ xs.length ∧ 0 ≤ r ∧ r ≤ L ∧ Hid (r + xs.length + total (xs.take k) = L) ∧ l = .int .i64 r ∧ i = .int .i64 k) (fun _ i => xs.length - (intOf i).toNat)
  case atStart => exact ⟨0, _, Nat.zero_le _, by omega, by omega, Lib.hid (by simp [total]), rfl, rfl⟩
  case round =>
    obtain ⟨k, r, hk, hr0, hr1, hr, rfl, rfl⟩ := hrel
    by_cases hlt : k < xs.length
    · have hnx := Lib.hid (total_next xs k hlt)
      have hc1 := HC.out k hlt
      have hs1 := HS.out k hlt
      generalize xs.getD k ByteArray.empty = x at hc1 hs1 hnx
      by_cases hneg : r - (x.size : Int) < 0
      · go_wp2
        go_ret
        exact ⟨-1, rfl, Or.inl rfl, rfl⟩
      · go_wp2
        go_round
        case rel => exact ⟨k + 1, r - x.size, by omega, by omega, by omega, Lib.hid (by have := hnx.out; have := hr.out; omega), rfl, by go_num⟩
        case measure => simp [intOf]; omega
    · obtain rfl : k = xs.length := by omega
      go_wp2
      go_ret
      exact ⟨r, rfl, Or.inr ⟨hr0, by have := hr.out; rw [total_all (Nat.le_refl _)] at this; omega⟩, rfl⟩

/-- A copy in new memory, at the heap's end. -/
def CopyPost (xs : List ByteArray) (w : World) (e : Ending) (w' : World) : Prop :=
  e = .returned (.slice (some ⟨w.heap.size, 0, none⟩) xs.length xs.length) ∧ w'.ownsRow w.heap.size 9 1 (.slice (some ⟨w.heap.size, 0, none⟩) xs.length xs.length) xs.length (xs.map Value.string) ∧ Below w.heap.size w w' ∧ w.heap.size < w'.heap.size

set_option maxRecDepth 100000 in
set_option maxHeartbeats 800000 in
theorem copy_some (b off c : Nat) (xs : List ByteArray) (hn : xs.length ≤ 1099511627776) (w : World) (hc : StrsAt w b off xs) (hb : b < w.heap.size) :
    Calls Tryd.prog 19 #[.slice (some ⟨b, off, none⟩) xs.length c] w (CopyPost xs w) := by
  obtain ⟨i0, hi, hz0, hz1, hz2⟩ := info_parts infoStr
  have HC := Lib.hid hc
  clear hc
  go_enter Tryd.func19, Tryd.ntmps19
  go_wp2_with (at_make; refine wpList_make_full _ rfl _ _ 22 rfl w.heap.size 9 i0 (.string ByteArray.empty) 1 Tryd.underlying22 hi hz0 hz1 .i64 .i64 _ _ xs.length rfl rfl rfl rfl (by rw [hz2]; omega) (by unfold maxLen; omega) (Nat.le_refl _) ?_; intro w1 hown hgrow)
  have hown0 : w1.ownsRow w.heap.size 9 1 (.slice (some ⟨w.heap.size, 0, none⟩) xs.length xs.length) xs.length (filled xs 0 xs.length) := by
    have e : (madeCells (Value.string ByteArray.empty).cells (xs.length * 1)).toList = List.replicate xs.length (.string ByteArray.empty) := by rw [Nat.mul_one]; exact toList_madeCells_one _ _
    rw [filled_none, ← e]; exact hown
  have hbel : Below w.heap.size w w1 := (Below.refl _ _).grown hgrow (Nat.le_refl _) (fun k hk => by cases hk)
  have hsz1 : w.heap.size < w1.heap.size := (hown0.lt _ rfl).2
  clear hown hgrow
  go_loopw [4] (fun i wr => ∃ k : Nat, k ≤ xs.length ∧ i = .int .i64 k ∧ wr.ownsRow w.heap.size 9 1 (.slice (some ⟨w.heap.size, 0, none⟩) xs.length xs.length) xs.length (filled xs k xs.length) ∧ Below w.heap.size w wr ∧ w.heap.size < wr.heap.size) (fun i _ => xs.length - (intOf i).toNat)
  case atStart => exact ⟨0, Nat.zero_le _, rfl, hown0, hbel, hsz1⟩
  case round =>
    obtain ⟨k, hk, rfl, ho, hbl, hs2⟩ := hrel
    by_cases hlt : k < xs.length
    · have hc1 := HC.out.below hbl hb k hlt
      have hc2 : wr.cell? ⟨w.heap.size, k, none⟩ = some (.string ByteArray.empty) := (ho.cellAt k (by omega)).trans (filled_at xs k hlt)
      have hf2 : wr.frozen? ⟨w.heap.size, k, none⟩ = false := ho.frozenAt k
      have hst := (ho.stored k (.string (xs.getD k ByteArray.empty))).1
      rw [filled_set xs k hlt] at hst
      have HO := Lib.hid hst
      have HB := Lib.hid hbl
      clear hst ho hbl
      generalize xs.getD k ByteArray.empty = x at hc1 HO
      go_wp2
      go_roundw
      case rel => exact ⟨k + 1, by omega, by go_num, HO.out, HB.out.setCell (Nat.le_refl _) _, by simpa using hs2⟩
      case measure => simp [intOf]; omega
    · obtain rfl : k = xs.length := by omega
      rw [filled_all] at ho
      have HO := Lib.hid ho
      clear ho
      go_wp2
      go_ret
      exact ⟨rfl, HO.out, hbl, hs2⟩

set_option maxRecDepth 100000 in
set_option maxHeartbeats 400000 in
theorem sz_none (a : Option Addr) (c : Nat) (L : Int) (hL0 : 0 ≤ L) (hL : L ≤ 1099511627776) (w : World) :
    Calls Tryd.prog 13 #[.slice a 0 c, .int .i64 L] w (SzPost L [] w) := by
  go_enter Tryd.func13, Tryd.ntmps13
  go_wp2
  refine wp_loop_rounds 1 ?_
  rw [rounds_succ]
  go_wp2
  go_ret
  exact ⟨L, rfl, Or.inr ⟨hL0, by simp [total]⟩, rfl⟩

set_option maxRecDepth 100000 in
set_option maxHeartbeats 400000 in
theorem copy_none (a : Option Addr) (c : Nat) (w : World) :
    Calls Tryd.prog 19 #[.slice a 0 c] w (CopyPost [] w) := by
  obtain ⟨i0, hi, hz0, hz1, hz2⟩ := info_parts infoStr
  go_enter Tryd.func19, Tryd.ntmps19
  go_wp2_with (at_make; refine wpList_make_full _ rfl _ _ 22 rfl w.heap.size 9 i0 (.string ByteArray.empty) 1 Tryd.underlying22 hi hz0 hz1 .i64 .i64 _ _ 0 rfl rfl rfl rfl (by rw [hz2]; omega) (by unfold maxLen; omega) (Nat.le_refl _) ?_; intro w1 hown hgrow)
  have hown0 : w1.ownsRow w.heap.size 9 1 (.slice (some ⟨w.heap.size, 0, none⟩) 0 0) 0 [] := by
    have e : (madeCells (Value.string ByteArray.empty).cells (0 * 1)).toList = [] := toList_madeCells_one (.string ByteArray.empty) 0
    rw [← e]; exact hown
  have hbel : Below w.heap.size w w1 := (Below.refl _ _).grown hgrow (Nat.le_refl _) (fun k hk => by cases hk)
  have hsz1 : w.heap.size < w1.heap.size := (hown0.lt _ rfl).2
  have HO := Lib.hid hown0
  clear hown hgrow hown0
  refine wp_loop_rounds 1 ?_
  rw [rounds_succ]
  go_wp2
  go_ret
  exact ⟨rfl, HO.out, hbel, hsz1⟩
end Go.Proofs.YtalclebehbdliaaDoor
