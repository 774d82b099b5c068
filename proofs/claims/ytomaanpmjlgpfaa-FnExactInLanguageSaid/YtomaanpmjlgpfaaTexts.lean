/-
  The laws' helper that compares two lists of strings: two lists that hold the same strings are found equal.
-/
import Derived.Test.YtomaanpmjlgpfaaAllW
import Derived.Test.YtomaanpmjlgpfaaStrSame
namespace Go.Proofs.Ytomaanpmjlgpfaa
open Go Go.RowKit

set_option maxRecDepth 100000 in
set_option maxHeartbeats 800000 in
theorem texts_some (b1 o1 c1 b2 o2 c2 : Nat) (xs : List ByteArray) (hn : xs.length ≤ 1099511627776) (w : World) (h1 : StrsAt w b1 o1 xs) (h2 : StrsAt w b2 o2 xs) :
    Calls Try.prog 28 #[.slice (some ⟨b1, o1, none⟩) xs.length c1, .slice (some ⟨b2, o2, none⟩) xs.length c2] w (TrueBelow w) := by
  have H1 := Lib.hid h1
  have H2 := Lib.hid h2
  clear h1 h2
  go_enter Try.func28, Try.ntmps28
  go_wp2
  go_loopw [5] (fun i wr => ∃ k q : Nat, k ≤ xs.length ∧ i = .int .i64 k ∧ wr = w.drewN q) (fun i _ => xs.length - (intOf i).toNat)
  case atStart => exact ⟨0, 0, Nat.zero_le _, rfl, rfl⟩
  case round =>
    obtain ⟨k, q, hk, rfl, rfl⟩ := hrel
    by_cases hlt : k < xs.length
    · have ha := H1.out k hlt
      have hb := H2.out k hlt
      generalize xs.getD k ByteArray.empty = x at ha hb
      go_wp2
      go_quiet (fail)
      go_wp2
      go_roundw
      case rel => exact ⟨k + 1, q + nq, by omega, by go_num, rfl⟩
      case measure => simp [intOf]; omega
    · obtain rfl : k = xs.length := by omega
      go_wp2
      go_ret
      exact ⟨rfl, below_drewN (Below.refl _ _) _⟩

theorem texts_none (a1 a2 : Option Addr) (c1 c2 : Nat) (w : World) :
    Calls Try.prog 28 #[.slice a1 0 c1, .slice a2 0 c2] w fun e w' => e = .returned (.bool true) ∧ w' = w := by
  go_enter Try.func28, Try.ntmps28
  go_wp2
  go_loop [5] (fun i => i = .int .i64 0) (fun _ => 0)
  case atStart => rfl
  case round =>
    obtain rfl := hrel
    go_wp2
    go_ret
    exact ⟨rfl, rfl⟩
/-- The slice A holds the strings ps. -/
def RowAt (w : World) (A : Option Addr) (ps : List ByteArray) : Prop := 0 < ps.length → ∃ g, A = some ⟨g, 0, none⟩ ∧ StrsAt w g 0 ps ∧ g < w.heap.size
theorem RowAt.below {w w' : World} {A : Option Addr} {ps : List ByteArray} (h : RowAt w A ps) (hb : Below w.heap.size w w') : RowAt w' A ps := by
  intro hp
  obtain ⟨g, hA, hs, hg⟩ := h hp
  exact ⟨g, hA, hs.below hb hg, Nat.lt_of_lt_of_le hg hb.size⟩
theorem ListPost.rowAt {ps : List ByteArray} {w w' : World} {e : Ending} (h : ListPost ps w e w') : ∃ A cap, e = .returned (.slice A ps.length cap) ∧ RowAt w' A ps ∧ Below w.heap.size w w' := by
  obtain ⟨v, rfl, ho, hb⟩ := h
  rcases ho.2 with ⟨rfl, h0⟩ | ⟨g, cap, cur, rfl, _, _, _⟩
  · exact ⟨none, 0, by rw [h0], fun hp => by omega, hb⟩
  · exact ⟨some ⟨g, 0, none⟩, cap, rfl, fun _ => ⟨g, rfl, StrsAt.of_owns ho rfl, (ho.lt g rfl).2⟩, hb⟩
theorem texts_rows (A1 A2 : Option Addr) (c1 c2 : Nat) (ps : List ByteArray) (hn : ps.length ≤ 1000000) (w : World) (h1 : RowAt w A1 ps) (h2 : RowAt w A2 ps) :
    Calls Try.prog 28 #[.slice A1 ps.length c1, .slice A2 ps.length c2] w (TrueBelow w) := by
  by_cases hp : 0 < ps.length
  · obtain ⟨g1, rfl, s1, _⟩ := h1 hp
    obtain ⟨g2, rfl, s2, _⟩ := h2 hp
    exact texts_some g1 0 c1 g2 0 c2 ps (by omega) w s1 s2
  · have h0 : ps.length = 0 := by omega
    rw [h0]
    exact (texts_none A1 A2 c1 c2 w).mono fun e w' ⟨he, hw⟩ => ⟨he, hw ▸ Below.refl _ _⟩
end Go.Proofs.Ytomaanpmjlgpfaa
