/-
  What the laws on lists of strings share: the helpers at slices of length 0; a list in new memory, empty or not.
-/
import Derived.Test.YtalclebehbdliaaDoorAllW
import Derived.Test.YtalclebehbdliaaDoorMarkRow
namespace Go.Proofs.YtalclebehbdliaaDoor
open Go Go.RowKit

theorem owns_below {w w' : World} {B e n : Nat} {v : Value} {xs : List Value} (h : w.ownsRow B e 1 v n xs) (hb : Below w.heap.size w w') : w'.ownsRow B e 1 v n xs := by
  refine h.kept (row := none) ⟨hb.os, hb.tape, hb.output, hb.size, fun j hj _ => hb.block j hj⟩ ?_
  cases hv : v.ownBlock with
  | none => exact Or.inl rfl
  | some k => exact Or.inr (by intro h; cases h)
theorem StrsAt.grown {w w' : World} {g b : Nat} {xs : List ByteArray} (h : StrsAt w b 0 xs) (hg : w.grownBy w' (some g)) (hne : b ≠ g) : StrsAt w' b 0 xs := by
  intro k hk
  exact hg.cell (h k hk) (by intro h; exact hne (Option.some.inj h))
theorem ListPost.full {ps : List ByteArray} {w w' : World} {e : Ending} (h : ListPost ps w e w') (hp : 0 < ps.length) :
    ∃ g cap, e = .returned (.slice (some ⟨g, 0, none⟩) ps.length cap) ∧ w'.ownsRow w.heap.size 9 1 (.slice (some ⟨g, 0, none⟩) ps.length cap) ps.length (ps.map Value.string) ∧ Below w.heap.size w w' := by
  obtain ⟨v, rfl, ho, hb⟩ := h
  rcases ho.2 with ⟨rfl, h0⟩ | ⟨g, cap, cur, rfl, _, _, _⟩
  · omega
  · exact ⟨g, cap, rfl, ho, hb⟩
theorem ListPost.bare {ps : List ByteArray} {w w' : World} {e : Ending} (h : ListPost ps w e w') (hp : ¬ 0 < ps.length) :
    ∃ a cap, e = .returned (.slice a 0 cap) ∧ Below w.heap.size w w' := by
  obtain ⟨v, rfl, ho, hb⟩ := h
  have h0 : ps.length = 0 := by omega
  rcases ho.2 with ⟨rfl, _⟩ | ⟨g, cap, cur, rfl, _, _, _⟩
  · exact ⟨none, 0, rfl, hb⟩
  · exact ⟨some ⟨g, 0, none⟩, cap, by rw [h0], hb⟩

theorem same_none (a1 a2 : Option Addr) (c1 c2 : Nat) (w : World) :
    Calls Tryd.prog 8 #[.slice a1 0 c1, .slice a2 0 c2] w fun e w' => e = .returned (.bool true) ∧ w' = w := by
  go_enter Tryd.func8, Tryd.ntmps8
  go_wp2
  go_loop [5] (fun i => i = .int .i64 0) (fun _ => 0)
  case atStart => rfl
  case round =>
    obtain rfl := hrel
    go_wp2
    go_ret
    exact ⟨rfl, rfl⟩
theorem mark_none (a : Option Addr) (c : Nat) (q : Int) (w : World) :
    Calls Tryd.prog 11 #[.slice a 0 c, .int .i64 q] w fun e w' => e = .returned (.int .i64 q) ∧ w' = w := by
  go_enter Tryd.func11, Tryd.ntmps11
  go_wp2
  go_loop [1, 5] (fun p i => p = .int .i64 q ∧ i = .int .i64 0) (fun _ _ => 0)
  case atStart => exact ⟨rfl, rfl⟩
  case round =>
    obtain ⟨rfl, rfl⟩ := hrel
    go_wp2
    go_ret
    exact ⟨rfl, rfl⟩
theorem held_none (a : Option Addr) (c : Nat) (q : Int) (w : World) :
    Calls Tryd.prog 12 #[.slice a 0 c, .int .i64 q] w fun e w' => e = .returned (.int .i64 q) ∧ w' = w := by
  go_enter Tryd.func12, Tryd.ntmps12
  go_wp2
  go_loop [1, 5] (fun p i => p = .int .i64 q ∧ i = .int .i64 0) (fun _ _ => 0)
  case atStart => exact ⟨rfl, rfl⟩
  case round =>
    obtain ⟨rfl, rfl⟩ := hrel
    go_wp2
    go_ret
    exact ⟨rfl, rfl⟩
end Go.Proofs.YtalclebehbdliaaDoor
