/-
  A list of strings in memory, wherever it lies; an empty one may lie nowhere (no program's function in this text).
-/
import Derived.Test.YtcoiodfggaanbaaStrs
namespace Go.Proofs.Ytcoiodfggaanbaa
open Go Go.RowKit

/-- The slice holds the strings. -/
def StrsG (w : World) (G : Option Addr) (xs : List ByteArray) : Prop := 0 < xs.length → ∃ b off, G = some ⟨b, off, none⟩ ∧ StrsAt w b off xs ∧ b < w.heap.size
theorem StrsG.below {w w' : World} {G : Option Addr} {xs : List ByteArray} (h : StrsG w G xs) (hb : Below w.heap.size w w') : StrsG w' G xs := fun h0 => by
  obtain ⟨b, off, e, hs, hl⟩ := h h0
  exact ⟨b, off, e, hs.below hb hl, Nat.lt_of_lt_of_le hl hb.size⟩
theorem StrsG.of {w : World} {g : Nat} {xs : List ByteArray} (h : StrsAt w g 0 xs) (hg : g < w.heap.size) : StrsG w (some ⟨g, 0, none⟩) xs := fun _ => ⟨g, 0, rfl, h, hg⟩
theorem StrsG.none (w : World) : StrsG w none [] := fun h => absurd h (by simp)
end Go.Proofs.Ytcoiodfggaanbaa
