/-
  The laws on codes: where the model and the program answer alike in every world the law returns true; nothing that was there before is changed.
-/
import Derived.Test.YtcoiodfggaanbaaCodeOps
import Derived.Deep.CutRange
namespace Go.Proofs.Ytcoiodfggaanbaa
open Go Go.RowKit

/-- Two functions that answer the same in every world. -/
def Alike (W : World) (f g : Nat) (args : Array Value) (x : Value) : Prop := ∀ w', Below W.heap.size W w' → Calls Try.prog f args w' (Says x w') ∧ Calls Try.prog g args w' (Says x w')
/-- Block g holds a code of the laws. -/
def LawIn (w : World) (g : Nat) (K N : Int) (o : ByteArray) : Prop := w.heap[g]? = some (.cells #[.int .i64 K, .int .i64 N, .string o] 39 (0, 0))
theorem LawIn.lt {w : World} {g : Nat} {K N : Int} {o : ByteArray} (h : LawIn w g K N o) : g < w.heap.size := (Array.getElem?_eq_some_iff.1 h).1
theorem LawIn.below {w w' : World} {g : Nat} {K N : Int} {o : ByteArray} (h : LawIn w g K N o) (hb : Below w.heap.size w w') : LawIn w' g K N o := (hb.block g h.lt).trans h
theorem LawIn.c0 {w : World} {g : Nat} {K N : Int} {o : ByteArray} (h : LawIn w g K N o) : w.cell? ⟨g, 0, none⟩ = some (.int .i64 K) := by simp [World.cell?, show w.heap[g]? = _ from h]
theorem LawIn.c1 {w : World} {g : Nat} {K N : Int} {o : ByteArray} (h : LawIn w g K N o) : w.cell? ⟨g, 1, none⟩ = some (.int .i64 N) := by simp [World.cell?, show w.heap[g]? = _ from h]
theorem LawIn.c2 {w : World} {g : Nat} {K N : Int} {o : ByteArray} (h : LawIn w g K N o) : w.cell? ⟨g, 2, none⟩ = some (.string o) := by simp [World.cell?, show w.heap[g]? = _ from h]
theorem six_of {w : World} {g : Nat} {K N K' N' : Int} {o o' : ByteArray} (h : LawIn w g K N o) (h' : LawIn w (g + 1) K' N' o') : w.cell? ⟨g, 0, none⟩ = some (.int .i64 K) ∧ w.cell? ⟨g, 1, none⟩ = some (.int .i64 N) ∧ w.cell? ⟨g, 2, none⟩ = some (.string o) ∧ w.cell? ⟨g + 1, 0, none⟩ = some (.int .i64 K') ∧ w.cell? ⟨g + 1, 1, none⟩ = some (.int .i64 N') ∧ w.cell? ⟨g + 1, 2, none⟩ = some (.string o') := ⟨h.c0, h.c1, h.c2, h'.c0, h'.c1, h'.c2⟩
theorem lawIn_later {w w' : World} {B g : Nat} {K N : Int} {o : ByteArray} (h : LawIn w g K N o) (hb : Below B w w') (hg : g < B) : LawIn w' g K N o := (hb.block g hg).trans h
theorem bwc {z x y : World} (h : Below z.heap.size z x) (b : Below x.heap.size x y) : Below z.heap.size z y := h.trans (b.mono h.size)
theorem lawIn_new (w : World) (K N : Int) (o : ByteArray) : LawIn (w.alloc (.cells #[.int .i64 K, .int .i64 N, .string o] 39)) w.heap.size K N o := heap_alloc_new w _

end Go.Proofs.Ytcoiodfggaanbaa
