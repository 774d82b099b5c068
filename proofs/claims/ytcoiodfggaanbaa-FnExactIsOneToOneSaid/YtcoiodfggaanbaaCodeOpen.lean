/-
  A code that comes into a law from outside: its numbers and its string.
-/
import Derived.Test.YtcoiodfggaanbaaCodeOps
import Derived.ProofKit
import Derived.OpenShut
import Derived.ChangeSame
import Derived.Lib.SmallJoins
import Derived.Lib.AtoiErrMem
namespace Go.Proofs.Ytcoiodfggaanbaa
open Go Go.ChangeShapes Go.WideShapes Go.ChangeAt Go.RowKit
open Go.Joins (open_agg3)

theorem code_cells : Try.prog.cellsOf 39 = 3 := by kernel_rfl
set_option maxRecDepth 100000 in
theorem open_code {H : Type} {enc : TypeId × Value → H} {W : World} {r : Reach} {b0 base : Nat} {held : Bool} {v : Value} {d : DataW H} {p : List MemPlace} (hv : Value.okWide Try.prog W r b0 39 v) (h : DataW.Trod enc Try.prog W base (fun _ => true) held 39 v d p) :
    ∃ (K N : Int) (o : ByteArray), v = .agg #[.int .i64 K, .int .i64 N, .string o] ∧ o.size ≤ 9223372036854775807 := by
  obtain ⟨e0, e1, e2, y0, y1, y2, m, rfl, _, _, hy0, hy1, hy2⟩ := open_agg3 Try.underlying39 (by kernel_rfl) code_cells hv h
  obtain ⟨K, hK, _, _⟩ := DataW.trod_int Try.underlying3 hy0
  obtain ⟨N, hN, _, _⟩ := DataW.trod_int Try.underlying3 hy1
  obtain ⟨o, ho, _, hs⟩ := DataW.trod_string Try.underlying9 hy2
  simp at hK hN ho
  subst hK hN ho
  exact ⟨K, N, o, rfl, by unfold maxLen at hs; omega⟩
end Go.Proofs.Ytcoiodfggaanbaa
