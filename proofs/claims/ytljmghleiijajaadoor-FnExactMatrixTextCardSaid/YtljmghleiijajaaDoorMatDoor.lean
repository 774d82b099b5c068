/-
  The model's MatrixText and ParseMatrix at the laws' copies.
-/
import Derived.Test.YtljmghleiijajaaDoorMatSize
import Derived.Test.YtljmghleiijajaaDoorMatText
import Derived.Test.YtljmghleiijajaaDoorMatParse
namespace Go.Proofs.YtljmghleiijajaaDoor
open Go Go.RowKit

theorem atSpec_matrixText (W : World) (m : List (List Int)) : At1 W 6 m (Scalar (.string (textM m))) := by
  intro v w' _ hz ho
  obtain ⟨A, c, rfl, hg⟩ := ho.gridS
  obtain ⟨h1, h2, h3⟩ := rows_le hz
  exact spec_matrixText A c m h1 h3 w' hg
theorem sizeB_parse (f : ByteArray → Option Int) (s : ByteArray) : SizeB ((parseM f s).getD []) := by
  cases h : parseM f s with
  | none => exact sizeB_nil
  | some p =>
    unfold parseM at h
    split at h
    · next hc =>
      obtain rfl := Option.some.inj h
      exact sizeB_facts (isMat_facts hc.2)
    · cases h
theorem atSpec_parseMatrix (s : ByteArray) (hs : s.size ≤ 1048576) (w : World) : Calls Tryd.prog 10 #[.string s] w (SpecGB ((parseM intOfS s).getD []) (parseM intOfS s).isSome w) :=
  (spec_parseMatrix s hs w).mono fun _ _ ⟨v, he, ho, hb⟩ => ⟨v, he, ho.gridV, hb⟩
end Go.Proofs.YtljmghleiijajaaDoor
