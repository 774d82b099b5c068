/-
  The exact law on PolyAt, for whatever it is handed.
-/
import Derived.Test.YtfbdmheaalmboaaPolyAtLaw
import Derived.Test.YtfbdmheaalmboaaPolyCopies
import Derived.Test.YtfbdmheaalmboaaIntsArg
import Derived.Test.YtfbdmheaalmboaaPolyAts
import Derived.Test.YtfbdmheaalmboaaRows
import Derived.ProofKit
import Derived.OpenShut
import Derived.ChangeSame
import Derived.Lib.AtoiErrMem
namespace Go.Proofs.Ytfbdmheaalmboaa
open Go Go.ChangeShapes Go.WideShapes Go.ChangeAt Go.RowKit

theorem fnExactPolyAt_knobs : ownKnob Try.prog.godebug = none := by kernel_rfl
theorem fnExactPolyAt_laidOut : laidOutB Try.prog = true := by kernel_rfl

set_option maxRecDepth 100000 in
theorem fnExactPolyAt_lifted (os : Os) (started : os.Started) (H : Type) (enc : TypeId × Value → H) :
    ReturnsInHanded {} Try.checked os 8 .any (Rows.fnExactPolyAtSpec.pre6 enc Try.prog Try.f8 Rows.fnExactPolyAtRow.domain false) (Rows.fnExactPolyAtSpec.post enc Try.prog Try.f8 false true false false) := by
  refine returnsInHanded_of_change (C := Try.checked) fnExactPolyAt_knobs started (by kernel_rfl) Try.func8
    (ChangeSpec.witness6 (enc := enc) (C := Try.checked) false ⟨#[], #[.slice none 0 0, .int .i64 0], []⟩ 8 (by kernel_rfl) (by kernel_rfl) (by kernel_rfl) (by kernel_rfl)) ?_
  intro W base args ds gs before hval0 hW _ _
  have hval : ∀ (j : Nat) t v, Try.f8.params[j]? = some t → args[j]? = some v → Value.okWide Try.prog W .any base t v := hval0
  have hW' := hW
  obtain ⟨p, q, hA0, hV, rfl, _, _⟩ := hW
  have hA : DataW.TrodAll enc Try.prog W 0 (fun _ => true) true Try.f8.params.toList args.toList ds p := hA0
  rw [Try.params8] at hA hval
  obtain ⟨v1, v2, d1, d2, p1, p2, rfl, rfl, rfl, t1, t2⟩ := trodAll_two hA
  obtain ⟨rfl, rfl⟩ := trodVars_none hV
  have k1 := t1
  obtain ⟨A1, c1, l1, rfl, hR1, z1⟩ := ints_arg (okWide_slice Try.underlying29 (hval 0 29 v1 rfl rfl)) t1
  have k2 := t2
  obtain ⟨a2, rfl, _, _, wa2⟩ := open_int Try.underlying3 (hval 1 3 v2 rfl rfl) t2
  clear hA0 hval0
  simp only [List.append_nil] at hW'
  have hlt : ∀ x ∈ p1 ++ p2, x.block < W.heap.size := fun x hx => hW'.lt x hx
  have fin : ∀ (W' : World), Below W.heap.size W W' →
      Rows.fnExactPolyAtSpec.post enc Try.checked.prog Try.f8 false true false false W #[.slice A1 l1.length c1, .int .i64 a2] (.bool true) W' := by
    intro W' hnx
    exact ⟨_, _, _, [], p1 ++ p2, [], hW', trodAll_mk1 (shut_bool Try.underlying4 _), trodAll_mk2 (Below.trod fnExactPolyAt_laidOut (by kernel_rfl) (of_decide_eq_true (by kernel_rfl)) k1 hnx (fun x hx => hlt x (by simp [hx]))) (Below.trod fnExactPolyAt_laidOut (by kernel_rfl) (of_decide_eq_true (by kernel_rfl)) k2 hnx (fun x hx => hlt x (by simp [hx]))), rfl, hnx.frame _, fun h => by cases h⟩
  refine (law_polyAt A1 c1 l1 a2 _ _ W hR1 z1 (fun _ => atSpec_polyAt W l1 a2) (fun _ => atImpl_polyAt W l1 a2)).mono fun e W' ⟨he, hb⟩ => ?_
  subst he
  exact ⟨_, rfl, fin W' hb⟩

theorem fnExactPolyAt_holds : Rows.FnExactPolyAtSaid :=
  OpenClaim.holds_of_wide 8 Try.f8 rfl rfl rfl rfl rfl rfl rfl ⟨rfl, rfl, rfl, rfl, rfl⟩ rfl rfl rfl rfl rfl (by kernel_rfl) Try.func8 (by kernel_rfl)
    (of_decide_eq_true (by kernel_rfl)) (by unfold Func.isWrapper; first | (rw [if_pos (by decide +kernel)]; kernel_rfl) | (rw [if_neg (by decide +kernel)]; exact ⟨rfl, rfl⟩))
    (fun os started H enc _ => fnExactPolyAt_lifted os started H enc)
end Go.Proofs.Ytfbdmheaalmboaa
