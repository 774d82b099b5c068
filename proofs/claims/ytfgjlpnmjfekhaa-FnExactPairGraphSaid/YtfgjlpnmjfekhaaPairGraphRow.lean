/-
  The exact law on PairGraph, for whatever it is handed.
-/
import Derived.Test.YtfgjlpnmjfekhaaPairGraphLaw
import Derived.Test.YtfgjlpnmjfekhaaGridArg
import Derived.Test.YtfgjlpnmjfekhaaBlockAts
import Derived.Test.YtfgjlpnmjfekhaaRows
import Derived.ProofKit
import Derived.OpenShut
import Derived.ChangeSame
import Derived.Lib.AtoiErrMem
namespace Go.Proofs.Ytfgjlpnmjfekhaa
open Go Go.ChangeShapes Go.WideShapes Go.ChangeAt Go.RowKit

theorem fnExactPairGraph_knobs : ownKnob Try.prog.godebug = none := by kernel_rfl
theorem fnExactPairGraph_laidOut : laidOutB Try.prog = true := by kernel_rfl

set_option maxRecDepth 100000 in
theorem fnExactPairGraph_lifted (os : Os) (started : os.Started) (H : Type) (enc : TypeId × Value → H) :
    ReturnsInHanded {} Try.checked os 6 .any (Rows.fnExactPairGraphSpec.pre6 enc Try.prog Try.f6 Rows.fnExactPairGraphRow.domain false) (Rows.fnExactPairGraphSpec.post enc Try.prog Try.f6 false true false false) := by
  refine returnsInHanded_of_change (C := Try.checked) fnExactPairGraph_knobs started (by kernel_rfl) Try.func6
    (ChangeSpec.witness6 (enc := enc) (C := Try.checked) false ⟨#[], #[.slice none 0 0, .slice none 0 0], []⟩ 8 (by kernel_rfl) (by kernel_rfl) (by kernel_rfl) (by kernel_rfl)) ?_
  intro W base args ds gs before hval0 hW _ _
  have hval : ∀ (j : Nat) t v, Try.f6.params[j]? = some t → args[j]? = some v → Value.okWide Try.prog W .any base t v := hval0
  have hW' := hW
  obtain ⟨p, q, hA0, hV, rfl, _, _⟩ := hW
  have hA : DataW.TrodAll enc Try.prog W 0 (fun _ => true) true Try.f6.params.toList args.toList ds p := hA0
  rw [Try.params6] at hA hval
  obtain ⟨v1, v2, d1, d2, p1, p2, rfl, rfl, rfl, t1, t2⟩ := trodAll_two hA
  obtain ⟨rfl, rfl⟩ := trodVars_none hV
  have k1 := t1
  obtain ⟨m1, hV1, z1⟩ := gridV_arg (okWide_slice Try.underlying22 (hval 0 22 v1 rfl rfl)) t1
  have k2 := t2
  obtain ⟨m2, hV2, z2⟩ := gridV_arg (okWide_slice Try.underlying22 (hval 1 22 v2 rfl rfl)) t2
  clear hA0 hval0
  simp only [List.append_nil] at hW'
  have hlt : ∀ x ∈ p1 ++ p2, x.block < W.heap.size := fun x hx => hW'.lt x hx
  have fin : ∀ (W' : World), Below W.heap.size W W' →
      Rows.fnExactPairGraphSpec.post enc Try.checked.prog Try.f6 false true false false W #[v1, v2] (.bool true) W' := by
    intro W' hnx
    exact ⟨_, _, _, [], p1 ++ p2, [], hW', trodAll_mk1 (shut_bool Try.underlying4 _), trodAll_mk2 (Below.trod fnExactPairGraph_laidOut (by kernel_rfl) (of_decide_eq_true (by kernel_rfl)) k1 hnx (fun x hx => hlt x (by simp [hx]))) (Below.trod fnExactPairGraph_laidOut (by kernel_rfl) (of_decide_eq_true (by kernel_rfl)) k2 hnx (fun x hx => hlt x (by simp [hx]))), rfl, hnx.frame _, fun h => by cases h⟩
  refine (law_pairGraph v1 m1 v2 m2 _ _ W hV1 z1 hV2 z2 (sizeB_pairG m1 m2) (atSpec_pairGraph W m1 m2) (atImpl_pairGraph W m1 m2)).mono fun e W' ⟨he, hb⟩ => ?_
  subst he
  exact ⟨_, rfl, fin W' hb⟩

theorem fnExactPairGraph_holds : Rows.FnExactPairGraphSaid :=
  OpenClaim.holds_of_wide 6 Try.f6 rfl rfl rfl rfl rfl rfl rfl ⟨rfl, rfl, rfl, rfl, rfl⟩ rfl rfl rfl rfl rfl (by kernel_rfl) Try.func6 (by kernel_rfl)
    (of_decide_eq_true (by kernel_rfl)) (by unfold Func.isWrapper; first | (rw [if_pos (by decide +kernel)]; kernel_rfl) | (rw [if_neg (by decide +kernel)]; exact ⟨rfl, rfl⟩))
    (fun os started H enc _ => fnExactPairGraph_lifted os started H enc)
end Go.Proofs.Ytfgjlpnmjfekhaa
