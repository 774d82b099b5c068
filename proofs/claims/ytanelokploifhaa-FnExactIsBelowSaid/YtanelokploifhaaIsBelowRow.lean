/-
  The exact law on IsBelow, for whatever it is handed.
-/
import Derived.Test.YtanelokploifhaaIsBelowLaw
import Derived.Test.YtanelokploifhaaGrowCopies
import Derived.Test.YtanelokploifhaaGridArg
import Derived.Test.YtanelokploifhaaGrowAts
import Derived.Test.YtanelokploifhaaRows
import Derived.ProofKit
import Derived.OpenShut
import Derived.ChangeSame
import Derived.Lib.AtoiErrMem
namespace Go.Proofs.Ytanelokploifhaa
open Go Go.ChangeShapes Go.WideShapes Go.ChangeAt Go.RowKit

theorem fnExactIsBelow_knobs : ownKnob Try.prog.godebug = none := by kernel_rfl
theorem fnExactIsBelow_laidOut : laidOutB Try.prog = true := by kernel_rfl

set_option maxRecDepth 100000 in
theorem fnExactIsBelow_lifted (os : Os) (started : os.Started) (H : Type) (enc : TypeId × Value → H) :
    ReturnsInHanded {} Try.checked os 3 .any (Rows.fnExactIsBelowSpec.pre6 enc Try.prog Try.f3 Rows.fnExactIsBelowRow.domain false) (Rows.fnExactIsBelowSpec.post enc Try.prog Try.f3 false true false false) := by
  refine returnsInHanded_of_change (C := Try.checked) fnExactIsBelow_knobs started (by kernel_rfl) Try.func3
    (ChangeSpec.witness6 (enc := enc) (C := Try.checked) false ⟨#[], #[.slice none 0 0, .int .i64 0, .int .i64 0], []⟩ 8 (by kernel_rfl) (by kernel_rfl) (by kernel_rfl) (by kernel_rfl)) ?_
  intro W base args ds gs before hval0 hW _ _
  have hval : ∀ (j : Nat) t v, Try.f3.params[j]? = some t → args[j]? = some v → Value.okWide Try.prog W .any base t v := hval0
  have hW' := hW
  obtain ⟨p, q, hA0, hV, rfl, _, _⟩ := hW
  have hA : DataW.TrodAll enc Try.prog W 0 (fun _ => true) true Try.f3.params.toList args.toList ds p := hA0
  rw [Try.params3] at hA hval
  obtain ⟨v1, v2, v3, d1, d2, d3, p1, p2, p3, rfl, rfl, rfl, t1, t2, t3⟩ := trodAll_three hA
  obtain ⟨rfl, rfl⟩ := trodVars_none hV
  have k1 := t1
  obtain ⟨m1, hV1, z1⟩ := gridV_arg (okWide_slice Try.underlying22 (hval 0 22 v1 rfl rfl)) t1
  have k2 := t2
  obtain ⟨a2, rfl, _, _, wa2⟩ := open_int Try.underlying3 (hval 1 3 v2 rfl rfl) t2
  have k3 := t3
  obtain ⟨a3, rfl, _, _, wa3⟩ := open_int Try.underlying3 (hval 2 3 v3 rfl rfl) t3
  clear hA0 hval0
  simp only [List.append_nil] at hW'
  have hlt : ∀ x ∈ p1 ++ p2 ++ p3, x.block < W.heap.size := fun x hx => hW'.lt x hx
  have fin : ∀ (W' : World), Below W.heap.size W W' →
      Rows.fnExactIsBelowSpec.post enc Try.checked.prog Try.f3 false true false false W #[v1, .int .i64 a2, .int .i64 a3] (.bool true) W' := by
    intro W' hnx
    exact ⟨_, _, _, [], p1 ++ p2 ++ p3, [], hW', trodAll_mk1 (shut_bool Try.underlying4 _), (by have := trodAll_mk3 (Below.trod fnExactIsBelow_laidOut (by kernel_rfl) (of_decide_eq_true (by kernel_rfl)) k1 hnx (fun x hx => hlt x (by simp [hx]))) (Below.trod fnExactIsBelow_laidOut (by kernel_rfl) (of_decide_eq_true (by kernel_rfl)) k2 hnx (fun x hx => hlt x (by simp [hx]))) (Below.trod fnExactIsBelow_laidOut (by kernel_rfl) (of_decide_eq_true (by kernel_rfl)) k3 hnx (fun x hx => hlt x (by simp [hx]))); rw [← List.append_assoc] at this; exact this), rfl, hnx.frame _, fun h => by cases h⟩
  refine (law_isBelow v1 m1 a2 a3 _ W hV1 z1 (atSpec_isBelow W m1 a2 a3) (atImpl_isBelow W m1 a2 a3)).mono fun e W' ⟨he, hb⟩ => ?_
  subst he
  exact ⟨_, rfl, fin W' hb⟩

theorem fnExactIsBelow_holds : Rows.FnExactIsBelowSaid :=
  OpenClaim.holds_of_wide 3 Try.f3 rfl rfl rfl rfl rfl rfl rfl ⟨rfl, rfl, rfl, rfl, rfl⟩ rfl rfl rfl rfl rfl (by kernel_rfl) Try.func3 (by kernel_rfl)
    (of_decide_eq_true (by kernel_rfl)) (by unfold Func.isWrapper; first | (rw [if_pos (by decide +kernel)]; kernel_rfl) | (rw [if_neg (by decide +kernel)]; exact ⟨rfl, rfl⟩))
    (fun os started H enc _ => fnExactIsBelow_lifted os started H enc)
end Go.Proofs.Ytanelokploifhaa
