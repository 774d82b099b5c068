/-
  At every argument the model answers and the program answers alike: the law returns true and changes nothing that was there before. The condition: none.
-/
import Derived.Test.YtcoiodfggaanbaaUndoLaws
import Derived.Test.YtcoiodfggaanbaaPermSpec
import Derived.Test.YtcoiodfggaanbaaPermI
import Derived.Test.YtcoiodfggaanbaaShapedPlain
import Derived.Test.YtcoiodfggaanbaaCodeOpen
import Derived.Test.YtcoiodfggaanbaaRows
namespace Go.Proofs.Ytcoiodfggaanbaa
open Go Go.ChangeShapes Go.WideShapes Go.ChangeAt Go.RowKit
open Go.ChangeMaps (open_string shut_string)

theorem fnExactIsPermutive_knobs : ownKnob Try.prog.godebug = none := by kernel_rfl
theorem fnExactIsPermutive_laidOut : laidOutB Try.prog = true := by kernel_rfl

set_option maxRecDepth 100000 in
theorem fnExactIsPermutive_lifted (os : Os) (started : os.Started) (H : Type) (enc : TypeId × Value → H) :
    ReturnsInHanded {} Try.checked os 9 .any (Rows.fnExactIsPermutiveSpec.pre6 enc Try.prog Try.f9 Rows.fnExactIsPermutiveRow.domain false) (Rows.fnExactIsPermutiveSpec.post enc Try.prog Try.f9 false true false false) := by
  refine handed_shaped (C := Try.checked) fnExactIsPermutive_knobs started (by kernel_rfl) Try.func9
    (ChangeSpec.witness6 (enc := enc) (C := Try.checked) false ⟨#[], #[.agg #[.int .i64 0, .int .i64 0, .string ⟨#[]⟩], .bool false], []⟩ 8 (by kernel_rfl) (by kernel_rfl) (by kernel_rfl) (by kernel_rfl)) ?_
  intro W base args ds gs before hval0 hW hsh
  have hval : ∀ (j : Nat) t v, Try.f9.params[j]? = some t → args[j]? = some v → Value.okWide Try.prog W .any base t v := hval0
  have hW' := hW
  obtain ⟨p, q, hA0, hV, rfl, _, _⟩ := hW
  have hA : DataW.TrodAll enc Try.prog W 0 (fun _ => true) true Try.f9.params.toList args.toList ds p := hA0
  rw [Try.params9] at hA hval
  obtain ⟨v0, v1, d0, d1, p0, p1, rfl, rfl, rfl, h0, h1⟩ := trodAll_two hA
  obtain ⟨rfl, rfl⟩ := trodVars_none hV
  obtain ⟨l, rfl, rfl, hp1⟩ := open_bool Try.underlying4 (hval 1 4 v1 rfl rfl) h1
  subst hp1
  obtain ⟨K, N, o, rfl, ho⟩ := open_code (hval 0 39 v0 rfl rfl) h0
  clear hA0 hval0
  simp only [List.append_nil] at hW'
  have hlt : ∀ x ∈ p0, x.block < W.heap.size := fun x hx => hW'.lt x (by simp [hx])
  refine (law_isPermutive K N o l (permB K N o l) ho W (fun h w' hb => ⟨spec_isPermutive K N o l (by omega) w', impl_isPermutive K N o l (by omega) w' (shape_nextP hsh hb)⟩)).mono fun e W' ⟨he, hnx⟩ => ?_
  subst he
  exact ⟨_, rfl, _, _, _, [], p0, [], hW', trodAll_mk1 (shut_bool Try.underlying4 _), (by have := trodAll_mk2 (Below.trod fnExactIsPermutive_laidOut (by kernel_rfl) (of_decide_eq_true (by kernel_rfl)) h0 hnx hlt) (shut_bool Try.underlying4 l); rw [List.append_nil] at this; exact this), rfl, hnx.frame _, fun h => by cases h⟩

theorem fnExactIsPermutive_holds : Rows.FnExactIsPermutiveSaid :=
  OpenClaim.holds_of_wide 9 Try.f9 rfl rfl rfl rfl rfl rfl rfl ⟨rfl, rfl, rfl, rfl, rfl⟩ rfl rfl rfl rfl rfl (by kernel_rfl) Try.func9 (by kernel_rfl)
    (of_decide_eq_true (by kernel_rfl)) (by unfold Func.isWrapper; first | (rw [if_pos (by decide +kernel)]; kernel_rfl) | (rw [if_neg (by decide +kernel)]; exact ⟨rfl, rfl⟩))
    (fun os started H enc _ => fnExactIsPermutive_lifted os started H enc)
end Go.Proofs.Ytcoiodfggaanbaa
