/-
  At every argument the model answers and the program answers alike: the law returns true and changes nothing that was there before. The condition: none.
-/
import Derived.Test.YtcoiodfggaanbaaUndoLaws
import Derived.Test.YtcoiodfggaanbaaRingSpec
import Derived.Test.YtcoiodfggaanbaaRingI
import Derived.Test.YtcoiodfggaanbaaCodeOpen
import Derived.Test.YtcoiodfggaanbaaRows
namespace Go.Proofs.Ytcoiodfggaanbaa
open Go Go.ChangeShapes Go.WideShapes Go.ChangeAt Go.RowKit
open Go.ChangeMaps (open_string shut_string)

theorem fnExactSameOnRings_knobs : ownKnob Try.prog.godebug = none := by kernel_rfl
theorem fnExactSameOnRings_laidOut : laidOutB Try.prog = true := by kernel_rfl

set_option maxRecDepth 100000 in
theorem fnExactSameOnRings_lifted (os : Os) (started : os.Started) (H : Type) (enc : TypeId × Value → H) :
    ReturnsInHanded {} Try.checked os 10 .any (Rows.fnExactSameOnRingsSpec.pre6 enc Try.prog Try.f10 Rows.fnExactSameOnRingsRow.domain false) (Rows.fnExactSameOnRingsSpec.post enc Try.prog Try.f10 false true false false) := by
  refine returnsInHanded_of_change (C := Try.checked) fnExactSameOnRings_knobs started (by kernel_rfl) Try.func10
    (ChangeSpec.witness6 (enc := enc) (C := Try.checked) false ⟨#[], #[.agg #[.int .i64 0, .int .i64 0, .string ⟨#[]⟩], .agg #[.int .i64 0, .int .i64 0, .string ⟨#[]⟩], .int .i64 0], []⟩ 8 (by kernel_rfl) (by kernel_rfl) (by kernel_rfl) (by kernel_rfl)) ?_
  intro W base args ds gs before hval0 hW _ _
  have hval : ∀ (j : Nat) t v, Try.f10.params[j]? = some t → args[j]? = some v → Value.okWide Try.prog W .any base t v := hval0
  have hW' := hW
  obtain ⟨p, q, hA0, hV, rfl, _, _⟩ := hW
  have hA : DataW.TrodAll enc Try.prog W 0 (fun _ => true) true Try.f10.params.toList args.toList ds p := hA0
  rw [Try.params10] at hA hval
  obtain ⟨v0, v1, v2, d0, d1, d2, p0, p1, p2, rfl, rfl, rfl, h0, h1, h2⟩ := trodAll_three hA
  obtain ⟨rfl, rfl⟩ := trodVars_none hV
  obtain ⟨K', N', o', rfl, ho'⟩ := open_code (hval 1 39 v1 rfl rfl) h1
  obtain ⟨m, rfl, rfl, hp2, wm⟩ := open_int Try.underlying3 (hval 2 3 v2 rfl rfl) h2
  subst hp2
  obtain ⟨K, N, o, rfl, ho⟩ := open_code (hval 0 39 v0 rfl rfl) h0
  clear hA0 hval0
  simp only [List.append_nil] at hW'
  have hlt : ∀ x ∈ p0, x.block < W.heap.size := fun x hx => hW'.lt x (by simp [hx])
  have hlt' : ∀ x ∈ p1, x.block < W.heap.size := fun x hx => hW'.lt x (by simp [hx])
  refine (law_sameOnRings K N K' N' m o o' (sameB K N o K' N' o' m) ho ho' W (fun _ _ w' _ => ⟨spec_sameRings K N K' N' m o o' (by omega) (by omega) w', impl_sameRings K N K' N' m o o' (by omega) (by omega) w'⟩)).mono fun e W' ⟨he, hnx⟩ => ?_
  subst he
  exact ⟨_, rfl, _, _, _, [], (p0 ++ p1), [], hW', trodAll_mk1 (shut_bool Try.underlying4 _), (by have := trodAll_mk3 (Below.trod fnExactSameOnRings_laidOut (by kernel_rfl) (of_decide_eq_true (by kernel_rfl)) h0 hnx hlt) (Below.trod fnExactSameOnRings_laidOut (by kernel_rfl) (of_decide_eq_true (by kernel_rfl)) h1 hnx hlt') (shut_int Try.underlying3 wm); simp only [List.append_nil] at this; exact this), rfl, hnx.frame _, fun h => by cases h⟩

theorem fnExactSameOnRings_holds : Rows.FnExactSameOnRingsSaid :=
  OpenClaim.holds_of_wide 10 Try.f10 rfl rfl rfl rfl rfl rfl rfl ⟨rfl, rfl, rfl, rfl, rfl⟩ rfl rfl rfl rfl rfl (by kernel_rfl) Try.func10 (by kernel_rfl)
    (of_decide_eq_true (by kernel_rfl)) (by unfold Func.isWrapper; first | (rw [if_pos (by decide +kernel)]; kernel_rfl) | (rw [if_neg (by decide +kernel)]; exact ⟨rfl, rfl⟩))
    (fun os started H enc _ => fnExactSameOnRings_lifted os started H enc)
end Go.Proofs.Ytcoiodfggaanbaa
