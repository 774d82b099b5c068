/-
  At every argument the model answers and the program answers alike: the law returns true and changes nothing that was there before. The condition: none.
-/
import Derived.Test.YtcoiodfggaanbaaUndoLaws
import Derived.Test.YtcoiodfggaanbaaUndoSpec
import Derived.Test.YtcoiodfggaanbaaUndoIB
import Derived.Test.YtcoiodfggaanbaaCodeOpen
import Derived.Test.YtcoiodfggaanbaaRows
namespace Go.Proofs.Ytcoiodfggaanbaa
open Go Go.ChangeShapes Go.WideShapes Go.ChangeAt Go.RowKit
open Go.ChangeMaps (open_string shut_string)

theorem fnExactUndoingCode_knobs : ownKnob Try.prog.godebug = none := by kernel_rfl
theorem fnExactUndoingCode_laidOut : laidOutB Try.prog = true := by kernel_rfl

set_option maxRecDepth 100000 in
theorem fnExactUndoingCode_lifted (os : Os) (started : os.Started) (H : Type) (enc : TypeId × Value → H) :
    ReturnsInHanded {} Try.checked os 7 .any (Rows.fnExactUndoingCodeSpec.pre6 enc Try.prog Try.f7 Rows.fnExactUndoingCodeRow.domain false) (Rows.fnExactUndoingCodeSpec.post enc Try.prog Try.f7 false true false false) := by
  refine returnsInHanded_of_change (C := Try.checked) fnExactUndoingCode_knobs started (by kernel_rfl) Try.func7
    (ChangeSpec.witness6 (enc := enc) (C := Try.checked) false ⟨#[], #[.agg #[.int .i64 0, .int .i64 0, .string ⟨#[]⟩], .int .i64 0], []⟩ 8 (by kernel_rfl) (by kernel_rfl) (by kernel_rfl) (by kernel_rfl)) ?_
  intro W base args ds gs before hval0 hW _ _
  have hval : ∀ (j : Nat) t v, Try.f7.params[j]? = some t → args[j]? = some v → Value.okWide Try.prog W .any base t v := hval0
  have hW' := hW
  obtain ⟨p, q, hA0, hV, rfl, _, _⟩ := hW
  have hA : DataW.TrodAll enc Try.prog W 0 (fun _ => true) true Try.f7.params.toList args.toList ds p := hA0
  rw [Try.params7] at hA hval
  obtain ⟨v0, v1, d0, d1, p0, p1, rfl, rfl, rfl, h0, h1⟩ := trodAll_two hA
  obtain ⟨rfl, rfl⟩ := trodVars_none hV
  obtain ⟨m, rfl, rfl, hp1, wm⟩ := open_int Try.underlying3 (hval 1 3 v1 rfl rfl) h1
  subst hp1
  obtain ⟨K, N, o, rfl, ho⟩ := open_code (hval 0 39 v0 rfl rfl) h0
  clear hA0 hval0
  simp only [List.append_nil] at hW'
  have hlt : ∀ x ∈ p0, x.block < W.heap.size := fun x hx => hW'.lt x (by simp [hx])
  refine (law_undoingCode K N o (undoD (undoS K N o m)) m (zeroCU (undoS K N o m) K) (zeroCU (undoS K N o m) m) (undoI (undoS K N o m)) (undoS K N o m).isSome ho W (fun h w' _ => ⟨spec_undoingCode K N o m (by omega) w', impl_undoingCode K N o m (by omega) w'⟩)).mono fun e W' ⟨he, hnx⟩ => ?_
  subst he
  exact ⟨_, rfl, _, _, _, [], p0, [], hW', trodAll_mk1 (shut_bool Try.underlying4 _), (by have := trodAll_mk2 (Below.trod fnExactUndoingCode_laidOut (by kernel_rfl) (of_decide_eq_true (by kernel_rfl)) h0 hnx hlt) (shut_int Try.underlying3 wm); rw [List.append_nil] at this; exact this), rfl, hnx.frame _, fun h => by cases h⟩

theorem fnExactUndoingCode_holds : Rows.FnExactUndoingCodeSaid :=
  OpenClaim.holds_of_wide 7 Try.f7 rfl rfl rfl rfl rfl rfl rfl ⟨rfl, rfl, rfl, rfl, rfl⟩ rfl rfl rfl rfl rfl (by kernel_rfl) Try.func7 (by kernel_rfl)
    (of_decide_eq_true (by kernel_rfl)) (by unfold Func.isWrapper; first | (rw [if_pos (by decide +kernel)]; kernel_rfl) | (rw [if_neg (by decide +kernel)]; exact ⟨rfl, rfl⟩))
    (fun os started H enc _ => fnExactUndoingCode_lifted os started H enc)
end Go.Proofs.Ytcoiodfggaanbaa
