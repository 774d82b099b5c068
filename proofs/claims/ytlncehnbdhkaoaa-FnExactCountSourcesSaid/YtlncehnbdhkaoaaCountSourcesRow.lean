/-
  At every argument the model answers and the program answers alike: the law returns true and changes nothing that was there before. The condition: none.
-/
import Derived.Test.YtlncehnbdhkaoaaOntoLaws
import Derived.Test.YtlncehnbdhkaoaaCountS
import Derived.Test.YtlncehnbdhkaoaaSrcIB
import Derived.Test.YtlncehnbdhkaoaaCodeOpen
import Derived.Test.YtlncehnbdhkaoaaRows
namespace Go.Proofs.Ytlncehnbdhkaoaa
open Go Go.ChangeShapes Go.WideShapes Go.ChangeAt Go.RowKit
open Go.ChangeMaps (open_string shut_string)

theorem fnExactCountSources_knobs : ownKnob Try.prog.godebug = none := by kernel_rfl
theorem fnExactCountSources_laidOut : laidOutB Try.prog = true := by kernel_rfl

set_option maxRecDepth 100000 in
theorem fnExactCountSources_lifted (os : Os) (started : os.Started) (H : Type) (enc : TypeId × Value → H) :
    ReturnsInHanded {} Try.checked os 4 .any (Rows.fnExactCountSourcesSpec.pre6 enc Try.prog Try.f4 Rows.fnExactCountSourcesRow.domain false) (Rows.fnExactCountSourcesSpec.post enc Try.prog Try.f4 false true false false) := by
  refine returnsInHanded_of_change (C := Try.checked) fnExactCountSources_knobs started (by kernel_rfl) Try.func4
    (ChangeSpec.witness6 (enc := enc) (C := Try.checked) false ⟨#[], #[.agg #[.int .i64 0, .int .i64 0, .string ⟨#[]⟩], .string ⟨#[]⟩], []⟩ 8 (by kernel_rfl) (by kernel_rfl) (by kernel_rfl) (by kernel_rfl)) ?_
  intro W base args ds gs before hval0 hW _ _
  have hval : ∀ (j : Nat) t v, Try.f4.params[j]? = some t → args[j]? = some v → Value.okWide Try.prog W .any base t v := hval0
  have hW' := hW
  obtain ⟨p, q, hA0, hV, rfl, _, _⟩ := hW
  have hA : DataW.TrodAll enc Try.prog W 0 (fun _ => true) true Try.f4.params.toList args.toList ds p := hA0
  rw [Try.params4] at hA hval
  obtain ⟨v0, v1, d0, d1, p0, p1, rfl, rfl, rfl, h0, h1⟩ := trodAll_two hA
  obtain ⟨rfl, rfl⟩ := trodVars_none hV
  obtain ⟨v, rfl, rfl, hp1, wv⟩ := open_string Try.underlying9 (hval 1 9 v1 rfl rfl) h1
  subst hp1
  have hv : v.size ≤ 9223372036854775807 := by have := wv; unfold maxLen at this; omega
  obtain ⟨K, N, o, rfl, ho⟩ := open_code (hval 0 39 v0 rfl rfl) h0
  clear hA0 hval0
  simp only [List.append_nil] at hW'
  have hlt : ∀ x ∈ p0, x.block < W.heap.size := fun x hx => hW'.lt x (by simp [hx])
  refine (law_countSources K N o v (countS K N o v) ho hv W (fun h h' w' _ => ⟨spec_countSources K N o v (by omega) (by omega) w', impl_countSources K N o v (by omega) (by omega) w'⟩)).mono fun e W' ⟨he, hnx⟩ => ?_
  subst he
  exact ⟨_, rfl, _, _, _, [], p0, [], hW', trodAll_mk1 (shut_bool Try.underlying4 _), (by have := trodAll_mk2 (Below.trod fnExactCountSources_laidOut (by kernel_rfl) (of_decide_eq_true (by kernel_rfl)) h0 hnx hlt) (shut_string Try.underlying9 wv); rw [List.append_nil] at this; exact this), rfl, hnx.frame _, fun h => by cases h⟩

theorem fnExactCountSources_holds : Rows.FnExactCountSourcesSaid :=
  OpenClaim.holds_of_wide 4 Try.f4 rfl rfl rfl rfl rfl rfl rfl ⟨rfl, rfl, rfl, rfl, rfl⟩ rfl rfl rfl rfl rfl (by kernel_rfl) Try.func4 (by kernel_rfl)
    (of_decide_eq_true (by kernel_rfl)) (by unfold Func.isWrapper; first | (rw [if_pos (by decide +kernel)]; kernel_rfl) | (rw [if_neg (by decide +kernel)]; exact ⟨rfl, rfl⟩))
    (fun os started H enc _ => fnExactCountSources_lifted os started H enc)
end Go.Proofs.Ytlncehnbdhkaoaa
