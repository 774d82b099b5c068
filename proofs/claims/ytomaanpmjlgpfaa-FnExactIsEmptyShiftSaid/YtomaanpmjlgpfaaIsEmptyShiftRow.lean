/-
  At every shift, whatever its number and its list of strings, the law of IsEmptyShift returns true and changes nothing that was there before: the model's answer and the program's agree. The condition: none.
-/
import Derived.Test.YtomaanpmjlgpfaaLangSame
import Derived.Test.YtomaanpmjlgpfaaShiftArg
import Derived.Test.YtomaanpmjlgpfaaShapedPlain
import Derived.Test.YtomaanpmjlgpfaaRows
import Derived.ProofKit
import Derived.OpenShut
import Derived.ChangeSame
import Derived.Lib.SmallJoins
import Derived.Lib.AtoiErrMem
namespace Go.Proofs.Ytomaanpmjlgpfaa
open Go Go.ChangeShapes Go.WideShapes Go.ChangeAt Go.RowKit
open Go.Joins (open_agg2)
open Go.ChangeMaps (open_string shut_string)

theorem fnExactIsEmptyShift_knobs : ownKnob Try.prog.godebug = none := by kernel_rfl
theorem fnExactIsEmptyShift_laidOut : laidOutB Try.prog = true := by kernel_rfl
theorem fnExactIsEmptyShift_cellsStr : Try.prog.cellsOf 9 = 1 := by kernel_rfl
theorem fnExactIsEmptyShift_cellsSh : Try.prog.cellsOf 46 = 2 := by kernel_rfl

set_option maxRecDepth 100000 in
theorem fnExactIsEmptyShift_lifted (os : Os) (started : os.Started) (H : Type) (enc : TypeId × Value → H) :
    ReturnsInHanded {} Try.checked os 14 .any (Rows.fnExactIsEmptyShiftSpec.pre6 enc Try.prog Try.f14 Rows.fnExactIsEmptyShiftRow.domain false) (Rows.fnExactIsEmptyShiftSpec.post enc Try.prog Try.f14 false true false false) := by
  refine handed_shaped (C := Try.checked) fnExactIsEmptyShift_knobs started (by kernel_rfl) Try.func14
    (ChangeSpec.witness6 (enc := enc) (C := Try.checked) false ⟨#[], #[.agg #[.int .i64 0, .slice none 0 0]], []⟩ 8 (by kernel_rfl) (by kernel_rfl) (by kernel_rfl) (by kernel_rfl)) ?_
  intro W base args ds gs before hval0 hW hsh
  have hval : ∀ (j : Nat) t v, Try.f14.params[j]? = some t → args[j]? = some v → Value.okWide Try.prog W .any base t v := hval0
  have hW' := hW
  obtain ⟨p, q, hA0, hV, rfl, _, _⟩ := hW
  have hA : DataW.TrodAll enc Try.prog W 0 (fun _ => true) true Try.f14.params.toList args.toList ds p := hA0
  rw [Try.params14] at hA hval
  obtain ⟨v0, d0, rfl, rfl, h0⟩ := trodAll_one hA
  obtain ⟨rfl, rfl⟩ := trodVars_none hV
  have h0k := h0
  obtain ⟨e0, e1, y0, y1, m, rfl, hd0, hp0, hy0, hy1⟩ := open_agg2 Try.underlying46 (by kernel_rfl) fnExactIsEmptyShift_cellsSh (hval 0 46 v0 rfl rfl) h0
  clear hd0 hp0
  obtain ⟨L, hL, _, _⟩ := DataW.trod_int Try.underlying3 hy0
  simp at hL
  subst hL
  clear hA0 hval0
  simp only [List.append_nil] at hW'
  have hlt : ∀ x ∈ p, x.block < W.heap.size := fun x hx => hW'.lt x (by simpa using hx)
  have fin : ∀ (W' : World), Below W.heap.size W W' →
      Rows.fnExactIsEmptyShiftSpec.post enc Try.checked.prog Try.f14 false true false false W #[.agg #[.int .i64 L, e1]] (.bool true) W' := by
    intro W' hnx
    exact ⟨_, _, _, [], p, [], hW', trodAll_mk1 (shut_bool Try.underlying4 _), trodAll_mk1 (Below.trod fnExactIsEmptyShift_laidOut (by kernel_rfl) (of_decide_eq_true (by kernel_rfl)) h0k hnx hlt), rfl, hnx.frame _, fun h => by cases h⟩
  have go : ∀ (V : Value) (xs : List ByteArray), e1 = V → SliceArg W V xs → Calls Try.checked.prog 14 #[.agg #[.int .i64 L, e1]] W fun e W' => ∃ v, e = Ending.returned v ∧ Rows.fnExactIsEmptyShiftSpec.post enc Try.checked.prog Try.f14 false true false false W #[.agg #[.int .i64 L, e1]] v W' := by
    intro V xs hV hA
    subst hV
    refine (law_isEmptyShift L e1 xs (emptyS L xs) W hA (atCopies_isEmptyShift W L xs) (atCopies_impl_isEmptyShift W hsh L xs)).mono fun e W' ⟨he, hb⟩ => ?_
    subst he
    exact ⟨_, rfl, fin W' hb⟩
  rcases open_strings Try.underlying29 Try.underlying9 fnExactIsEmptyShift_cellsStr hy1 with ⟨hcs, _⟩ | ⟨a, len, cap, ss, hcs, _, hl, hm, hz, _, hcell, hws⟩
  · simp at hcs
    exact go _ [] hcs (sliceArg_none none 0 W)
  · simp at hcs
    simp only [if_true] at hz
    by_cases hl0 : len = 0
    · subst hl0
      exact go _ [] hcs (sliceArg_none _ cap W)
    · obtain ⟨b, off, spot⟩ := a
      have hspot : spot = none := by simpa [Addr.add] using World.cell?_spot (hcell 0 (by omega))
      subst hspot
      have hbW : b < W.heap.size := Lib.lt_of_cell (hcell 0 (by omega))
      have hn : (ss.take len).length = len := by rw [List.length_take]; omega
      have hst : StrsAt W b off (ss.take len) := by
        intro k hk
        rw [hn] at hk
        rw [← add_plain, hcell k (by omega)]
        simp [List.getD, hk]
      have hmx : len ≤ 9223372036854775807 := by unfold maxLen at hm; omega
      have hsz : ∀ k, k < (ss.take len).length → ((ss.take len).getD k ByteArray.empty).size ≤ 9223372036854775807 := by
        intro k hk
        have hmem : (ss.take len).getD k ByteArray.empty ∈ ss := by
          simp only [List.getD, List.getElem?_eq_getElem hk, Option.getD_some]
          exact List.mem_of_mem_take (List.getElem_mem hk)
        have := hws _ hmem
        unfold maxLen at this; omega
      have hS := sliceArg_some b off cap (ss.take len) (by omega) hsz W hst hbW
      rw [hn] at hS
      exact go _ (ss.take len) hcs hS

theorem fnExactIsEmptyShift_holds : Rows.FnExactIsEmptyShiftSaid :=
  OpenClaim.holds_of_wide 14 Try.f14 rfl rfl rfl rfl rfl rfl rfl ⟨rfl, rfl, rfl, rfl, rfl⟩ rfl rfl rfl rfl rfl (by kernel_rfl) Try.func14 (by kernel_rfl)
    (of_decide_eq_true (by kernel_rfl)) (by unfold Func.isWrapper; first | (rw [if_pos (by decide +kernel)]; kernel_rfl) | (rw [if_neg (by decide +kernel)]; exact ⟨rfl, rfl⟩))
    (fun os started H enc _ => fnExactIsEmptyShift_lifted os started H enc)
end Go.Proofs.Ytomaanpmjlgpfaa
