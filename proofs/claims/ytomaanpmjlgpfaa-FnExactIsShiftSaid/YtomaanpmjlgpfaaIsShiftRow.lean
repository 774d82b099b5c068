/-
  At every shift, whatever its number and its list of strings, the law of IsShift returns true and changes nothing that was there before: the model's answer and the program's agree. The condition: none.
-/
import Derived.Test.YtomaanpmjlgpfaaShiftImpl
import Derived.Test.YtomaanpmjlgpfaaShiftArg
import Derived.Test.YtomaanpmjlgpfaaRows
import Derived.ProofKit
import Derived.OpenShut
import Derived.ChangeSame
import Derived.Lib.SmallJoins
import Derived.Lib.AtoiErrMem
namespace Go.Proofs.Ytomaanpmjlgpfaa
open Go Go.ChangeShapes Go.WideShapes Go.ChangeAt Go.RowKit
open Go.Joins (open_agg2)
open Go.ChangeMaps (open_string shut_string)

theorem fnExactIsShift_knobs : ownKnob Try.prog.godebug = none := by kernel_rfl
theorem fnExactIsShift_laidOut : laidOutB Try.prog = true := by kernel_rfl
theorem fnExactIsShift_cellsStr : Try.prog.cellsOf 9 = 1 := by kernel_rfl
theorem fnExactIsShift_cellsSh : Try.prog.cellsOf 46 = 2 := by kernel_rfl

set_option maxRecDepth 100000 in
theorem fnExactIsShift_lifted (os : Os) (started : os.Started) (H : Type) (enc : TypeId × Value → H) :
    ReturnsInHanded {} Try.checked os 9 .any (Rows.fnExactIsShiftSpec.pre6 enc Try.prog Try.f9 Rows.fnExactIsShiftRow.domain false) (Rows.fnExactIsShiftSpec.post enc Try.prog Try.f9 false true false false) := by
  refine returnsInHanded_of_change (C := Try.checked) fnExactIsShift_knobs started (by kernel_rfl) Try.func9
    (ChangeSpec.witness6 (enc := enc) (C := Try.checked) false ⟨#[], #[.agg #[.int .i64 0, .slice none 0 0]], []⟩ 8 (by kernel_rfl) (by kernel_rfl) (by kernel_rfl) (by kernel_rfl)) ?_
  intro W base args ds gs before hval0 hW _ _
  have hval : ∀ (j : Nat) t v, Try.f9.params[j]? = some t → args[j]? = some v → Value.okWide Try.prog W .any base t v := hval0
  have hW' := hW
  obtain ⟨p, q, hA0, hV, rfl, _, _⟩ := hW
  have hA : DataW.TrodAll enc Try.prog W 0 (fun _ => true) true Try.f9.params.toList args.toList ds p := hA0
  rw [Try.params9] at hA hval
  obtain ⟨v0, d0, rfl, rfl, h0⟩ := trodAll_one hA
  obtain ⟨rfl, rfl⟩ := trodVars_none hV
  have h0k := h0
  obtain ⟨e0, e1, y0, y1, m, rfl, hd0, hp0, hy0, hy1⟩ := open_agg2 Try.underlying46 (by kernel_rfl) fnExactIsShift_cellsSh (hval 0 46 v0 rfl rfl) h0
  clear hd0 hp0
  obtain ⟨L, hL, _, _⟩ := DataW.trod_int Try.underlying3 hy0
  simp at hL
  subst hL
  clear hA0 hval0
  simp only [List.append_nil] at hW'
  have hlt : ∀ x ∈ p, x.block < W.heap.size := fun x hx => hW'.lt x (by simpa using hx)
  have fin : ∀ (W' : World), Below W.heap.size W W' →
      Rows.fnExactIsShiftSpec.post enc Try.checked.prog Try.f9 false true false false W #[.agg #[.int .i64 L, e1]] (.bool true) W' := by
    intro W' hnx
    exact ⟨_, _, _, [], p, [], hW', trodAll_mk1 (shut_bool Try.underlying4 _), trodAll_mk1 (Below.trod fnExactIsShift_laidOut (by kernel_rfl) (of_decide_eq_true (by kernel_rfl)) h0k hnx hlt), rfl, hnx.frame _, fun h => by cases h⟩
  have go : ∀ (V : Value) (xs : List ByteArray), e1 = V → SliceArg W V xs → Calls Try.checked.prog 9 #[.agg #[.int .i64 L, e1]] W fun e W' => ∃ v, e = Ending.returned v ∧ Rows.fnExactIsShiftSpec.post enc Try.checked.prog Try.f9 false true false false W #[.agg #[.int .i64 L, e1]] v W' := by
    intro V xs hV hA
    subst hV
    refine (law_isShift L e1 xs (isShift L xs) W hA (atCopies_isShift W L xs) (atCopies_impl_isShift W L xs)).mono fun e W' ⟨he, hb⟩ => ?_
    subst he
    exact ⟨_, rfl, fin W' hb⟩
  rcases open_strings Try.underlying29 Try.underlying9 fnExactIsShift_cellsStr hy1 with ⟨hcs, _⟩ | ⟨a, len, cap, ss, hcs, _, hl, hm, hz, _, hcell, hws⟩
  · simp at hcs
    exact go _ [] hcs (sliceArg_none none 0 W)
  · simp at hcs
    simp only [if_true] at hz
    by_cases hl0 : len = 0
    · subst hl0
      exact go _ [] hcs (sliceArg_none _ cap W)
    · obtain ⟨b, off, spot⟩ := a
      have hspot : spot = none := by simpa [Addr.add] using World.cell?_spot (hcell 0 (by omega))
      subst hspot
      have hbW : b < W.heap.size := Lib.lt_of_cell (hcell 0 (by omega))
      have hn : (ss.take len).length = len := by rw [List.length_take]; omega
      have hst : StrsAt W b off (ss.take len) := by
        intro k hk
        rw [hn] at hk
        rw [← add_plain, hcell k (by omega)]
        simp [List.getD, hk]
      have hmx : len ≤ 9223372036854775807 := by unfold maxLen at hm; omega
      have hsz : ∀ k, k < (ss.take len).length → ((ss.take len).getD k ByteArray.empty).size ≤ 9223372036854775807 := by
        intro k hk
        have hmem : (ss.take len).getD k ByteArray.empty ∈ ss := by
          simp only [List.getD, List.getElem?_eq_getElem hk, Option.getD_some]
          exact List.mem_of_mem_take (List.getElem_mem hk)
        have := hws _ hmem
        unfold maxLen at this; omega
      have hS := sliceArg_some b off cap (ss.take len) (by omega) hsz W hst hbW
      rw [hn] at hS
      exact go _ (ss.take len) hcs hS

theorem fnExactIsShift_holds : Rows.FnExactIsShiftSaid :=
  OpenClaim.holds_of_wide 9 Try.f9 rfl rfl rfl rfl rfl rfl rfl ⟨rfl, rfl, rfl, rfl, rfl⟩ rfl rfl rfl rfl rfl (by kernel_rfl) Try.func9 (by kernel_rfl)
    (of_decide_eq_true (by kernel_rfl)) (by unfold Func.isWrapper; first | (rw [if_pos (by decide +kernel)]; kernel_rfl) | (rw [if_neg (by decide +kernel)]; exact ⟨rfl, rfl⟩))
    (fun os started H enc _ => fnExactIsShift_lifted os started H enc)
end Go.Proofs.Ytomaanpmjlgpfaa
