/-
  FnExactShiftText: at every shift, whatever its number and its list of strings, the law returns true and its argument reads as before, where the listed package-level tables are as the program's text lays them.
-/
import Derived.Test.YtomaanpmjlgpfaaDoorTextSpec
import Derived.Test.YtomaanpmjlgpfaaDoorShiftArg
import Derived.Test.YtomaanpmjlgpfaaDoorRows
import Derived.Test.YtomaanpmjlgpfaaDoorCards
import Derived.Test.YtomaanpmjlgpfaaDoorTie
import Derived.Test.YtomaanpmjlgpfaaDoorLaid
import Derived.LaidMore
import Derived.Stop.Joined
import Derived.Stop.LaidErr
import Derived.SevenTiedAt
import Derived.Lay
import Derived.ProofKit
import Derived.OpenShut
import Derived.ChangeSame
import Derived.Lib.SmallJoins
import Derived.Lib.AtoiErrMem
namespace Go.Proofs.YtomaanpmjlgpfaaDoor
open Go Go.ChangeShapes Go.WideShapes Go.ChangeAt Go.RowKit
open Go.Joins (open_agg2)
open Go.ChangeMaps (open_string shut_string)

theorem fnExactShiftText_knobs : ownKnob Tryd.prog.godebug = none := by kernel_rfl
theorem fnExactShiftText_laidOut : laidOutB Tryd.prog = true := by kernel_rfl
theorem fnExactShiftText_cellsStr : Tryd.prog.cellsOf 9 = 1 := by kernel_rfl
theorem fnExactShiftText_cellsSh : Tryd.prog.cellsOf 24 = 2 := by kernel_rfl

/-- A start: the settled world with the listed tables laid. -/
theorem fnExactShiftText_start (os : Os) (args : Array Value) : laidMetH Tryd.prog Rows.fnExactShiftTextRow.laid ((World.laidAll Tryd.prog os Rows.fnExactShiftTextRow.laid).forCall (fun _ _ => 0) ⟨#[], args, []⟩).memory := by
  rw [MakeChecks.laidMetH_plain _ _ _ (by kernel_rfl)]
  exact laidMet_laidAll _ (by kernel_rfl) (by kernel_rfl)

set_option maxRecDepth 100000 in
theorem fnExactShiftText_lifted (os : Os) (started : os.Started) (H : Type) (enc : TypeId × Value → H) :
    ReturnsInHanded {} Tryd.checked os 3 .any (fun w args => (Rows.fnExactShiftTextSpec.pre enc Tryd.prog Tryd.f3 [] false w args ∧ laidMetH Tryd.prog Rows.fnExactShiftTextRow.laid w) ∧ sizedMet enc Tryd.prog Tryd.f3 (OpenSpec.ofChange Rows.fnExactShiftTextSpec) false w args)
      (Rows.fnExactShiftTextSpec.post enc Tryd.prog Tryd.f3 false true false false) := by
  refine returnsInHanded_of_change_and (C := Tryd.checked) (X := fun w _ => laidMetH Tryd.prog Rows.fnExactShiftTextRow.laid w) (fun _ _ _ hh h => h.of_heap hh) fnExactShiftText_knobs started (by kernel_rfl) Tryd.func3
    (ChangeSpec.witness_shaped (enc := enc) (C := Tryd.checked) (os := os) (X := fun w _ => laidMetH Tryd.prog Rows.fnExactShiftTextRow.laid w) false (World.laidAll Tryd.prog os Rows.fnExactShiftTextRow.laid) #[.agg #[.int .i64 0, .slice none 0 0]] 8 (World.laidAll_os _ _ _)
      (World.shaped_of_ZipB (by kernel_rfl) (by kernel_rfl)) (by kernel_rfl) (by kernel_rfl) (by kernel_rfl) (fnExactShiftText_start os _)) ?_
  intro W base args ds gs before hval0 hW _ _ hLd _
  have hval : ∀ (j : Nat) t v, Tryd.f3.params[j]? = some t → args[j]? = some v → Value.okWide Tryd.prog W .any base t v := hval0
  have hW' := hW
  obtain ⟨p, q, hA0, hV, rfl, _, _⟩ := hW
  have hA : DataW.TrodAll enc Tryd.prog W 0 (fun _ => true) true Tryd.f3.params.toList args.toList ds p := hA0
  rw [Tryd.params3] at hA hval
  obtain ⟨v0, d0, rfl, rfl, h0⟩ := trodAll_one hA
  obtain ⟨rfl, rfl⟩ := trodVars_none hV
  have h0k := h0
  obtain ⟨e0, e1, y0, y1, m, rfl, hd0, hp0, hy0, hy1⟩ := open_agg2 Tryd.underlying24 (by kernel_rfl) fnExactShiftText_cellsSh (hval 0 24 v0 rfl rfl) h0
  clear hd0 hp0
  obtain ⟨L, hL, _, _⟩ := DataW.trod_int Tryd.underlying3 hy0
  simp at hL
  subst hL
  have hM : laidMet Tryd.prog Rows.fnExactShiftTextRow.laid W := by
    rw [← MakeChecks.laidMetH_plain _ _ _ (by kernel_rfl)]; exact hLd
  have hPow : Pow W := pow_of_laid (laidMet.tail (laidMet.tail hM))
  clear hA0 hval0
  simp only [List.append_nil] at hW'
  have hlt : ∀ x ∈ p, x.block < W.heap.size := fun x hx => hW'.lt x (by simpa using hx)
  have fin : ∀ (W' : World), Below W.heap.size W W' →
      Rows.fnExactShiftTextSpec.post enc Tryd.checked.prog Tryd.f3 false true false false W #[.agg #[.int .i64 L, e1]] (.bool true) W' := by
    intro W' hnx
    exact ⟨_, _, _, [], p, [], hW', trodAll_mk1 (shut_bool Tryd.underlying4 _), trodAll_mk1 (Below.trod fnExactShiftText_laidOut (by kernel_rfl) (of_decide_eq_true (by kernel_rfl)) h0k hnx hlt), rfl, hnx.frame _, fun h => by cases h⟩
  have go : ∀ (V : Value) (xs : List ByteArray), e1 = V → SliceArg W V xs → Calls Tryd.checked.prog 3 #[.agg #[.int .i64 L, e1]] W fun e W' => ∃ v, e = Ending.returned v ∧ Rows.fnExactShiftTextSpec.post enc Tryd.checked.prog Tryd.f3 false true false false W #[.agg #[.int .i64 L, e1]] v W' := by
    intro V xs hV hA
    subst hV
    refine (law_shiftText L e1 xs (textOf L xs) W hA (atCopies_shiftText W L xs) (atCopies_impl_shiftText W hPow L xs)).mono fun e W' ⟨he, hb⟩ => ?_
    subst he
    exact ⟨_, rfl, fin W' hb⟩
  rcases open_strings Tryd.underlying22 Tryd.underlying9 fnExactShiftText_cellsStr hy1 with ⟨hcs, _⟩ | ⟨a, len, cap, ss, hcs, _, hl, hm, hz, _, hcell, hws⟩
  · simp at hcs
    exact go _ [] hcs (sliceArg_none none 0 W)
  · simp at hcs
    simp only [if_true] at hz
    by_cases hl0 : len = 0
    · subst hl0
      exact go _ [] hcs (sliceArg_none _ cap W)
    · obtain ⟨b, off, spot⟩ := a
      have hspot : spot = none := by simpa [Addr.add] using World.cell?_spot (hcell 0 (by omega))
      subst hspot
      have hbW : b < W.heap.size := Lib.lt_of_cell (hcell 0 (by omega))
      have hn : (ss.take len).length = len := by rw [List.length_take]; omega
      have hst : StrsAt W b off (ss.take len) := by
        intro k hk
        rw [hn] at hk
        rw [← add_plain, hcell k (by omega)]
        simp [List.getD, hk]
      have hmx : len ≤ 9223372036854775807 := by unfold maxLen at hm; omega
      have hsz : ∀ k, k < (ss.take len).length → ((ss.take len).getD k ByteArray.empty).size ≤ 9223372036854775807 := by
        intro k hk
        have hmem : (ss.take len).getD k ByteArray.empty ∈ ss := by
          simp only [List.getD, List.getElem?_eq_getElem hk, Option.getD_some]
          exact List.mem_of_mem_take (List.getElem_mem hk)
        have := hws _ hmem
        unfold maxLen at this; omega
      have hS := sliceArg_some b off cap (ss.take len) (by omega) hsz W hst hbW
      rw [hn] at hS
      exact go _ (ss.take len) hcs hS

theorem fnExactShiftText_holds : Rows.FnExactShiftTextSaid :=
  OpenClaim.holds_of_wide 3 Tryd.f3 rfl rfl rfl rfl rfl rfl rfl ⟨rfl, rfl, rfl, rfl, rfl⟩ rfl rfl rfl rfl rfl (by kernel_rfl) Tryd.func3 (by kernel_rfl)
    (of_decide_eq_true (by kernel_rfl)) (by unfold Func.isWrapper; first | (rw [if_pos (by decide +kernel)]; kernel_rfl) | (rw [if_neg (by decide +kernel)]; exact ⟨rfl, rfl⟩))
    (fun os started H enc _ => fnExactShiftText_lifted os started H enc)

theorem fnExactShiftText_card : Rows.FnExactShiftTextCardSaid :=
  Claim7.holds_tied_plain_at .later [] [.data, .data, .data] true (true, "fc300d4e5e258fc6d52beaa816b0fa397dde46f399e74b94f7f3a95af743b951") true
    fnExactShiftText_holds (fun _ h => by cases h) (by kernel_rfl) (fun _ h => by cases h) fnExactShiftText_row_tie rfl ⟨rfl, rfl⟩ (by kernel_rfl) rfl
    (fun f fn hf hfn => by
      obtain rfl : f = 3 := Option.some.inj ((show Tryd.prog.funcNamed "loop.example/g03103/laws.FnExactShiftText" = some 3 by kernel_rfl).symm.trans hf) |>.symm
      obtain rfl : fn = Tryd.f3 := (Option.some.inj (Tryd.func3.symm.trans hfn)).symm
      exact ⟨by kernel_rfl, fun j t ht => by
        rw [Tryd.params3] at ht
        have hm : t ∈ [24] := by simpa using Array.mem_of_getElem? ht
        have hall : ([24].all fun u => !Tryd.prog.wantsStandIn u) = true := by kernel_rfl
        exact (show Tryd.prog.wantsStandIn t = false by simpa using List.all_eq_true.1 hall t hm)⟩)
    (by kernel_rfl)
end Go.Proofs.YtomaanpmjlgpfaaDoor
