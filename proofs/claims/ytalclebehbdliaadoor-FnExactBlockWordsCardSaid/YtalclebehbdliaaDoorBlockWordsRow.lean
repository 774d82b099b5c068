/-
  At every shift, whatever its number and its list of strings, and every int, the law of BlockWords returns true, its arguments read as before, and the list that it was given shares no memory with anything else, where the listed package-level tables are as the program's text lays them.
-/
import Derived.Test.YtalclebehbdliaaDoorBlockWordsLaw
import Derived.Test.YtalclebehbdliaaDoorBWordAt
import Derived.Test.YtalclebehbdliaaDoorShiftArg
import Derived.Test.YtalclebehbdliaaDoorShaped
import Derived.Test.YtalclebehbdliaaDoorShapedPlain
import Derived.Test.YtalclebehbdliaaDoorRows
import Derived.Test.YtalclebehbdliaaDoorCards
import Derived.Test.YtalclebehbdliaaDoorTie
import Derived.Test.YtalclebehbdliaaDoorLaidPow
import Derived.LaidMore
import Derived.Stop.Joined
import Derived.Stop.LaidErr
import Derived.SevenTiedAt
import Derived.Lay
import Derived.ProofKit
import Derived.OpenShut
import Derived.ChangeSame
import Derived.Lib.SmallJoins
import Derived.Lib.AtoiErrMem
namespace Go.Proofs.YtalclebehbdliaaDoor
open Go Go.ChangeShapes Go.WideShapes Go.ChangeAt Go.RowKit
open Go.Joins (open_agg2)
open Go.ChangeMaps (open_string shut_string)

theorem fnExactBlockWords_knobs : ownKnob Tryd.prog.godebug = none := by kernel_rfl
theorem fnExactBlockWords_laidOut : laidOutB Tryd.prog = true := by kernel_rfl
theorem fnExactBlockWords_cellsStr : Tryd.prog.cellsOf 9 = 1 := by kernel_rfl
theorem fnExactBlockWords_cellsSh : Tryd.prog.cellsOf 24 = 2 := by kernel_rfl

/-- A start: the settled world with the listed tables laid. -/
theorem fnExactBlockWords_start (os : Os) (args : Array Value) : laidMetH Tryd.prog Rows.fnExactBlockWordsRow.laid ((World.laidAll Tryd.prog os Rows.fnExactBlockWordsRow.laid).forCall (fun _ _ => 0) ⟨#[], args, []⟩).memory := by
  rw [MakeChecks.laidMetH_plain _ _ _ (by kernel_rfl)]
  exact laidMet_laidAll _ (by kernel_rfl) (by kernel_rfl)

set_option maxRecDepth 100000 in
theorem fnExactBlockWords_lifted (os : Os) (started : os.Started) (H : Type) (enc : TypeId × Value → H) :
    ReturnsInHanded {} Tryd.checked os 3 .any (fun w args => (Rows.fnExactBlockWordsSpec.pre enc Tryd.prog Tryd.f3 [] false w args ∧ laidMetH Tryd.prog Rows.fnExactBlockWordsRow.laid w) ∧ sizedMet enc Tryd.prog Tryd.f3 (OpenSpec.ofChange Rows.fnExactBlockWordsSpec) false w args)
      (Rows.fnExactBlockWordsSpec.post enc Tryd.prog Tryd.f3 false true false false) := by
  refine handed_and_shaped (C := Tryd.checked) (X := fun w _ => laidMetH Tryd.prog Rows.fnExactBlockWordsRow.laid w) (fun _ _ _ hh h => h.of_heap hh) fnExactBlockWords_knobs started (by kernel_rfl) Tryd.func3
    (ChangeSpec.witness_shaped (enc := enc) (C := Tryd.checked) (os := os) (X := fun w _ => laidMetH Tryd.prog Rows.fnExactBlockWordsRow.laid w) false (World.laidAll Tryd.prog os Rows.fnExactBlockWordsRow.laid) #[.agg #[.int .i64 0, .slice none 0 0], .int .i64 0] 8 (World.laidAll_os _ _ _)
      (World.shaped_of_ZipB (by kernel_rfl) (by kernel_rfl)) (by kernel_rfl) (by kernel_rfl) (by kernel_rfl) (fnExactBlockWords_start os _)) ?_
  intro W base args ds gs before hval0 hW hsh hLd
  have hval : ∀ (j : Nat) t v, Tryd.f3.params[j]? = some t → args[j]? = some v → Value.okWide Tryd.prog W .any base t v := hval0
  have hW' := hW
  obtain ⟨p, q, hA0, hV, rfl, _, _⟩ := hW
  have hA : DataW.TrodAll enc Tryd.prog W 0 (fun _ => true) true Tryd.f3.params.toList args.toList ds p := hA0
  rw [Tryd.params3] at hA hval
  obtain ⟨v0, v1, d0, d1, p0, p1, rfl, rfl, rfl, h0, h1⟩ := trodAll_two hA
  obtain ⟨rfl, rfl⟩ := trodVars_none hV
  obtain ⟨a1, rfl, rfl, hp1, wa1⟩ := open_int Tryd.underlying3 (hval 1 3 v1 rfl rfl) h1
  subst hp1
  have h0k := h0
  obtain ⟨e0, e1, y0, y1, m, rfl, hd0, hp0, hy0, hy1⟩ := open_agg2 Tryd.underlying24 (by kernel_rfl) fnExactBlockWords_cellsSh (hval 0 24 v0 rfl rfl) h0
  clear hd0 hp0
  obtain ⟨L, hL, _, _⟩ := DataW.trod_int Tryd.underlying3 hy0
  simp at hL
  subst hL
  have hM : laidMet Tryd.prog Rows.fnExactBlockWordsRow.laid W := by
    rw [← MakeChecks.laidMetH_plain _ _ _ (by kernel_rfl)]; exact hLd
  have hPow : Pow W := pow_of_laid (laidMet.tail (laidMet.tail hM))
  clear hA0 hval0
  simp only [List.append_nil] at hW'
  have hlt : ∀ x ∈ p0, x.block < W.heap.size := fun x hx => hW'.lt x (by simpa using hx)
  have fin : ∀ (W' : World), Below W.heap.size W W' →
      Rows.fnExactBlockWordsSpec.post enc Tryd.checked.prog Tryd.f3 false true false false W #[.agg #[.int .i64 L, e1], .int .i64 a1] (.bool true) W' := by
    intro W' hnx
    exact ⟨_, _, _, [], p0, [], hW', trodAll_mk1 (shut_bool Tryd.underlying4 _), (by have := trodAll_mk2 (Below.trod fnExactBlockWords_laidOut (by kernel_rfl) (of_decide_eq_true (by kernel_rfl)) h0k hnx hlt) (shut_int Tryd.underlying3 wa1); rw [List.append_nil] at this; exact this), rfl, hnx.frame _, fun h => by cases h⟩
  have go : ∀ (V : Value) (xs : List ByteArray), e1 = V → SliceArg W V xs → Calls Tryd.checked.prog 3 #[.agg #[.int .i64 L, e1], .int .i64 a1] W fun e W' => ∃ v, e = Ending.returned v ∧ Rows.fnExactBlockWordsSpec.post enc Tryd.checked.prog Tryd.f3 false true false false W #[.agg #[.int .i64 L, e1], .int .i64 a1] v W' := by
    intro V xs hV hA
    subst hV
    refine (law_blockWords L e1 xs a1 (blockWordsS L xs a1) (blockWords_len L xs a1) W hA (atCopies_blockWords W L xs a1) (atCopies_impl_blockWords W hsh hPow L xs a1)).mono fun e W' ⟨he, hb⟩ => ?_
    subst he
    exact ⟨_, rfl, fin W' hb⟩
  rcases open_strings Tryd.underlying22 Tryd.underlying9 fnExactBlockWords_cellsStr hy1 with ⟨hcs, _⟩ | ⟨a, len, cap, ss, hcs, _, hl, hm, hz, _, hcell, hws⟩
  · simp at hcs
    exact go _ [] hcs (sliceArg_none none 0 W)
  · simp at hcs
    simp only [if_true] at hz
    by_cases hl0 : len = 0
    · subst hl0
      exact go _ [] hcs (sliceArg_none _ cap W)
    · obtain ⟨b, off, spot⟩ := a
      have hspot : spot = none := by simpa [Addr.add] using World.cell?_spot (hcell 0 (by omega))
      subst hspot
      have hbW : b < W.heap.size := Lib.lt_of_cell (hcell 0 (by omega))
      have hn : (ss.take len).length = len := by rw [List.length_take]; omega
      have hst : StrsAt W b off (ss.take len) := by
        intro k hk
        rw [hn] at hk
        rw [← add_plain, hcell k (by omega)]
        simp [List.getD, hk]
      have hmx : len ≤ 9223372036854775807 := by unfold maxLen at hm; omega
      have hsz : ∀ k, k < (ss.take len).length → ((ss.take len).getD k ByteArray.empty).size ≤ 9223372036854775807 := by
        intro k hk
        have hmem : (ss.take len).getD k ByteArray.empty ∈ ss := by
          simp only [List.getD, List.getElem?_eq_getElem hk, Option.getD_some]
          exact List.mem_of_mem_take (List.getElem_mem hk)
        have := hws _ hmem
        unfold maxLen at this; omega
      have hS := sliceArg_some b off cap (ss.take len) (by omega) hsz W hst hbW
      rw [hn] at hS
      exact go _ (ss.take len) hcs hS

theorem fnExactBlockWords_holds : Rows.FnExactBlockWordsSaid :=
  OpenClaim.holds_of_wide 3 Tryd.f3 rfl rfl rfl rfl rfl rfl rfl ⟨rfl, rfl, rfl, rfl, rfl⟩ rfl rfl rfl rfl rfl (by kernel_rfl) Tryd.func3 (by kernel_rfl)
    (of_decide_eq_true (by kernel_rfl)) (by unfold Func.isWrapper; first | (rw [if_pos (by decide +kernel)]; kernel_rfl) | (rw [if_neg (by decide +kernel)]; exact ⟨rfl, rfl⟩))
    (fun os started H enc _ => fnExactBlockWords_lifted os started H enc)

theorem fnExactBlockWords_card : Rows.FnExactBlockWordsCardSaid :=
  Claim7.holds_tied_plain_at .later [] [.data, .data, .data] true (true, "d6bfa2aa1b1bf6a4267524f537490e2af52e0a524dc4039a2acbfb0aa46dc652") false
    fnExactBlockWords_holds (fun _ h => by cases h) (by kernel_rfl) (fun _ h => by cases h) fnExactBlockWords_row_tie rfl ⟨rfl, rfl⟩ (by kernel_rfl) rfl
    (fun f fn hf hfn => by
      obtain rfl : f = 3 := Option.some.inj ((show Tryd.prog.funcNamed "loop.example/g03103/laws.FnExactBlockWords" = some 3 by kernel_rfl).symm.trans hf) |>.symm
      obtain rfl : fn = Tryd.f3 := (Option.some.inj (Tryd.func3.symm.trans hfn)).symm
      exact ⟨by kernel_rfl, fun j t ht => by
        rw [Tryd.params3] at ht
        have hm : t ∈ [24, 3] := by simpa using Array.mem_of_getElem? ht
        have hall : ([24, 3].all fun u => !Tryd.prog.wantsStandIn u) = true := by kernel_rfl
        exact (show Tryd.prog.wantsStandIn t = false by simpa using List.all_eq_true.1 hall t hm)⟩)
    (by kernel_rfl)
end Go.Proofs.YtalclebehbdliaaDoor
