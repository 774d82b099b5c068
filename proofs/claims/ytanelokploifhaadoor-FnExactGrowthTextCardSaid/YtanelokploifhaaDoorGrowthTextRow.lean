/-
  The exact law on GrowthText, for whatever it is handed, where the listed package-level tables are as the program's text lays them.
-/
import Derived.Test.YtanelokploifhaaDoorGrowthTextLaw
import Derived.Test.YtanelokploifhaaDoorGrowText
import Derived.Test.YtanelokploifhaaDoorGrowTextI
import Derived.Test.YtanelokploifhaaDoorGridArg
import Derived.Test.YtanelokploifhaaDoorLaidPow
import Derived.Test.YtanelokploifhaaDoorRows
import Derived.Test.YtanelokploifhaaDoorCards
import Derived.Test.YtanelokploifhaaDoorTie
import Derived.ProofKit
import Derived.OpenShut
import Derived.ChangeSame
import Derived.Lib.AtoiErrMem
import Derived.LaidMore
import Derived.Stop.Joined
import Derived.Stop.LaidErr
import Derived.SevenTiedAt
import Derived.Lay
namespace Go.Proofs.YtanelokploifhaaDoor
open Go Go.ChangeShapes Go.WideShapes Go.ChangeAt Go.RowKit

theorem fnExactGrowthText_knobs : ownKnob Tryd.prog.godebug = none := by kernel_rfl
theorem fnExactGrowthText_laidOut : laidOutB Tryd.prog = true := by kernel_rfl

/-- A start: the settled world with the listed tables laid. -/
theorem fnExactGrowthText_start (os : Os) (args : Array Value) : laidMetH Tryd.prog Rows.fnExactGrowthTextRow.laid ((World.laidAll Tryd.prog os Rows.fnExactGrowthTextRow.laid).forCall (fun _ _ => 0) ⟨#[], args, []⟩).memory := by
  rw [MakeChecks.laidMetH_plain _ _ _ (by kernel_rfl)]
  exact laidMet_laidAll _ (by kernel_rfl) (by kernel_rfl)

set_option maxRecDepth 100000 in
theorem fnExactGrowthText_lifted (os : Os) (started : os.Started) (H : Type) (enc : TypeId × Value → H) :
    ReturnsInHanded {} Tryd.checked os 4 .any (fun w args => (Rows.fnExactGrowthTextSpec.pre enc Tryd.prog Tryd.f4 [] false w args ∧ laidMetH Tryd.prog Rows.fnExactGrowthTextRow.laid w) ∧ sizedMet enc Tryd.prog Tryd.f4 (OpenSpec.ofChange Rows.fnExactGrowthTextSpec) false w args)
      (Rows.fnExactGrowthTextSpec.post enc Tryd.prog Tryd.f4 false true false false) := by
  refine returnsInHanded_of_change_and (C := Tryd.checked) (X := fun w _ => laidMetH Tryd.prog Rows.fnExactGrowthTextRow.laid w) (fun _ _ _ hh h => h.of_heap hh) fnExactGrowthText_knobs started (by kernel_rfl) Tryd.func4
    (ChangeSpec.witness_shaped (enc := enc) (C := Tryd.checked) (os := os) (X := fun w _ => laidMetH Tryd.prog Rows.fnExactGrowthTextRow.laid w) false (World.laidAll Tryd.prog os Rows.fnExactGrowthTextRow.laid) #[.slice none 0 0, .int .i64 0] 8 (World.laidAll_os _ _ _)
      (World.shaped_of_ZipB (by kernel_rfl) (by kernel_rfl)) (by kernel_rfl) (by kernel_rfl) (by kernel_rfl) (fnExactGrowthText_start os _)) ?_
  intro W base args ds gs before hval0 hW _ _ hLd _
  have hval : ∀ (j : Nat) t v, Tryd.f4.params[j]? = some t → args[j]? = some v → Value.okWide Tryd.prog W .any base t v := hval0
  have hW' := hW
  obtain ⟨p, q, hA0, hV, rfl, _, _⟩ := hW
  have hA : DataW.TrodAll enc Tryd.prog W 0 (fun _ => true) true Tryd.f4.params.toList args.toList ds p := hA0
  rw [Tryd.params4] at hA hval
  obtain ⟨v1, v2, d1, d2, p1, p2, rfl, rfl, rfl, t1, t2⟩ := trodAll_two hA
  obtain ⟨rfl, rfl⟩ := trodVars_none hV
  have k1 := t1
  obtain ⟨m1, hV1, z1⟩ := gridV_arg (okWide_slice Tryd.underlying24 (hval 0 24 v1 rfl rfl)) t1
  have k2 := t2
  obtain ⟨a2, rfl, _, _, wa2⟩ := open_int Tryd.underlying3 (hval 1 3 v2 rfl rfl) t2
  have hM : laidMet Tryd.prog Rows.fnExactGrowthTextRow.laid W := by
    rw [← MakeChecks.laidMetH_plain _ _ _ (by kernel_rfl)]; exact hLd
  have hPow : Pow W := pow_of_laid (laidMet.tail (laidMet.tail hM))
  clear hA0 hval0
  simp only [List.append_nil] at hW'
  have hlt : ∀ x ∈ p1 ++ p2, x.block < W.heap.size := fun x hx => hW'.lt x hx
  have fin : ∀ (W' : World), Below W.heap.size W W' →
      Rows.fnExactGrowthTextSpec.post enc Tryd.checked.prog Tryd.f4 false true false false W #[v1, .int .i64 a2] (.bool true) W' := by
    intro W' hnx
    exact ⟨_, _, _, [], p1 ++ p2, [], hW', trodAll_mk1 (shut_bool Tryd.underlying4 _), trodAll_mk2 (Below.trod fnExactGrowthText_laidOut (by kernel_rfl) (of_decide_eq_true (by kernel_rfl)) k1 hnx (fun x hx => hlt x (by simp [hx]))) (Below.trod fnExactGrowthText_laidOut (by kernel_rfl) (of_decide_eq_true (by kernel_rfl)) k2 hnx (fun x hx => hlt x (by simp [hx]))), rfl, hnx.frame _, fun h => by cases h⟩
  refine (law_growthText v1 m1 a2 (textG m1 a2) W hV1 z1 (atSpec_growthText W m1 a2) (atImpl_growthText W m1 a2 hPow)).mono fun e W' ⟨he, hb⟩ => ?_
  subst he
  exact ⟨_, rfl, fin W' hb⟩

theorem fnExactGrowthText_holds : Rows.FnExactGrowthTextSaid :=
  OpenClaim.holds_of_wide 4 Tryd.f4 rfl rfl rfl rfl rfl rfl rfl ⟨rfl, rfl, rfl, rfl, rfl⟩ rfl rfl rfl rfl rfl (by kernel_rfl) Tryd.func4 (by kernel_rfl)
    (of_decide_eq_true (by kernel_rfl)) (by unfold Func.isWrapper; first | (rw [if_pos (by decide +kernel)]; kernel_rfl) | (rw [if_neg (by decide +kernel)]; exact ⟨rfl, rfl⟩))
    (fun os started H enc _ => fnExactGrowthText_lifted os started H enc)

theorem fnExactGrowthText_card : Rows.FnExactGrowthTextCardSaid :=
  Claim7.holds_tied_plain_at .later [] [.data, .data, .data] true (true, "c26e2fd2288808b0b8d811bed6a538db2eee6f516b0d2473f58ade43b2d68d35") false
    fnExactGrowthText_holds (fun _ h => by cases h) (by kernel_rfl) (fun _ h => by cases h) fnExactGrowthText_row_tie rfl ⟨rfl, rfl⟩ (by kernel_rfl) rfl
    (fun f fn hf hfn => by
      obtain rfl : f = 4 := Option.some.inj ((show Tryd.prog.funcNamed "loop.example/g03103/laws.FnExactGrowthText" = some 4 by kernel_rfl).symm.trans hf) |>.symm
      obtain rfl : fn = Tryd.f4 := (Option.some.inj (Tryd.func4.symm.trans hfn)).symm
      exact ⟨by kernel_rfl, fun j t ht => by
        rw [Tryd.params4] at ht
        have hm : t ∈ [24, 3] := by simpa using Array.mem_of_getElem? ht
        have hall : ([24, 3].all fun u => !Tryd.prog.wantsStandIn u) = true := by kernel_rfl
        exact (show Tryd.prog.wantsStandIn t = false by simpa using List.all_eq_true.1 hall t hm)⟩)
    (by kernel_rfl)
end Go.Proofs.YtanelokploifhaaDoor
