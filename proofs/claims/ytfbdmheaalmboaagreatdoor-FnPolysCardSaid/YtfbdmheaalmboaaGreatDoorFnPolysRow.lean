/-
  The law on polynomials, for every code that it is handed, where the listed package-level tables are as the program's text lays them.
-/
import Derived.Test.YtfbdmheaalmboaaGreatDoorPolysLaw
import Derived.Test.YtfbdmheaalmboaaGreatDoorPolysAts
import Derived.Test.YtfbdmheaalmboaaGreatDoorLaidPow
import Derived.Test.YtfbdmheaalmboaaGreatDoorCards
import Derived.Test.YtfbdmheaalmboaaGreatDoorTie
import Derived.LaidMore
import Derived.OpenShut
import Derived.Stop.Joined
import Derived.Stop.LaidErr
import Derived.SevenTiedAt
import Derived.Test.YtfbdmheaalmboaaGreatDoorRows
import Derived.Lay
import Derived.ProofKit
import Derived.Lib.AtoiErrMem
namespace Go.Proofs.YtfbdmheaalmboaaGreatDoor
open Go Go.ChangeShapes Go.WideShapes Go.ChangeAt Go.RowKit

theorem fnPolys_knobs : ownKnob Tryz.prog.godebug = none := by kernel_rfl
/-- A start: the settled world with the listed variables laid. -/
theorem fnPolys_start (os : Os) (args : Array Value) : laidMetH Tryz.prog Rows.fnPolysRow.laid ((World.laidAll Tryz.prog os Rows.fnPolysRow.laid).forCall (fun _ _ => 0) ⟨#[], args, []⟩).memory := by
  rw [MakeChecks.laidMetH_plain _ _ _ (by kernel_rfl)]
  exact laidMet_laidAll _ (by kernel_rfl) (by kernel_rfl)

theorem fnPolys_laidOut : laidOutB Tryz.prog = true := by kernel_rfl
theorem fnPolys_cellsU8 : Tryz.prog.cellsOf 5 = 1 := by kernel_rfl

set_option maxRecDepth 100000 in
theorem fnPolys_lifted (os : Os) (started : os.Started) (H : Type) (enc : TypeId × Value → H) :
    ReturnsInHanded {} Tryz.checked os 3 .any (fun w args => (Rows.fnPolysSpec.pre enc Tryz.prog Tryz.f3 [] false w args ∧ laidMetH Tryz.prog Rows.fnPolysRow.laid w) ∧ sizedMet enc Tryz.prog Tryz.f3 (OpenSpec.ofChange Rows.fnPolysSpec) false w args)
      (Rows.fnPolysSpec.post enc Tryz.prog Tryz.f3 false true false false) := by
  refine returnsInHanded_of_change_and (C := Tryz.checked) (X := fun w _ => laidMetH Tryz.prog Rows.fnPolysRow.laid w) (fun _ _ _ hh h => h.of_heap hh) fnPolys_knobs started (by kernel_rfl) Tryz.func3
    (ChangeSpec.witness_shaped (enc := enc) (C := Tryz.checked) (os := os) (X := fun w _ => laidMetH Tryz.prog Rows.fnPolysRow.laid w) false (World.laidAll Tryz.prog os Rows.fnPolysRow.laid) #[.slice none 0 0] 8 (World.laidAll_os _ _ _)
      (World.shaped_of_ZipB (by kernel_rfl) (by kernel_rfl)) (by kernel_rfl) (by kernel_rfl) (by kernel_rfl) (fnPolys_start os _)) ?_
  intro W base args ds gs before hval0 hW _ _ hL _
  have hval : ∀ (j : Nat) t v, Tryz.f3.params[j]? = some t → args[j]? = some v → Value.okWide Tryz.prog W .any base t v := hval0
  have hW' := hW
  obtain ⟨p, q, hA0, hV, rfl, _, _⟩ := hW
  have hA : DataW.TrodAll enc Tryz.prog W 0 (fun _ => true) true Tryz.f3.params.toList args.toList ds p := hA0
  rw [Tryz.params3] at hA hval
  obtain ⟨v0, d0, rfl, rfl, h0⟩ := trodAll_one hA
  obtain ⟨rfl, rfl⟩ := trodVars_none hV
  obtain ⟨a0, len, cap, rfl⟩ := okWide_slice Tryz.underlying22 (hval 0 22 v0 rfl rfl)
  have h0k := h0
  obtain ⟨fuel, hf⟩ := h0
  clear hA0 hval0
  simp only [List.append_nil] at hW'
  have hlt : ∀ x ∈ p, x.block < W.heap.size := fun x hx => hW'.lt x (by simpa using hx)
  have hM : laidMet Tryz.prog Rows.fnPolysRow.laid W := by
    rw [← MakeChecks.laidMetH_plain _ _ _ (by kernel_rfl)]; exact hL
  have hPow : Pow W := pow_of_laid (laidMet.tail (laidMet.tail hM))
  have fin : ∀ (W' : World), Below W.heap.size W W' →
      Rows.fnPolysSpec.post enc Tryz.checked.prog Tryz.f3 false true false false W #[.slice a0 len cap] (.bool true) W' := by
    intro W' hnx
    exact ⟨_, _, _, [], p, [], hW', trodAll_mk1 (shut_bool Tryz.underlying4 _), trodAll_mk1 (Below.trod fnPolys_laidOut (by kernel_rfl) (of_decide_eq_true (by kernel_rfl)) h0k hnx hlt), rfl, hnx.frame _, fun h => by cases h⟩
  have empty : len = 0 → Calls Tryz.checked.prog 3 #[.slice a0 len cap] W fun e W' => ∃ v, e = Ending.returned v ∧ Rows.fnPolysSpec.post enc Tryz.checked.prog Tryz.f3 false true false false W #[.slice a0 len cap] v W' := by
    intro hl0
    subst hl0
    refine (law_polys a0 0 cap W (fun _ k hk => absurd hk (by omega)) (polys_at W hPow)).mono fun e W' ⟨he, hb⟩ => ?_
    subst he
    exact ⟨_, rfl, fin W' hb⟩
  rcases open_ints Tryz.underlying22 Tryz.underlying5 fnPolys_cellsU8 hf with ⟨hcs, hx⟩ | ⟨a, len', cap', zs, hcs, _, hl, hm, hz, hx, hcell, hws⟩
  · simp [Value.cells] at hcs
    obtain ⟨rfl, rfl, rfl⟩ := hcs
    exact empty rfl
  · simp [Value.cells] at hcs
    obtain ⟨rfl, rfl, rfl⟩ := hcs
    simp only [if_true] at hz
    by_cases hl0 : len = 0
    · exact empty hl0
    · obtain ⟨b, off, spot⟩ := a
      have hspot : spot = none := by simpa [Addr.add] using World.cell?_spot (hcell 0 (by omega))
      subst hspot
      have hbW : b < W.heap.size := Lib.lt_of_cell (hcell 0 (by omega))
      have hcode : CodeAt W W.heap.size (some ⟨b, off, none⟩) len := by
        intro k hk
        have hmem : zs.getD k 0 ∈ zs := by
          simp only [List.getD, List.getElem?_eq_getElem (show k < zs.length by omega), Option.getD_some]
          exact List.getElem_mem _
        have hw := hws _ hmem
        have e1 : IntKind.u8.min = 0 := rfl
        have e2 : IntKind.u8.max = 255 := rfl
        simp [Lit.wf, e1, e2] at hw
        refine ⟨b, off, zs.getD k 0, rfl, hbW, ?_, ?_, ?_⟩
        · simp only [List.getD_eq_getElem?_getD]; omega
        · simp only [List.getD_eq_getElem?_getD]; omega
        · rw [← add_plain]; exact hcell k (by omega)
      refine (law_polys (some ⟨b, off, none⟩) len cap W (fun _ => hcode) (polys_at W hPow)).mono fun e W' ⟨he, hb⟩ => ?_
      subst he
      exact ⟨_, rfl, fin W' hb⟩

theorem fnPolys_holds : Rows.FnPolysSaid :=
  OpenClaim.holds_of_wide 3 Tryz.f3 rfl rfl rfl rfl rfl rfl rfl ⟨rfl, rfl, rfl, rfl, rfl⟩ rfl rfl rfl rfl rfl (by kernel_rfl) Tryz.func3 (by kernel_rfl)
    (of_decide_eq_true (by kernel_rfl)) (by unfold Func.isWrapper; first | (rw [if_pos (by decide +kernel)]; kernel_rfl) | (rw [if_neg (by decide +kernel)]; exact ⟨rfl, rfl⟩))
    (fun os started H enc _ => fnPolys_lifted os started H enc)

theorem fnPolys_card : Rows.FnPolysCardSaid :=
  Claim7.holds_tied_plain_at .later [] [.data, .data, .data] true (true, "85f4d841ea885af1e893b8631849ed4271fe308a3c1dfadbb1657b780cf434dc") false
    fnPolys_holds (fun _ h => by cases h) (by kernel_rfl) (fun _ h => by cases h) fnPolys_row_tie rfl ⟨rfl, rfl⟩ (by kernel_rfl) rfl
    (fun f fn hf hfn => by
      obtain rfl : f = 3 := Option.some.inj ((show Tryz.prog.funcNamed "loop.example/g03103/laws.FnPolys" = some 3 by kernel_rfl).symm.trans hf) |>.symm
      obtain rfl : fn = Tryz.f3 := (Option.some.inj (Tryz.func3.symm.trans hfn)).symm
      exact ⟨by kernel_rfl, fun j t ht => by
        rw [Tryz.params3] at ht
        have hm : t ∈ [22] := by simpa using Array.mem_of_getElem? ht
        have hall : ([22].all fun u => !Tryz.prog.wantsStandIn u) = true := by kernel_rfl
        exact (show Tryz.prog.wantsStandIn t = false by simpa using List.all_eq_true.1 hall t hm)⟩)
    (by kernel_rfl)
end Go.Proofs.YtfbdmheaalmboaaGreatDoor
