/-
  FnExactParseShift: at every string the law returns true and its argument reads as before, where the package-level variables that strconv and unicode/utf8 read are as the program's text lays them.
-/
import Derived.Test.YtomaanpmjlgpfaaDoorParseLaw
import Derived.Test.YtomaanpmjlgpfaaDoorParseSpec
import Derived.Test.YtomaanpmjlgpfaaDoorShaped
import Derived.Test.YtomaanpmjlgpfaaDoorCards
import Derived.Test.YtomaanpmjlgpfaaDoorTie
import Derived.Test.YtomaanpmjlgpfaaDoorLaid
import Derived.ProofKit
import Derived.LaidMore
import Derived.OpenShut
import Derived.Stop.Joined
import Derived.Stop.LaidErr
import Derived.SevenTiedAt
import Derived.Lay
import Derived.PinnedBridge
namespace Go.Proofs.YtomaanpmjlgpfaaDoor
open Go Go.ChangeShapes Go.WideShapes Go.ChangeAt Go.RowKit
open Go.ChangeMaps (open_string shut_string)

theorem law_parseShift (s : ByteArray) (hm : s.size ≤ 9223372036854775807) (w : World) (hsh : w.ShapedOpen Tryd.prog) (ht : Pow w) (he : Errs w)
    (hS : ∀ p xs, parts 32 s = p :: xs → s.size ≤ 1048576 → Calls Tryd.prog 10 #[.string s] w (ParsedRow (outL (intOfS p) xs) (outX (intOfS p) xs) (goodR (intOfS p) xs) w))
    (hI : ∀ p xs, parts 32 s = p :: xs → s.size ≤ 1048576 → ∀ w', w'.ShapedOpen Tryd.prog → Pow w' → Errs w' → Calls Tryd.prog 11 #[.string s] w' (ParsedTail (outL (numOfS p) xs) (outX (numOfS p) xs) (goodR (numOfS p) xs) w')) :
    Calls Tryd.prog 4 #[.string s] w fun e w' => e = .returned (.bool true) ∧ Below w.heap.size w w' := by
  by_cases hs : s.size ≤ 1048576
  · obtain ⟨p, xs, hp⟩ := parts_cons 32 s
    have hx : (outX (intOfS p) xs).length ≤ 1048576 := by
      obtain ⟨hlen, _, _⟩ := parts_facts 32 s.size s (Nat.le_refl _)
      rw [hp] at hlen
      unfold outX
      split
      · simp at hlen; omega
      · simp
    refine law_parse_short s hs _ _ _ hx w (hS p xs hp hs) (fun w' hb => ?_)
    have h := hI p xs hp hs w' (shaped_below hsh hb) (ht.below hb) (he.below hb)
    rw [outL_same, outX_same, (read_same p xs).1] at h
    exact h
  · exact law_parse_long s hs hm w
theorem parseKnobs : ownKnob Tryd.prog.godebug = none := by kernel_rfl

/-- A start: the settled world with the listed tables laid. -/
theorem parseStart_met (os : Os) (args : Array Value) : laidMetH Tryd.prog Rows.fnExactParseShiftRow.laid ((World.laidAll Tryd.prog os Rows.fnExactParseShiftRow.laid).forCall (fun _ _ => 0) ⟨#[], args, []⟩).memory := by
  rw [MakeChecks.laidMetH_plain _ _ _ (by kernel_rfl)]
  exact laidMet_laidAll _ (by kernel_rfl) (by kernel_rfl)

set_option maxRecDepth 100000 in
theorem parse_lifted (os : Os) (started : os.Started) (H : Type) (enc : TypeId × Value → H) :
    ReturnsInHanded {} Tryd.checked os 4 .any (fun w args => (Rows.fnExactParseShiftSpec.pre enc Tryd.prog Tryd.f4 [] false w args ∧ laidMetH Tryd.prog Rows.fnExactParseShiftRow.laid w) ∧ sizedMet enc Tryd.prog Tryd.f4 (OpenSpec.ofChange Rows.fnExactParseShiftSpec) false w args)
      (Rows.fnExactParseShiftSpec.post enc Tryd.prog Tryd.f4 false true false false) := by
  refine handed_and_shaped (C := Tryd.checked) (X := fun w _ => laidMetH Tryd.prog Rows.fnExactParseShiftRow.laid w) (fun _ _ _ hh h => h.of_heap hh) parseKnobs started (by kernel_rfl) Tryd.func4
    (ChangeSpec.witness_shaped (enc := enc) (C := Tryd.checked) (os := os) (X := fun w _ => laidMetH Tryd.prog Rows.fnExactParseShiftRow.laid w) false (World.laidAll Tryd.prog os Rows.fnExactParseShiftRow.laid) #[.string ⟨#[]⟩] 8 (World.laidAll_os _ _ _)
      (World.shaped_of_ZipB (by kernel_rfl) (by kernel_rfl)) (by kernel_rfl) (by kernel_rfl) (by kernel_rfl) (parseStart_met os _)) ?_
  intro W base args ds gs before hval0 hW hsh hLd
  have hval : ∀ (j : Nat) t v, Tryd.f4.params[j]? = some t → args[j]? = some v → Value.okWide Tryd.prog W .any base t v := hval0
  have hW' := hW
  obtain ⟨p, q, hA0, hV, rfl, _, _⟩ := hW
  have hA : DataW.TrodAll enc Tryd.prog W 0 (fun _ => true) true Tryd.f4.params.toList args.toList ds p := hA0
  rw [Tryd.params4] at hA hval
  obtain ⟨v0, d0, rfl, rfl, h0⟩ := trodAll_one hA
  obtain ⟨rfl, rfl⟩ := trodVars_none hV
  obtain ⟨s, rfl, rfl, rfl, ws⟩ := open_string Tryd.underlying9 (hval 0 9 v0 rfl rfl) h0
  have hM : laidMet Tryd.prog Rows.fnExactParseShiftRow.laid W := by
    rw [← MakeChecks.laidMetH_plain _ _ _ (by kernel_rfl)]; exact hLd
  have hPow : Pow W := pow_of_laid (laidMet.tail (laidMet.tail hM))
  have hErr : Errs W := errs_of_laid (laidMet.tail (laidMet.tail (laidMet.tail (laidMet.tail hM))))
  clear hA0 hval0
  simp only [List.append_nil] at hW'
  refine (law_parseShift s (by have := ws; unfold maxLen at this; omega) W hsh hPow hErr (fun p xs hp hs => spec_parse s p xs hp hs W) (fun p xs hp hs w' h1 h2 h3 => impl_parse s p xs hp hs w' h1 h2 h3)).mono fun e W' ⟨he, hb⟩ => ?_
  subst he
  exact ⟨_, rfl, _, _, _, [], [], [], hW', trodAll_mk1 (shut_bool Tryd.underlying4 _), trodAll_mk1 (shut_string Tryd.underlying9 ws), rfl, hb.frame _, fun h => by cases h⟩

theorem fnExactParseShift_holds : Rows.FnExactParseShiftSaid :=
  OpenClaim.holds_of_wide 4 Tryd.f4 rfl rfl rfl rfl rfl rfl rfl ⟨rfl, rfl, rfl, rfl, rfl⟩ rfl rfl rfl rfl rfl (by kernel_rfl) Tryd.func4 (by kernel_rfl)
    (of_decide_eq_true (by kernel_rfl)) (by unfold Func.isWrapper; first | (rw [if_pos (by decide +kernel)]; kernel_rfl) | (rw [if_neg (by decide +kernel)]; exact ⟨rfl, rfl⟩))
    (fun os started H enc _ => parse_lifted os started H enc)

theorem fnExactParseShift_card : Rows.FnExactParseShiftCardSaid :=
  Claim7.holds_tied_plain_at .later [] [.data, .data, .data, .data, .sentinel, .sentinel, .pinned] true (true, "fc300d4e5e258fc6d52beaa816b0fa397dde46f399e74b94f7f3a95af743b951") true
    fnExactParseShift_holds (fun _ h => by cases h) (by kernel_rfl) (fun _ h => by cases h) fnExactParseShift_row_tie rfl ⟨rfl, rfl⟩ (by kernel_rfl) rfl
    (fun f fn hf hfn => by
      obtain rfl : f = 4 := Option.some.inj ((show Tryd.prog.funcNamed "loop.example/g03103/laws.FnExactParseShift" = some 4 by kernel_rfl).symm.trans hf) |>.symm
      obtain rfl : fn = Tryd.f4 := (Option.some.inj (Tryd.func4.symm.trans hfn)).symm
      exact ⟨by kernel_rfl, fun j t ht => by
        rw [Tryd.params4] at ht
        have hm : t ∈ [9] := by simpa using Array.mem_of_getElem? ht
        have hall : ([9].all fun u => !Tryd.prog.wantsStandIn u) = true := by kernel_rfl
        exact (show Tryd.prog.wantsStandIn t = false by simpa using List.all_eq_true.1 hall t hm)⟩)
    (by kernel_rfl)
end Go.Proofs.YtomaanpmjlgpfaaDoor
