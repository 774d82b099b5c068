/-
  The library's search and strike at a slice of strings that the call owns, for whatever function value that answers as a plain test does and may lay memory of its own: the strings that the test hits are struck, the others keep their order; nothing that was there before is changed.
-/
import Derived.Test.YtcoiodfggaanbaaLangNum
import Derived.Test.YtcoiodfggaanbaaShiftLaw
import Derived.Test.YtcoiodfggaanbaaShiftSpec
import Derived.Test.YtcoiodfggaanbaaAllW
import Derived.Lib.SliceRun
import Derived.Deep.Onto
namespace Go.Proofs.Ytcoiodfggaanbaa
open Go Go.RowKit

/-- The function value g with the captured places lb answers as p does, in every world behind W0 in which what lay below H0 lies. -/
def TestAt (H0 : Nat) (W0 : World) (g : Nat) (lb : Array Value) (p : ByteArray → Bool) (ok : ByteArray → Prop) : Prop :=
  ∀ x W, ok x → Below H0 W0 W → Calls Try.prog g (#[.string x] ++ lb) W (BoolPost (p x) W)
/-- No string ahead of place k is hit. -/
def NoHit (p : ByteArray → Bool) (ps : List ByteArray) (k : Nat) : Prop := ∀ j, j < k → p (ps.getD j ByteArray.empty) = false
theorem NoHit.next {p : ByteArray → Bool} {ps : List ByteArray} {k : Nat} (h : NoHit p ps k) (hk : p (ps.getD k ByteArray.empty) = false) : NoHit p ps (k + 1) := by
  intro j hj
  by_cases e : j = k
  · subst e; exact hk
  · exact h j (by omega)

set_option maxRecDepth 100000 in
set_option maxHeartbeats 800000 in
theorem index_some (H0 : Nat) (W0 : World) (g : Nat) (lb : Array Value) (eg : ∀ args w, (callFunc g args).run Try.prog w = .ok (.enter g args) w) (p : ByteArray → Bool) (ok : ByteArray → Prop) (hp : TestAt H0 W0 g lb p ok) (b c : Nat) (ps : List ByteArray) (hok : ∀ x ∈ ps, ok x) (hn : ps.length ≤ 1000000) (w : World) (hw : Below H0 W0 w) (hH : H0 ≤ w.heap.size)
    (hs : StrsAt w b 0 ps) (hb : b < w.heap.size) :
    Calls Try.prog 105 #[.slice (some ⟨b, 0, none⟩) ps.length c, .func (.func g) #[] lb] w fun e w' => Below w.heap.size w w' ∧ ((e = .returned (.int .i64 (-1)) ∧ NoHit p ps ps.length) ∨ ∃ k : Nat, k < ps.length ∧ e = .returned (.int .i64 k) ∧ NoHit p ps k ∧ p (ps.getD k ByteArray.empty) = true) := by
  have HP := Lib.hid (fun k (hk : k < ps.length) w1 (h1 : Below w.heap.size w w1) => hp (ps.getD k ByteArray.empty) w1 (hok _ (getD_mem hk)) (hw.trans (h1.mono hH)))
  have HS := Lib.hid hs
  clear hs hp hok
  go_enter Try.func105, Try.ntmps105
  go_wp2
  go_loopw [8] (fun i wr => ∃ k : Nat, k ≤ ps.length ∧ i = .int .i64 k ∧ Hid (NoHit p ps k) ∧ Hid (Below w.heap.size w wr)) (fun i _ => ps.length - (intOf i).toNat)
  case atStart => exact ⟨0, Nat.zero_le _, rfl, Lib.hid (fun j h => by omega), Lib.hid (Below.refl _ _)⟩
  case round =>
    obtain ⟨k, hk, rfl, hno, hbl⟩ := hrel
    by_cases hlt : k < ps.length
    · have hc := (HS.out.below hbl.out hb) k hlt
      rw [Nat.zero_add] at hc
      have hcall := HP.out k hlt _ hbl.out
      cases hq : p (ps.getD k ByteArray.empty) with
      | false =>
        rw [hq] at hcall
        have HC := Lib.hid hcall
        have HN := Lib.hid (hno.out.next hq)
        generalize ps.getD k ByteArray.empty = x at *
        clear hcall hq
        go_wp2_with fail
        refine HC.out.mono ?_
        rintro e w' ⟨rfl, hb1⟩
        have HB1 := Lib.hid (below_after hbl.out hb1)
        clear hb1
        go_wp2
        go_roundw
        case rel => exact ⟨k + 1, by omega, by go_num, HN, HB1⟩
        case measure => simp [intOf]; omega
      | true =>
        rw [hq] at hcall
        have HC := Lib.hid hcall
        have HN := Lib.hid (show k < ps.length ∧ NoHit p ps k ∧ p (ps.getD k ByteArray.empty) = true from ⟨hlt, hno.out, hq⟩)
        generalize ps.getD k ByteArray.empty = x at hc hcall HC
        clear hcall hq
        go_wp2_with fail
        refine HC.out.mono ?_
        rintro e w' ⟨rfl, hb1⟩
        have HB1 := Lib.hid (below_after hbl.out hb1)
        clear hb1
        go_wp2
        go_ret
        exact ⟨HB1.out, .inr ⟨k, HN.out.1, rfl, HN.out.2⟩⟩
    · obtain rfl : k = ps.length := by omega
      go_wp2
      go_ret
      exact ⟨hbl.out, .inl ⟨rfl, hno.out⟩⟩

/-! ### A row that is cleared from a place on, and cut -/
theorem owns_cleared {B e g n cap : Nat} : ∀ (vs : List Value) (o : Nat) (w : World) (xs : List Value), w.ownsRow B e 1 (.slice (some ⟨g, 0, none⟩) n cap) n xs →
    ∃ xs', (w.setCells g o vs).ownsRow B e 1 (.slice (some ⟨g, 0, none⟩) n cap) n xs' ∧ xs'.take o = xs.take o ∧ w.grownBy (w.setCells g o vs) (some g)
  | [], o, w, xs, h => ⟨xs, h, rfl, World.grownBy.refl _ _⟩
  | v :: r, o, w, xs, h => by
    obtain ⟨h1, h2⟩ := h.stored o v
    obtain ⟨xs', h3, h4, h5⟩ := owns_cleared r (o + 1) _ _ h1
    refine ⟨xs', h3, ?_, ?_⟩
    · have h6 := congrArg (List.take o) h4
      rw [List.take_take, List.take_take, Nat.min_eq_left (by omega)] at h6
      rw [h6, List.take_set]
      exact List.set_eq_of_length_le (by rw [List.length_take]; omega)
    · refine ⟨h5.os.trans h2.os, h5.tape.trans h2.tape, h5.output.trans h2.output, Nat.le_trans h2.size h5.size, fun k hk hne => ?_⟩
      exact (h5.block k (Nat.lt_of_lt_of_le hk h2.size) hne).trans (h2.block k hk hne)
theorem owns_cut {w : World} {B e g n cap i : Nat} {xs : List Value} (h : w.ownsRow B e 1 (.slice (some ⟨g, 0, none⟩) n cap) n xs) (hi : i ≤ n) : w.ownsRow B e 1 (.slice (some ⟨g, 0, none⟩) i cap) i (xs.take i) := by
  obtain ⟨hl, h2⟩ := h
  refine ⟨by rw [List.length_take]; omega, ?_⟩
  rcases h2 with ⟨h', _⟩ | ⟨g', cap', cur, h', hb, hg, hnc, hcm, hcs, htake⟩
  · simp at h'
  · simp only [Value.slice.injEq, Option.some.injEq, Addr.mk.injEq, and_true, true_and] at h'
    obtain ⟨rfl, rfl⟩ := h'
    refine .inr ⟨g, cap, cur, rfl, hb, hg, by omega, hcm, hcs, ?_⟩
    rw [← htake, List.take_take, Nat.mul_one, Nat.mul_one, Nat.min_eq_left hi]

/-- The row while it is struck: what is kept of the strings ahead of place j stands in front; from place j on nothing has turned. -/
structure Struck (p : ByteArray → Bool) (ps : List ByteArray) (i j : Nat) (ys : List ByteArray) : Prop where
  size : ys.length = ps.length
  lt : i < j
  le : j ≤ ps.length
  front : ys.take i = (ps.take j).filter fun x => !p x
  back : ys.drop j = ps.drop j
theorem filter_none {p : ByteArray → Bool} {ps : List ByteArray} {k : Nat} (h : NoHit p ps k) (hk : k ≤ ps.length) : (ps.take k).filter (fun x => !p x) = ps.take k := by
  refine List.filter_eq_self.2 fun x hx => ?_
  obtain ⟨j, hj, rfl⟩ := List.getElem_of_mem hx
  have hj' : j < k := by rw [List.length_take] at hj; omega
  have := h j hj'
  rw [List.getD_eq_getElem?_getD, List.getElem?_eq_getElem (by omega), Option.getD_some] at this
  rw [List.getElem_take, this]; rfl
theorem filter_yes {p : ByteArray → Bool} {ps : List ByteArray} {k : Nat} (hk : k < ps.length) (h : p (ps.getD k ByteArray.empty) = false) : (ps.take (k + 1)).filter (fun x => !p x) = (ps.take k).filter (fun x => !p x) ++ [ps.getD k ByteArray.empty] := by
  rw [take_next ps k hk, List.filter_append]
  rw [List.filter_cons_of_pos (by rw [h]; rfl), List.filter_nil]
theorem filter_no {p : ByteArray → Bool} {ps : List ByteArray} {k : Nat} (hk : k < ps.length) (h : p (ps.getD k ByteArray.empty) = true) : (ps.take (k + 1)).filter (fun x => !p x) = (ps.take k).filter (fun x => !p x) := by
  rw [take_next ps k hk, List.filter_append, List.filter_cons_of_neg (by rw [h]; simp), List.filter_nil, List.append_nil]
theorem Struck.start {p : ByteArray → Bool} {ps : List ByteArray} {k : Nat} (h : NoHit p ps k) (hk : k < ps.length) (hp : p (ps.getD k ByteArray.empty) = true) : Struck p ps k (k + 1) ps :=
  ⟨rfl, by omega, by omega, by rw [filter_no hk hp, filter_none h (by omega)], rfl⟩
theorem Struck.at {p : ByteArray → Bool} {ps ys : List ByteArray} {i j : Nat} (h : Struck p ps i j ys) : ys.getD j ByteArray.empty = ps.getD j ByteArray.empty := by
  have := congrArg (fun l : List ByteArray => l.getD 0 ByteArray.empty) h.back
  simpa [List.getD_eq_getElem?_getD, List.getElem?_drop] using this
theorem Struck.keep {p : ByteArray → Bool} {ps ys : List ByteArray} {i j : Nat} (h : Struck p ps i j ys) (hj : j < ps.length) (hp : p (ps.getD j ByteArray.empty) = false) : Struck p ps (i + 1) (j + 1) (ys.set i (ps.getD j ByteArray.empty)) := by
  have hs := h.size
  have hl := h.lt
  refine ⟨by rw [List.length_set, hs], by omega, by omega, ?_, ?_⟩
  · rw [filter_yes hj hp, ← h.front, List.take_succ_eq_append_getElem (by rw [List.length_set]; omega), List.getElem_set_self, List.take_set]
    congr 1
    exact List.set_eq_of_length_le (by rw [List.length_take]; omega)
  · rw [List.drop_set_of_lt (by omega)]
    have := congrArg (List.drop 1) h.back
    rwa [List.drop_drop, List.drop_drop] at this
theorem Struck.skip {p : ByteArray → Bool} {ps ys : List ByteArray} {i j : Nat} (h : Struck p ps i j ys) (hj : j < ps.length) (hp : p (ps.getD j ByteArray.empty) = true) : Struck p ps i (j + 1) ys := by
  have hl := h.lt
  refine ⟨h.size, by omega, by omega, by rw [filter_no hj hp, h.front], ?_⟩
  have := congrArg (List.drop 1) h.back
  rwa [List.drop_drop, List.drop_drop] at this
theorem Struck.len {p : ByteArray → Bool} {ps ys : List ByteArray} {i : Nat} (h : Struck p ps i ps.length ys) : (ps.filter fun x => !p x).length = i ∧ (ps.filter fun x => !p x) = ys.take i := by
  have h1 := h.front
  rw [List.take_length] at h1
  have := h.lt; have := h.size
  exact ⟨by rw [← h1, List.length_take]; omega, h1.symm⟩

def StrikePost (H0 : Nat) (W0 : World) (b c : Nat) (qs : List ByteArray) (e : Ending) (w' : World) : Prop :=
  e = .returned (.slice (some ⟨b, 0, none⟩) qs.length c) ∧ w'.ownsRow H0 9 1 (.slice (some ⟨b, 0, none⟩) qs.length c) qs.length (qs.map Value.string) ∧ Below H0 W0 w'

set_option maxRecDepth 100000 in
set_option maxHeartbeats 1600000 in
theorem strike_some (H0 : Nat) (W0 : World) (g : Nat) (lb : Array Value) (eg : ∀ args w, (callFunc g args).run Try.prog w = .ok (.enter g args) w) (p : ByteArray → Bool) (ok : ByteArray → Prop) (hp : TestAt H0 W0 g lb p ok) (b c : Nat) (ps : List ByteArray) (hok : ∀ x ∈ ps, ok x) (hn : ps.length ≤ 1000000) (w : World) (hw : Below H0 W0 w) (hH : H0 ≤ w.heap.size)
    (ho : w.ownsRow H0 9 1 (.slice (some ⟨b, 0, none⟩) ps.length c) ps.length (ps.map Value.string)) :
    Calls Try.prog 100 #[.slice (some ⟨b, 0, none⟩) ps.length c, .func (.func g) #[] lb] w (StrikePost H0 W0 b c (ps.filter fun x => !p x)) := by
  have hbw := ho.lt b rfl
  have hcap : ps.length ≤ c ∧ c ≤ 9223372036854775807 := by
    rcases ho.2 with ⟨h', _⟩ | ⟨g', cap', cur, h', hb, hg, hnc, hcm, hcs, htake⟩
    · simp at h'
    · simp only [Value.slice.injEq, Option.some.injEq, Addr.mk.injEq, and_true, true_and] at h'
      obtain ⟨rfl, rfl⟩ := h'
      exact ⟨hnc, by unfold maxLen at hcm; omega⟩
  have HI := Lib.hid (index_some H0 W0 g lb eg p ok hp b c ps hok hn w hw hH (StrsAt.of_owns ho rfl) hbw.2)
  have HP := Lib.hid (fun k (hk : k < ps.length) w1 (h1 : Below H0 W0 w1) => hp (ps.getD k ByteArray.empty) w1 (hok _ (getD_mem hk)) h1)
  have HO := Lib.hid ho
  have HW := Lib.hid hw
  clear hp hok ho hw
  go_enter Try.func100, Try.ntmps100
  go_wp2_with fail
  refine HI.out.mono ?_
  rintro e w1 ⟨hb1, he⟩
  have HB1 := Lib.hid (HW.out.trans (hb1.mono hH))
  have HO1 := Lib.hid (HO.out.kept (row := none) ⟨hb1.os, hb1.tape, hb1.output, hb1.size, fun j hj _ => hb1.block j hj⟩ (Or.inr (by simp [Value.ownBlock])))
  clear hb1
  rcases he with ⟨rfl, hno⟩ | ⟨k0, hk0, rfl, hno, hit⟩
  · have hf : (ps.filter fun x => !p x) = ps := by
      have := filter_none hno (Nat.le_refl _)
      rwa [List.take_length] at this
    have HF := Lib.hid hf
    clear hno hf
    go_wp2
    go_ret
    rw [HF.out]
    exact ⟨rfl, HO1.out, HB1.out⟩
  · have HS := Lib.hid (Struck.start hno hk0 hit)
    have hne : ((k0 : Int) == -1) = false := beq_eq_false_iff_ne.2 (by omega)
    clear hno hit
    go_wp2
    clear hne
    go_loopw [5, 6, 7] (fun si sj _ wr => ∃ (i j : Nat) (ys : List ByteArray), si = .int .i64 i ∧ sj = .int .i64 j ∧ j ≤ ps.length ∧ Hid (Struck p ps i j ys) ∧ Hid (wr.ownsRow H0 9 1 (.slice (some ⟨b, 0, none⟩) ps.length c) ps.length (ys.map Value.string)) ∧ Hid (Below H0 W0 wr)) (fun _ j _ _ => ps.length - (intOf j).toNat)
    case atStart => exact ⟨k0, k0 + 1, ps, rfl, by go_num, by omega, HS, HO1, HB1⟩
    case round =>
      obtain ⟨i, j, ys, rfl, rfl, hj, hs, ho, hbl⟩ := hrel
      have hij := hs.out.lt
      have hys := hs.out.size
      by_cases hlt : j < ps.length
      · have hc : wr.cell? ⟨b, j, none⟩ = some (.string (ps.getD j ByteArray.empty)) := by
          have := (StrsAt.of_owns ho.out hys.symm) j (by omega)
          rwa [Nat.zero_add, hs.out.at] at this
        have hbr := (ho.out.lt b rfl).2
        have hcall := HP.out j hlt wr hbl.out
        cases hq : p (ps.getD j ByteArray.empty) with
        | true =>
          rw [hq] at hcall
          have HC := Lib.hid hcall
          have HN := Lib.hid (hs.out.skip hlt hq)
          generalize ps.getD j ByteArray.empty = x at *
          clear hcall hq
          go_wp2_with fail
          refine HC.out.mono ?_
          rintro e w2 ⟨rfl, hb2⟩
          have HB2 := Lib.hid (hbl.out.trans (hb2.mono (by omega)))
          have HO2 := Lib.hid (ho.out.kept (row := none) ⟨hb2.os, hb2.tape, hb2.output, hb2.size, fun j hj _ => hb2.block j hj⟩ (Or.inr (by simp [Value.ownBlock])))
          clear hb2
          go_wp2
          go_roundw
          case rel => exact ⟨i, j + 1, ys, rfl, by go_num, by omega, HN, HO2, HB2⟩
          case measure => simp [intOf]; omega
        | false =>
          rw [hq] at hcall
          have HC := Lib.hid hcall
          have HN := Lib.hid (hs.out.keep hlt hq)
          generalize ps.getD j ByteArray.empty = x at *
          clear hcall hq
          go_wp2_with fail
          refine HC.out.mono ?_
          rintro e w2 ⟨rfl, hb2⟩
          have HB2 := Lib.hid (hbl.out.trans (hb2.mono (by omega)))
          have ho2 := (ho.out.kept (row := none) ⟨hb2.os, hb2.tape, hb2.output, hb2.size, fun j hj _ => hb2.block j hj⟩ (Or.inr (by simp [Value.ownBlock])))
          have hci : w2.cell? ⟨b, i, none⟩ = some (.string (ys.getD i ByteArray.empty)) := by
            have := (StrsAt.of_owns ho2 hys.symm) i (by omega)
            rwa [Nat.zero_add] at this
          have hfi : w2.frozen? ⟨b, i, none⟩ = false := ho2.frozenAt i
          obtain ⟨ho3, hg3⟩ := ho2.stored i (.string x)
          have HO3 : Hid ((w2.setCell ⟨b, i, none⟩ (.string x)).ownsRow H0 9 1 (.slice (some ⟨b, 0, none⟩) ps.length c) ps.length ((ys.set i x).map Value.string)) := Lib.hid (by rw [List.map_set]; exact ho3)
          have HB3 : Hid (Below H0 W0 (w2.setCell ⟨b, i, none⟩ (.string x))) := by
            have h0 := HB2.out
            refine Lib.hid ⟨hg3.os.trans h0.os, hg3.tape.trans h0.tape, hg3.output.trans h0.output, Nat.le_trans h0.size hg3.size, fun k hk => ?_⟩
            have hk2 : k < w2.heap.size := by have := hb2.size; omega
            refine (hg3.block k hk2 (fun e => ?_)).trans (h0.block k hk)
            have := Option.some.inj e
            omega
          generalize ys.getD i ByteArray.empty = old at *
          clear hb2 ho2 ho3 hg3
          go_wp2
          go_roundw
          case rel => exact ⟨i + 1, j + 1, ys.set i x, by go_num, by go_num, by omega, HN, HO3, HB3⟩
          case measure => simp [intOf]; omega
      · obtain rfl : j = ps.length := by omega
        have hlen := hs.out.len
        have hcl : ∀ ty, (Builtin.clear_ #[56] ty #[.slice (some ⟨b, i, none⟩) (ps.length - i) (c - i)]).run Try.prog wr = .ok (.tuple #[]) (wr.setCells b i (List.replicate (ps.length - i) (.string ByteArray.empty))) := fun ty =>
          Lib.run_clear_slice wr _ _ ty _ Try.underlying56 Try.zeroValue9 rfl rfl b i _ _ (by omega)
            (fun t ht => by have := (StrsAt.of_owns ho.out hys.symm) (i + t) (by omega); rw [Nat.zero_add] at this; rw [this]; rfl)
            (fun t ht => ho.out.frozenAt (i + t))
        obtain ⟨xs', h1, h2, h3⟩ := owns_cleared (List.replicate (ps.length - i) (.string ByteArray.empty)) i wr _ ho.out
        have HO4 := Lib.hid (owns_cut h1 (show i ≤ ps.length by omega))
        rw [h2, ← List.map_take, ← hlen.2] at HO4
        have HB4 : Hid (Below H0 W0 (wr.setCells b i (List.replicate (ps.length - i) (.string ByteArray.empty)))) := by
          have h0 := hbl.out
          refine Lib.hid ⟨h3.os.trans h0.os, h3.tape.trans h0.tape, h3.output.trans h0.output, Nat.le_trans h0.size h3.size, fun k hk => ?_⟩
          have hk2 : k < wr.heap.size := by have := (ho.out.lt b rfl).2; omega
          refine (h3.block k hk2 (fun e => ?_)).trans (h0.block k hk)
          have := Option.some.inj e
          omega
        have hl := hlen.1
        obtain ⟨qs, HQ⟩ : ∃ qs, Hid ((ps.filter fun x => !p x) = qs) := ⟨_, Lib.hid rfl⟩
        rw [HQ.out] at HO4 hl
        subst hl
        clear h1 h2 h3 hlen
        go_wp2
        go_ret
        rw [HQ.out]
        exact ⟨rfl, HO4.out, HB4.out⟩

/-! ### At no slice -/
set_option maxRecDepth 100000 in
theorem index_nil (g : Nat) (lb : Array Value) (w : World) :
    Calls Try.prog 105 #[.slice none 0 0, .func (.func g) #[] lb] w fun e w' => e = .returned (.int .i64 (-1)) ∧ w' = w := by
  go_enter Try.func105, Try.ntmps105
  go_wp2
  go_loop [8] (fun i => i = .int .i64 0) (fun _ => 0)
  case atStart => rfl
  case round =>
    subst hrel
    go_wp2
    go_ret
    exact ⟨rfl, rfl⟩
set_option maxRecDepth 100000 in
theorem strike_nil (g : Nat) (lb : Array Value) (w : World) :
    Calls Try.prog 100 #[.slice none 0 0, .func (.func g) #[] lb] w fun e w' => e = .returned (.slice none 0 0) ∧ w' = w := by
  have HI := Lib.hid (index_nil g lb w)
  go_enter Try.func100, Try.ntmps100
  go_wp2_with fail
  refine HI.out.mono ?_
  rintro e w1 ⟨rfl, rfl⟩
  go_wp2
  go_ret
  exact ⟨rfl, rfl⟩

/-- The strike at a list in memory of the call's own, none or some. -/
theorem strike_list (H0 : Nat) (W0 : World) (g : Nat) (lb : Array Value) (eg : ∀ args w, (callFunc g args).run Try.prog w = .ok (.enter g args) w) (p : ByteArray → Bool) (ok : ByteArray → Prop) (hp : TestAt H0 W0 g lb p ok) (ps : List ByteArray) (hok : ∀ x ∈ ps, ok x) (hn : ps.length ≤ 1000000) (v : Value) (w : World) (hw : Below H0 W0 w) (hH : H0 ≤ w.heap.size)
    (ho : w.ownsRow H0 9 1 v ps.length (ps.map Value.string)) :
    Calls Try.prog 100 #[v, .func (.func g) #[] lb] w fun e w' => ∃ v', e = .returned v' ∧ w'.ownsRow H0 9 1 v' (ps.filter fun x => !p x).length ((ps.filter fun x => !p x).map Value.string) ∧ Below H0 W0 w' := by
  rcases ho.2 with ⟨rfl, h0⟩ | ⟨b, c, cur, rfl, _, _, _⟩
  · obtain rfl : ps = [] := List.eq_nil_of_length_eq_zero h0
    refine (strike_nil g lb w).mono ?_
    rintro e w' ⟨rfl, rfl⟩
    exact ⟨_, rfl, World.ownsRow_nil _ _ _ _, hw⟩
  · refine (strike_some H0 W0 g lb eg p ok hp b c ps hok hn w hw hH ho).mono ?_
    rintro e w' ⟨rfl, h1, h2⟩
    exact ⟨_, rfl, h1, h2⟩
end Go.Proofs.Ytcoiodfggaanbaa
