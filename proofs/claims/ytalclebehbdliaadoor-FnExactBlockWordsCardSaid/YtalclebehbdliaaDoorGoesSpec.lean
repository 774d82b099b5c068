/-
  The model's l2HasText and l3Goes: at lists of strings in memory they answer as the plain words say; nothing that was there before is changed.
-/
import Derived.Test.YtalclebehbdliaaDoorLangNum
import Derived.Test.YtalclebehbdliaaDoorShiftSpec
import Derived.Test.YtalclebehbdliaaDoorShiftLaw
import Derived.Test.YtalclebehbdliaaDoorTexts
namespace Go.Proofs.YtalclebehbdliaaDoor
open Go Go.RowKit

theorem hasText_no {M : List ByteArray} {x : ByteArray} (h : ∀ j, j < M.length → ((M.getD j ByteArray.empty).toList == x.toList) = false) : Lib.containsS M x = false := by
  rw [← Bool.not_eq_true, Lib.containsS_iff]
  intro hx
  obtain ⟨j, hj, rfl⟩ := List.getElem_of_mem hx
  have := h j hj
  rw [List.getD_eq_getElem?_getD, List.getElem?_eq_getElem hj, Option.getD_some, ba_same, decide_eq_false_iff_not] at this
  exact this rfl
theorem hasText_yes {M : List ByteArray} {x : ByteArray} {k : Nat} (hk : k < M.length) (h : ((M.getD k ByteArray.empty).toList == x.toList) = true) : Lib.containsS M x = true := by
  rw [Lib.containsS_iff]
  rw [ba_same, decide_eq_true_eq] at h
  rw [← h, List.getD_eq_getElem?_getD, List.getElem?_eq_getElem hk]
  exact List.getElem_mem hk

set_option maxRecDepth 100000 in
theorem spec_hasText (A : Option Addr) (c : Nat) (M : List ByteArray) (x : ByteArray) (hn : M.length ≤ 1000000) (w : World) (hm : RowAt w A M) :
    Calls Tryd.prog 37 #[.slice A M.length c, .string x] w fun e w' => e = .returned (.bool (Lib.containsS M x)) ∧ w' = w := by
  have HM := Lib.hid hm
  clear hm
  go_enter Tryd.func37, Tryd.ntmps37
  go_wp2
  go_loop [5] (fun i => ∃ k : Nat, k ≤ M.length ∧ i = .int .i64 k ∧ Hid (∀ j, j < k → ((M.getD j ByteArray.empty).toList == x.toList) = false)) (fun i => M.length - (intOf i).toNat)
  case atStart => exact ⟨0, Nat.zero_le _, rfl, Lib.hid (fun j h => by omega)⟩
  case round =>
    obtain ⟨k, hk, rfl, hto⟩ := hrel
    by_cases hlt : k < M.length
    · obtain ⟨g, rfl, hst, hg⟩ := HM.out (by omega)
      have hc := hst k hlt
      rw [Nat.zero_add] at hc
      clear hst
      cases he : ((M.getD k ByteArray.empty).toList == x.toList) with
      | true =>
        have HR := Lib.hid (hasText_yes hlt he)
        generalize M.getD k ByteArray.empty = y at *
        go_wp2
        go_ret
        exact ⟨by rw [HR.out]; rfl, rfl⟩
      | false =>
        have HT : Hid (∀ j, j < k + 1 → ((M.getD j ByteArray.empty).toList == x.toList) = false) := Lib.hid (fun j hj => by
          by_cases e : j = k
          · subst e; exact he
          · exact hto.out j (by omega))
        generalize M.getD k ByteArray.empty = y at *
        go_wp2
        go_round
        case rel => exact ⟨k + 1, by omega, by go_num, HT⟩
        case measure => simp [intOf]; omega
    · have HR := Lib.hid (hasText_no (x := x) (fun j (hj : j < M.length) => hto.out j (by omega)))
      go_wp2
      go_ret
      exact ⟨by rw [HR.out]; rfl, rfl⟩

/-- A struct that was laid lies in every later world; what lay ahead of it, too. -/
theorem box_below (w : World) (L : Int) (V : Value) (t : TypeId) (w' : World) (h : Below (w.heap.size + 1) (w.alloc (.cells #[.int .i64 L, V] t)) w') :
    w'.cell? ⟨w.heap.size, 0, none⟩ = some (.int .i64 L) ∧ w'.cell? ⟨w.heap.size, 1, none⟩ = some V ∧ Below w.heap.size w w' :=
  ⟨(h.cell (p := ⟨w.heap.size, 0, none⟩) (by show w.heap.size < _; omega)).trans (by simp), (h.cell (p := ⟨w.heap.size, 1, none⟩) (by show w.heap.size < _; omega)).trans (by simp),
    ((Below.refl w.heap.size w).alloc (Nat.le_refl _) _).trans (h.mono (by omega))⟩
/-! ### Whether a pair goes on -/
def testB (ps : List ByteArray) (x q : ByteArray) : Bool := decide (ch q 0 = ch x 1) && avoids ps (x ++ q.extract 1 q.size)
def testA (ps : List ByteArray) (x q : ByteArray) : Bool := decide (ch q 1 = ch x 0) && avoids ps (q ++ x.extract 1 x.size)
theorem any_no {f : ByteArray → Bool} {M : List ByteArray} (h : ∀ j, j < M.length → f (M.getD j ByteArray.empty) = false) : M.any f = false := by
  rw [← Bool.not_eq_true, List.any_eq_true]
  rintro ⟨q, hq, hf⟩
  obtain ⟨j, hj, rfl⟩ := List.getElem_of_mem hq
  have := h j hj
  rw [List.getD_eq_getElem?_getD, List.getElem?_eq_getElem hj, Option.getD_some, hf] at this
  cases this
theorem any_yes {f : ByteArray → Bool} {M : List ByteArray} {k : Nat} (hk : k < M.length) (h : f (M.getD k ByteArray.empty) = true) : M.any f = true := by
  rw [List.any_eq_true]
  refine ⟨_, ?_, h⟩
  rw [List.getD_eq_getElem?_getD, List.getElem?_eq_getElem hk]
  exact List.getElem_mem hk
theorem byte_eq (a b : UInt8) : ((a.toNat : Int) == (b.toNat : Int)) = decide (a = b) := by
  by_cases h : a = b
  · subst h; simp
  · rw [decide_eq_false h, beq_eq_false_iff_ne]
    intro e
    exact h (UInt8.toNat_inj.1 (by omega))

set_option maxRecDepth 100000 in
set_option maxHeartbeats 1600000 in
theorem spec_goesB (L : Int) (G : Option Addr) (c : Nat) (ps : List ByteArray) (hl : ps.length ≤ 1048576) (hz : ∀ k, k < ps.length → (ps.getD k ByteArray.empty).size ≤ 2147483648) (gm cm : Nat) (M : List ByteArray) (hn : M.length ≤ 1000000) (h2 : ∀ k, k < M.length → (M.getD k ByteArray.empty).size = 2) (x : ByteArray) (hx : x.size = 2) (w : World) (hs : StrsG w G ps) (hm : StrsAt w gm 0 M) (hgm : gm < w.heap.size) :
    Calls Tryd.prog 35 #[.agg #[.int .i64 L, .slice G ps.length c], .slice (some ⟨gm, 0, none⟩) M.length cm, .string x, .bool true] w (BoolPost (goesB ps M x) w) := by
  have HS := Lib.hid hs
  have HM := Lib.hid hm
  have HZ := Lib.hid hz
  have H2 := Lib.hid h2
  have HG : Hid (goesB ps M x = M.any (testB ps x)) := Lib.hid rfl
  clear hs hm hz h2
  go_enter Tryd.func35, Tryd.ntmps35
  go_wp2
  have HBX := Lib.hid (fun w' (h : Below (w.heap.size + 1) (w.alloc (.cells #[.int .i64 L, .slice G ps.length c] 27)) w') => box_below w L (.slice G ps.length c) 27 w' h)
  go_loopw [9] (fun i wr => ∃ k : Nat, k ≤ M.length ∧ i = .int .i64 k ∧ Hid (Below (w.heap.size + 1) (w.alloc (.cells #[.int .i64 L, .slice G ps.length c] 27)) wr) ∧ Hid (∀ j, j < k → testB ps x (M.getD j ByteArray.empty) = false)) (fun i _ => M.length - (intOf i).toNat)
  case atStart => exact ⟨0, Nat.zero_le _, rfl, Lib.hid (Below.refl _ _), Lib.hid (fun j h => by omega)⟩
  case round =>
    obtain ⟨k, hk, rfl, hbl, hto⟩ := hrel
    obtain ⟨x0, x1, hB⟩ := HBX.out wr hbl.out
    have HB := Lib.hid hB
    clear hB
    by_cases hlt : k < M.length
    · have hc := (HM.out.below HB.out hgm) k hlt
      rw [Nat.zero_add] at hc
      have hy := H2.out k hlt
      have HAV : Hid (∀ w', Below w.heap.size w w' → Calls Tryd.prog 36 #[.slice G ps.length c, .string (x ++ (M.getD k ByteArray.empty).extract 1 2)] w' fun e w'' => e = .returned (.bool (avoids ps (x ++ (M.getD k ByteArray.empty).extract 1 2))) ∧ w'' = w') :=
        Lib.hid (fun w' hw => spec_avoids G c ps _ hl HZ.out (by rw [ByteArray.size_append, ByteArray.size_extract]; omega) w' (HS.out.below hw))
      have j0 : (0 : Int) ≤ (k : Int) := by omega
      have j1 : (k : Int) < (M.length : Int) := by omega
      have HT : Hid (testB ps x (M.getD k ByteArray.empty) = (decide (ch (M.getD k ByteArray.empty) 0 = ch x 1) && avoids ps (x ++ (M.getD k ByteArray.empty).extract 1 2))) := Lib.hid (by
        unfold testB; rw [hy])
      have x8 : x.size + ((M.getD k ByteArray.empty).extract 1 2).size ≤ 9223372036854775807 := by rw [ByteArray.size_extract]; omega
      have x9 : ∀ w, (Op.stringOp .add x ((M.getD k ByteArray.empty).extract 1 2)).run Tryd.prog w = .ok (.string (x ++ (M.getD k ByteArray.empty).extract 1 2)) w := fun w => run_string_add_sum w _ _ x8
      have HY : Hid (∀ b, testB ps x (M.getD k ByteArray.empty) = b → (b = false → ∀ j, j < k + 1 → testB ps x (M.getD j ByteArray.empty) = false) ∧ (b = true → goesB ps M x = true)) := Lib.hid (fun b hb => ⟨fun e j hj => by
          by_cases ej : j = k
          · subst ej; rw [hb, e]
          · exact hto.out j (by omega), fun e => by rw [HG.out]; exact any_yes hlt (hb.trans e)⟩)
      generalize M.getD k ByteArray.empty = y at *
      clear x8
      have k0 : (0 : Nat) < y.size := by omega
      have k1 : (1 : Nat) < x.size := by omega
      have k2 : (1 : Nat) ≤ 2 := by omega
      have be := byte_eq y[0] x[1]
      rw [← ch_lt y 0 k0, ← ch_lt x 1 k1] at be
      cases he : decide (ch y 0 = ch x 1) with
      | false =>
        rw [he, ch_lt y 0 k0, ch_lt x 1 k1] at be
        have HF := Lib.hid ((HY.out _ HT.out).1 (by rw [he]; rfl))
        clear he
        go_wp2
        go_quiet (fail)
        go_wp2
        go_quiet (fail)
        go_wp2
        go_roundw
        case rel => exact ⟨k + 1, by omega, by go_num, Lib.hid (below_drewN hbl.out _), HF⟩
        case measure => simp [intOf]; omega
      | true =>
        rw [he, ch_lt y 0 k0, ch_lt x 1 k1] at be
        cases hv : avoids ps (x ++ y.extract 1 2) with
        | false =>
          have HF := Lib.hid ((HY.out _ HT.out).1 (by rw [he, hv]; rfl))
          rw [hv] at HAV
          clear he hv
          go_wp2
          go_quiet (first | (go_at_call 36; refine Calls.quiet_of_same (HAV.out _ (below_drewN HB.out _))))
          go_wp2
          go_quiet (fail)
          go_wp2
          go_roundw
          case rel => exact ⟨k + 1, by omega, by go_num, Lib.hid (below_drewN hbl.out _), HF⟩
          case measure => simp [intOf]; omega
        | true =>
          have HF := Lib.hid ((HY.out _ HT.out).2 (by rw [he, hv]; rfl))
          rw [hv] at HAV
          clear he hv
          go_wp2
          go_quiet (first | (go_at_call 36; refine Calls.quiet_of_same (HAV.out _ (below_drewN HB.out _))))
          go_wp2
          go_ret
          exact ⟨by rw [HF.out]; rfl, below_drewN HB.out _⟩
    · have HR := Lib.hid (any_no (fun j (hj : j < M.length) => hto.out j (by omega)))
      go_wp2
      go_ret
      exact ⟨by rw [HG.out, HR.out]; rfl, HB.out⟩
set_option maxRecDepth 100000 in
set_option maxHeartbeats 1600000 in
theorem spec_goesA (L : Int) (G : Option Addr) (c : Nat) (ps : List ByteArray) (hl : ps.length ≤ 1048576) (hz : ∀ k, k < ps.length → (ps.getD k ByteArray.empty).size ≤ 2147483648) (gm cm : Nat) (M : List ByteArray) (hn : M.length ≤ 1000000) (h2 : ∀ k, k < M.length → (M.getD k ByteArray.empty).size = 2) (x : ByteArray) (hx : x.size = 2) (w : World) (hs : StrsG w G ps) (hm : StrsAt w gm 0 M) (hgm : gm < w.heap.size) :
    Calls Tryd.prog 35 #[.agg #[.int .i64 L, .slice G ps.length c], .slice (some ⟨gm, 0, none⟩) M.length cm, .string x, .bool false] w (BoolPost (goesA ps M x) w) := by
  have HS := Lib.hid hs
  have HM := Lib.hid hm
  have HZ := Lib.hid hz
  have H2 := Lib.hid h2
  have HG : Hid (goesA ps M x = M.any (testA ps x)) := Lib.hid rfl
  clear hs hm hz h2
  go_enter Tryd.func35, Tryd.ntmps35
  go_wp2
  have HBX := Lib.hid (fun w' (h : Below (w.heap.size + 1) (w.alloc (.cells #[.int .i64 L, .slice G ps.length c] 27)) w') => box_below w L (.slice G ps.length c) 27 w' h)
  go_loopw [9] (fun i wr => ∃ k : Nat, k ≤ M.length ∧ i = .int .i64 k ∧ Hid (Below (w.heap.size + 1) (w.alloc (.cells #[.int .i64 L, .slice G ps.length c] 27)) wr) ∧ Hid (∀ j, j < k → testA ps x (M.getD j ByteArray.empty) = false)) (fun i _ => M.length - (intOf i).toNat)
  case atStart => exact ⟨0, Nat.zero_le _, rfl, Lib.hid (Below.refl _ _), Lib.hid (fun j h => by omega)⟩
  case round =>
    obtain ⟨k, hk, rfl, hbl, hto⟩ := hrel
    obtain ⟨x0, x1, hB⟩ := HBX.out wr hbl.out
    have HB := Lib.hid hB
    clear hB
    by_cases hlt : k < M.length
    · have hc := (HM.out.below HB.out hgm) k hlt
      rw [Nat.zero_add] at hc
      have hy := H2.out k hlt
      have HAV : Hid (∀ w', Below w.heap.size w w' → Calls Tryd.prog 36 #[.slice G ps.length c, .string ((M.getD k ByteArray.empty) ++ x.extract 1 2)] w' fun e w'' => e = .returned (.bool (avoids ps ((M.getD k ByteArray.empty) ++ x.extract 1 2))) ∧ w'' = w') :=
        Lib.hid (fun w' hw => spec_avoids G c ps _ hl HZ.out (by rw [ByteArray.size_append, ByteArray.size_extract]; omega) w' (HS.out.below hw))
      have j0 : (0 : Int) ≤ (k : Int) := by omega
      have j1 : (k : Int) < (M.length : Int) := by omega
      have HT : Hid (testA ps x (M.getD k ByteArray.empty) = (decide (ch (M.getD k ByteArray.empty) 1 = ch x 0) && avoids ps ((M.getD k ByteArray.empty) ++ x.extract 1 2))) := Lib.hid (by
        unfold testA; rw [hx])
      have x8 : (M.getD k ByteArray.empty).size + (x.extract 1 2).size ≤ 9223372036854775807 := by rw [ByteArray.size_extract]; omega
      have x9 : ∀ w, (Op.stringOp .add (M.getD k ByteArray.empty) (x.extract 1 2)).run Tryd.prog w = .ok (.string ((M.getD k ByteArray.empty) ++ x.extract 1 2)) w := fun w => run_string_add_sum w _ _ x8
      have HY : Hid (∀ b, testA ps x (M.getD k ByteArray.empty) = b → (b = false → ∀ j, j < k + 1 → testA ps x (M.getD j ByteArray.empty) = false) ∧ (b = true → goesA ps M x = true)) := Lib.hid (fun b hb => ⟨fun e j hj => by
          by_cases ej : j = k
          · subst ej; rw [hb, e]
          · exact hto.out j (by omega), fun e => by rw [HG.out]; exact any_yes hlt (hb.trans e)⟩)
      generalize M.getD k ByteArray.empty = y at *
      clear x8
      have k0 : (1 : Nat) < y.size := by omega
      have k1 : (0 : Nat) < x.size := by omega
      have k2 : (1 : Nat) ≤ 2 := by omega
      have be := byte_eq y[1] x[0]
      rw [← ch_lt y 1 k0, ← ch_lt x 0 k1] at be
      cases he : decide (ch y 1 = ch x 0) with
      | false =>
        rw [he, ch_lt y 1 k0, ch_lt x 0 k1] at be
        have HF := Lib.hid ((HY.out _ HT.out).1 (by rw [he]; rfl))
        clear he
        go_wp2
        go_quiet (fail)
        go_wp2
        go_quiet (fail)
        go_wp2
        go_roundw
        case rel => exact ⟨k + 1, by omega, by go_num, Lib.hid (below_drewN hbl.out _), HF⟩
        case measure => simp [intOf]; omega
      | true =>
        rw [he, ch_lt y 1 k0, ch_lt x 0 k1] at be
        cases hv : avoids ps (y ++ x.extract 1 2) with
        | false =>
          have HF := Lib.hid ((HY.out _ HT.out).1 (by rw [he, hv]; rfl))
          rw [hv] at HAV
          clear he hv
          go_wp2
          go_quiet (fail)
          have HB2 := Lib.hid (below_drewN HB.out nq)
          have HL2 := Lib.hid (below_drewN hbl.out nq)
          have hc2 : (wr.drewN nq).cell? ⟨gm, k, none⟩ = some (.string y) := hc
          have y0 : (wr.drewN nq).cell? ⟨w.heap.size, 0, none⟩ = some (.int .i64 L) := x0
          have y1 : (wr.drewN nq).cell? ⟨w.heap.size, 1, none⟩ = some (.slice G ps.length c) := x1
          obtain ⟨wq, hwq⟩ : ∃ wq, wr.drewN nq = wq := ⟨_, rfl⟩
          rw [hwq] at HB2 HL2 hc2 y0 y1 ⊢
          clear hwq
          go_wp2
          go_quiet (first | (go_at_call 36; refine Calls.quiet_of_same (HAV.out _ (below_drewN HB2.out _))))
          go_wp2
          go_roundw
          case rel => exact ⟨k + 1, by omega, by go_num, Lib.hid (below_drewN HL2.out _), HF⟩
          case measure => simp [intOf]; omega
        | true =>
          have HF := Lib.hid ((HY.out _ HT.out).2 (by rw [he, hv]; rfl))
          rw [hv] at HAV
          clear he hv
          go_wp2
          go_quiet (fail)
          have HB2 := Lib.hid (below_drewN HB.out nq)
          have HL2 := Lib.hid (below_drewN hbl.out nq)
          have hc2 : (wr.drewN nq).cell? ⟨gm, k, none⟩ = some (.string y) := hc
          have y0 : (wr.drewN nq).cell? ⟨w.heap.size, 0, none⟩ = some (.int .i64 L) := x0
          have y1 : (wr.drewN nq).cell? ⟨w.heap.size, 1, none⟩ = some (.slice G ps.length c) := x1
          obtain ⟨wq, hwq⟩ : ∃ wq, wr.drewN nq = wq := ⟨_, rfl⟩
          rw [hwq] at HB2 HL2 hc2 y0 y1 ⊢
          clear hwq
          go_wp2
          go_quiet (first | (go_at_call 36; refine Calls.quiet_of_same (HAV.out _ (below_drewN HB2.out _))))
          go_wp2
          go_ret
          exact ⟨by rw [HF.out]; rfl, below_drewN HB2.out _⟩
    · have HR := Lib.hid (any_no (fun j (hj : j < M.length) => hto.out j (by omega)))
      go_wp2
      go_ret
      exact ⟨by rw [HG.out, HR.out]; rfl, HB.out⟩
end Go.Proofs.YtalclebehbdliaaDoor
