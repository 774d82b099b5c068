/-
  The program's pairs that go on: at every shift in memory the set of bits that the plain words say; nothing that was there before is changed.
-/
import Derived.Test.YtalclebehbdliaaGreatPairsImpl
import Derived.Test.YtalclebehbdliaaGreatAvoidImpl
import Derived.Test.YtalclebehbdliaaGreatLangTexts
namespace Go.Proofs.YtalclebehbdliaaGreat
open Go Go.RowKit

/-- A word of three letters. -/
def Tri (x : ByteArray) : Prop := x.size = 3 ∧ Letters x
theorem or_bit (a n : Nat) (ha : a < 65536) (hn : n < 16) : bits .or .u16 (a : Int) (IntKind.u16.wrap ((1 : Int) * 2 ^ n)) = ((a ||| 2 ^ n : Nat) : Int) := by
  rw [pow_bit n hn]
  exact or_u16 a _ ha (Nat.pow_lt_pow_of_lt (by decide) hn)
theorem or_lt {a n : Nat} (ha : a < 512) (hn : n ≤ 8) : a ||| 2 ^ n < 512 := Nat.or_lt_two_pow (n := 9) ha (Nat.pow_lt_pow_of_lt (by decide) (by omega))
theorem fold_lt (p : Nat) : ∀ (ws : List ByteArray) (r : Nat × Nat), (∀ x ∈ ws, Tri x) → r.1 < 512 → r.2 < 512 → (ws.foldl (stepF p) r).1 < 512 ∧ (ws.foldl (stepF p) r).2 < 512
  | [], r, _, h1, h2 => ⟨h1, h2⟩
  | x :: ws, r, h, h1, h2 => by
    have hx := h x (List.mem_cons_self ..)
    have b0 := letters_bit (i := 0) hx.2 (by have := hx.1; omega)
    have b1 := letters_bit (i := 1) hx.2 (by have := hx.1; omega)
    rw [List.foldl_cons]
    refine fold_lt p ws _ (fun y hy => h y (List.mem_cons_of_mem _ hy)) ?_ ?_
    · unfold stepF; split
      · exact or_lt h1 b0
      · exact h1
    · unfold stepF; split
      · exact or_lt h2 b1
      · exact h2

set_option maxRecDepth 100000 in
set_option maxHeartbeats 1600000 in
theorem impl_continued (p : Nat) (hp : p < 512) (A : Option Addr) (c : Nat) (ws : List ByteArray) (hn : ws.length ≤ 1000000) (ht : ∀ x ∈ ws, Tri x) (w : World) (hs : RowAt w A ws) :
    Calls Tryz.prog 106 #[.int .u16 p, .slice A ws.length c] w fun e w' => e = .returned (.int .u16 (stepB ws p : Nat)) ∧ ∃ q, w' = w.drewN q := by
  have HT := Lib.hid (fun k (hk : k < ws.length) => ht _ (getD_mem hk))
  have HF := Lib.hid (fun k => fold_lt p (ws.take k) (0, 0) (fun x hx => ht x (List.mem_of_mem_take hx)) (by decide) (by decide))
  have HS := Lib.hid hs
  have HE : Hid (stepB ws p = ((ws.take ws.length).foldl (stepF p) (0, 0)).1 &&& ((ws.take ws.length).foldl (stepF p) (0, 0)).2) := Lib.hid (by rw [List.take_length]; rfl)
  clear hs ht
  go_enter Tryz.func106, Tryz.ntmps106
  go_wp2
  go_loopw [5, 6, 8, 11] (fun a b _ i wr => ∃ k q : Nat, ∃ r : Nat × Nat, k ≤ ws.length ∧ i = .int .i64 k ∧ a = .int .u16 (r.1 : Nat) ∧ b = .int .u16 (r.2 : Nat) ∧ wr = w.drewN q ∧ Hid (r = (ws.take k).foldl (stepF p) (0, 0))) (fun _ _ _ i _ => ws.length - (intOf i).toNat)
  case atStart => exact ⟨0, 0, (0, 0), Nat.zero_le _, rfl, rfl, rfl, rfl, Lib.hid rfl⟩
  case round =>
    obtain ⟨k, q, ⟨a, b⟩, hk, rfl, rfl, rfl, rfl, hr⟩ := hrel
    have hlt512 := HF.out k
    rw [← hr.out] at hlt512
    obtain ⟨ha, hb⟩ := hlt512
    simp only [] at ha hb
    by_cases hlt : k < ws.length
    · obtain ⟨g, rfl, hst, hg⟩ := HS.out (by omega)
      have hc := hst k hlt
      rw [Nat.zero_add] at hc
      obtain ⟨h3, hlx⟩ := HT.out k hlt
      have HN := Lib.hid (foldl_next ws p k (0, 0) hlt)
      rw [← hr.out] at HN
      have hH0 := Lib.hid (fun w' => impl_has p (by omega) ((ws.getD k ByteArray.empty).extract 0 2) (by rw [part_size (by omega) (by omega)]) (part_letters (by omega) (by omega) hlx) w')
      have hH1 := Lib.hid (fun w' => impl_has p (by omega) ((ws.getD k ByteArray.empty).extract 1 3) (by rw [part_size (by omega) (by omega)]) (part_letters (by omega) (by omega) hlx) w')
      have hP0 := Lib.hid (fun w' => impl_pairBit ((ws.getD k ByteArray.empty).extract 0 2) (by rw [part_size (by omega) (by omega)]) (part_letters (by omega) (by omega) hlx) w')
      have hP1 := Lib.hid (fun w' => impl_pairBit ((ws.getD k ByteArray.empty).extract 1 3) (by rw [part_size (by omega) (by omega)]) (part_letters (by omega) (by omega) hlx) w')
      have b0 := letters_bit (i := 0) hlx (by omega)
      have b1 := letters_bit (i := 1) hlx (by omega)
      have e0 : bitAt ((ws.getD k ByteArray.empty).extract 0 2) 0 = bitAt (ws.getD k ByteArray.empty) 0 := by rw [part_bit (by omega)]
      have e1 : bitAt ((ws.getD k ByteArray.empty).extract 1 3) 0 = bitAt (ws.getD k ByteArray.empty) 1 := by rw [part_bit (by omega)]
      have f0 : hasP p ((ws.getD k ByteArray.empty).extract 0 2) 0 = hasP p (ws.getD k ByteArray.empty) 0 := by unfold hasP; rw [e0]
      have f1 : hasP p ((ws.getD k ByteArray.empty).extract 1 3) 0 = hasP p (ws.getD k ByteArray.empty) 1 := by unfold hasP; rw [e1]
      rw [f0] at hH0
      rw [f1] at hH1
      rw [e0] at hP0
      rw [e1] at hP1
      generalize ws.getD k ByteArray.empty = x at *
      clear hst hlx e0 e1 f0 f1 hr
      cases h0 : hasP p x 0 with
      | false =>
        rw [h0] at hH0
        have HZ : Hid (stepF p (a, b) x = (a, b)) := Lib.hid (by unfold stepF; rw [if_neg (by rw [h0]; simp)])
        clear h0
        go_wp2_with fail
        refine (hH0.out _).mono ?_
        rintro e w1 ⟨rfl, q1, rfl⟩
        go_wp2
        go_roundw
        case rel => exact ⟨k + 1, q + q1, (a, b), by omega, by go_num, rfl, rfl, rfl, Lib.hid (by rw [HN.out, HZ.out])⟩
        case measure => simp [intOf]; omega
      | true =>
        rw [h0] at hH0
        cases h1 : hasP p x 1 with
        | false =>
          rw [h1] at hH1
          have HZ : Hid (stepF p (a, b) x = (a, b)) := Lib.hid (by unfold stepF; rw [if_neg (by rw [h1]; simp)])
          clear h0 h1
          go_wp2_with fail
          refine (hH0.out _).mono ?_
          rintro e w1 ⟨rfl, q1, rfl⟩
          go_wp2_with fail
          refine (hH1.out _).mono ?_
          rintro e w1 ⟨rfl, q2, rfl⟩
          go_wp2
          go_roundw
          case rel => exact ⟨k + 1, q + q1 + q2, (a, b), by omega, by go_num, rfl, rfl, rfl, Lib.hid (by rw [HN.out, HZ.out])⟩
          case measure => simp [intOf]; omega
        | true =>
          rw [h1] at hH1
          have HZ : Hid (stepF p (a, b) x = (a ||| 2 ^ bitAt x 0, b ||| 2 ^ bitAt x 1)) := Lib.hid (by unfold stepF; rw [if_pos (by rw [h0, h1]; rfl)])
          clear h0 h1
          generalize bitAt x 0 = n0 at *
          generalize bitAt x 1 = n1 at *
          have HA := Lib.hid (or_bit a n0 (by omega) (by omega))
          have HB := Lib.hid (or_bit b n1 (by omega) (by omega))
          go_wp2_with fail
          refine (hH0.out _).mono ?_
          rintro e w1 ⟨rfl, q1, rfl⟩
          go_wp2_with fail
          refine (hH1.out _).mono ?_
          rintro e w1 ⟨rfl, q2, rfl⟩
          go_wp2_with fail
          refine (hP0.out _).mono ?_
          rintro e w1 ⟨rfl, q3, rfl⟩
          go_wp2_with fail
          refine (hP1.out _).mono ?_
          rintro e w1 ⟨rfl, q4, rfl⟩
          go_wp2
          go_roundw
          case rel =>
            refine ⟨k + 1, q + q1 + q2 + q3 + q4, (a ||| 2 ^ n0, b ||| 2 ^ n1), by omega, by go_num, ?_, ?_, rfl, Lib.hid (by rw [HN.out, HZ.out])⟩
            · rw [← HA.out]; simp
            · rw [← HB.out]; simp
          case measure => simp [intOf]; omega
    · obtain rfl : k = ws.length := by omega
      have HR : Hid (((stepB ws p : Nat) : Int) = bits .and .u16 (a : Int) (b : Int)) := Lib.hid (by rw [and_u16 a b (by omega) (by omega), HE.out, ← hr.out])
      clear hr
      go_wp2
      go_ret
      exact ⟨by rw [HR.out]; rfl, q, rfl⟩

/-! ### The pairs of a shift -/
def livelyB (L : Int) (ps : List ByteArray) : Nat := setB (avoidingWords L ps 3)
def inLang (L : Int) (ps : List ByteArray) (x : ByteArray) : Bool := avoidsAll L ps x && coverB (livelyB L ps) x
def langOf (L : Int) (ps : List ByteArray) (n : Int) : List ByteArray := (avoidingWords L ps n).filter (coverB (livelyB L ps))
def emptyS (L : Int) (ps : List ByteArray) : Bool := isShift L ps && decide (livelyB L ps = 0)
theorem livelyB_le (L : Int) (ps : List ByteArray) : livelyB L ps ≤ 511 := fixB_le _ _ _
theorem letters_of {L : Int} (hL : L ≤ 3) {x : ByteArray} (h : x.data.toList.all (isL L) = true) : Letters x := by
  intro j hj
  have h1 := ch_isL h hj
  rw [ch_lt x j hj] at h1
  have := ix_lt hL h1
  unfold ix at this
  omega
theorem avoiding_word {L n : Int} {ps : List ByteArray} {x : ByteArray} (h : x ∈ avoidingWords L ps n) : x.size = n.toNat ∧ n ≤ 6 ∧ Letters x := by
  unfold avoidingWords at h
  split at h
  · next hc =>
    obtain ⟨l1, l3, _⟩ := isShift_letters hc.1
    obtain ⟨h1, h2⟩ := (mem_allW L.toNat (by omega) n.toNat x).1 (List.mem_filter.1 h).1
    exact ⟨h1, by omega, letters_of (by omega) h2⟩
  · cases h
theorem isW_all {L : Int} {x : ByteArray} (h : isW L x = true) : (1 ≤ L ∧ L ≤ 3) ∧ x.size ≤ 16 ∧ x.data.toList.all (isL L) = true := by
  unfold isW at h
  simp only [Bool.and_eq_true, decide_eq_true_eq] at h
  exact ⟨h.1.1, h.1.2, h.2⟩
theorem fixB_stop {ws : List ByteArray} {p : Nat} (h : stepB ws p = p) : ∀ n, fixB ws n p = p
  | 0 => rfl
  | n + 1 => by unfold fixB; rw [if_pos h]
theorem fixB_go {ws : List ByteArray} {p n : Nat} (h : stepB ws p ≠ p) : fixB ws (n + 1) p = fixB ws n (stepB ws p) := by
  show (if stepB ws p = p then p else fixB ws n (stepB ws p)) = _
  rw [if_neg h]

set_option maxRecDepth 100000 in
set_option maxHeartbeats 1600000 in
theorem impl_lively (L : Int) (G : Option Addr) (c : Nat) (ps : List ByteArray) (hl : ps.length ≤ 1048576) (hz : ∀ k, k < ps.length → (ps.getD k ByteArray.empty).size ≤ 2147483648) (w : World) (hs : StrsG w G ps)
    (hsh : ∀ w', Below w.heap.size w w' → w'.ShapedOpen Tryz.prog) :
    Calls Tryz.prog 80 #[.agg #[.int .i64 L, .slice G ps.length c]] w fun e w' => e = .returned (.int .u16 (livelyB L ps : Nat)) ∧ Below w.heap.size w w' := by
  have hb := (Below.refl w.heap.size w).alloc (Nat.le_refl _) (.cells #[.int .i64 L, .slice G ps.length c] 26)
  have hs1 := hs.below hb
  have HA := Lib.hid (impl_avoidingWords L 3 G c ps hl hz _ hs1 (fun w' h => hsh w' (below_after hb h)))
  have HB := Lib.hid hb
  have HT := Lib.hid (fun x (hx : x ∈ avoidingWords L ps 3) => show Tri x from ⟨(avoiding_word hx).1, (avoiding_word hx).2.2⟩)
  have HL := Lib.hid (avoidingWords_length L ps 3)
  have HD : Hid (livelyB L ps = fixB (avoidingWords L ps 3) 511 511) := Lib.hid rfl
  clear hs hz hb hs1 hsh
  generalize avoidingWords L ps 3 = tr at *
  go_enter Tryz.func80, Tryz.ntmps80
  go_wp2_with fail
  refine HA.out.mono ?_
  intro e w1 hp
  obtain ⟨A, cap, rfl, hr, hb1⟩ := hp.rowAt
  have HR := Lib.hid hr
  have HC := Lib.hid (fun p (hp : p < 512) w' (hw : Below w1.heap.size w1 w') => impl_continued p hp A cap tr HL.out HT.out w' (hr.below hw))
  have HB1 := Lib.hid (below_after HB.out hb1)
  clear hp hr hb1
  go_wp2
  go_loopw [4, 5] (fun a _ wr => ∃ n p q : Nat, a = .int .u16 (p : Nat) ∧ p ≤ n ∧ p < 512 ∧ Hid (livelyB L ps = fixB tr n p) ∧ wr = w1.drewN q) (fun a _ _ => (intOf a).toNat)
  case atStart => exact ⟨511, 511, 0, rfl, Nat.le_refl _, by decide, HD, rfl⟩
  case round =>
    obtain ⟨n, p, q, rfl, hpn, hp, hfix, rfl⟩ := hrel
    have hle := stepB_le tr p
    have HC1 := Lib.hid (HC.out p hp (w1.drewN q) (below_drewN (Below.refl _ _) q))
    by_cases he : stepB tr p = p
    · have HF := Lib.hid (hfix.out.trans (fixB_stop he n))
      rw [he] at HC1
      clear hle he
      go_wp2_with fail
      refine HC1.out.mono ?_
      rintro e w2 ⟨rfl, q1, rfl⟩
      go_wp2
      go_ret
      exact ⟨by rw [HF.out]; rfl, below_drewN HB1.out (q + q1)⟩
    · have g1 : (((stepB tr p : Nat) : Int) == (p : Int)) = false := beq_eq_false_iff_ne.2 (by omega)
      obtain ⟨m, rfl⟩ : ∃ m, n = m + 1 := ⟨n - 1, by omega⟩
      have HF := Lib.hid (hfix.out.trans (fixB_go (n := m) he))
      have hless : stepB tr p < p := by omega
      generalize stepB tr p = p' at *
      clear he
      go_wp2_with fail
      refine HC1.out.mono ?_
      rintro e w2 ⟨rfl, q1, rfl⟩
      go_wp2
      go_roundw
      case rel => exact ⟨m, p', q + q1, rfl, by omega, by omega, HF, rfl⟩
      case measure => simp [intOf]; omega

end Go.Proofs.YtalclebehbdliaaGreat
