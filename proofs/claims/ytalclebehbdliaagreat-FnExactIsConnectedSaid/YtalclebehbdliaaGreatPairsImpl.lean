/-
  The program's sets of pairs: whether a pair is in one, whether one begins with a letter, whether a word is covered; at every word of letters and every set they answer as the plain words say; nothing is changed.
-/
import Derived.Test.YtalclebehbdliaaGreatBitsNum
import Derived.Test.YtalclebehbdliaaGreatProg
import Derived.Deep.QuietTactic
import Derived.BigQuiet
import Derived.WalkLawsBesides
namespace Go.Proofs.YtalclebehbdliaaGreat
open Go Go.RowKit

/-- Each byte is one of the letters a, b, c. -/
def Letters (w : ByteArray) : Prop := ∀ j (hj : j < w.size), 97 ≤ w[j].toNat ∧ w[j].toNat ≤ 99
theorem ix_is {b : UInt8} (h : 97 ≤ b.toNat ∧ b.toNat ≤ 99) : wrap64 ((b.toNat : Int) - 97) = (ix b : Int) := by unfold wrap64 ix; omega
theorem u8_sub {b : UInt8} (h : 97 ≤ b.toNat ∧ b.toNat ≤ 99) : IntKind.u8.wrap ((b.toNat : Int) - 97) = (ix b : Int) := by rw [IntKind.wrap_u8]; unfold ix; omega
theorem ix_le {b : UInt8} (h : 97 ≤ b.toNat ∧ b.toNat ≤ 99) : ix b ≤ 2 := by unfold ix; omega

set_option maxRecDepth 100000 in
theorem impl_letterBit (b : UInt8) (h : 97 ≤ b.toNat ∧ b.toNat ≤ 99) (w : World) :
    Calls Tryz.prog 127 #[.int .u8 b.toNat] w fun e w' => e = .returned (.int .i64 ((3 * ix b : Nat) : Int)) ∧ w' = w := by
  have e1 := u8_sub h
  have e2 := ix_le h
  go_enter Tryz.func127, Tryz.ntmps127
  go_wp2
  go_ret
  exact ⟨by go_num, rfl⟩

set_option maxRecDepth 100000 in
theorem impl_pairBit (s : ByteArray) (h2 : s.size = 2) (hl : Letters s) (w : World) :
    Calls Tryz.prog 125 #[.string s] w fun e w' => e = .returned (.int .i64 ((bitAt s 0 : Nat) : Int)) ∧ ∃ q, w' = w.drewN q := by
  have h0 := hl 0 (by omega)
  have h1 := hl 1 (by omega)
  have HL := Lib.hid (impl_letterBit s[0] h0)
  have e1 := u8_sub h1
  have HR : Hid (bitAt s 0 = 3 * ix s[0] + ix s[1]) := Lib.hid (by unfold bitAt bitOf; rw [ch_lt s 0 (by omega), ch_lt s (0 + 1) (by omega)])
  have i0 := ix_le h0
  have i1 := ix_le h1
  have k0 : (0 : Nat) < s.size := by omega
  have k1 : (1 : Nat) < s.size := by omega
  clear hl
  go_enter Tryz.func125, Tryz.ntmps125
  go_wp2
  go_quiet (first | (go_at_call 127; refine Calls.quiet_of_same (HL.out _)))
  go_wp2
  go_ret
  exact ⟨by rw [HR.out]; go_num, _, rfl⟩

theorem letters_bit {s : ByteArray} {i : Nat} (hl : Letters s) (h : i + 2 ≤ s.size) : bitAt s i ≤ 8 := by
  have h0 := ix_le (hl i (by omega))
  have h1 := ix_le (hl (i + 1) (by omega))
  unfold bitAt bitOf
  rw [ch_lt s i (by omega), ch_lt s (i + 1) (by omega)]
  omega
theorem part_size {s : ByteArray} {i j : Nat} (hi : i ≤ j) (hj : j ≤ s.size) : (s.extract i j).size = j - i := by rw [ByteArray.size_extract]; omega
theorem part_at {s : ByteArray} {i j k : Nat} (hk : i + k < j) : ch (s.extract i j) k = ch s (i + k) := by
  unfold ch
  rw [ba_extract, List.getD_eq_getElem?_getD, List.getD_eq_getElem?_getD, List.getElem?_take, if_pos (by omega), List.getElem?_drop]
theorem part_letters {s : ByteArray} {i j : Nat} (hi : i ≤ j) (hj : j ≤ s.size) (h : Letters s) : Letters (s.extract i j) := by
  intro k hk
  have hk' := hk
  rw [part_size hi hj] at hk'
  rw [← ch_lt _ k hk, part_at (by omega), ch_lt s (i + k) (by omega)]
  exact h (i + k) (by omega)
theorem part_bit {s : ByteArray} {i j k : Nat} (hk : i + k + 1 < j) : bitAt (s.extract i j) k = bitAt s (i + k) := by
  unfold bitAt
  rw [part_at (by omega), part_at (by omega), Nat.add_assoc]

set_option maxRecDepth 100000 in
theorem impl_has (p : Nat) (hp : p < 65536) (s : ByteArray) (h2 : s.size = 2) (hl : Letters s) (w : World) :
    Calls Tryz.prog 112 #[.int .u16 p, .string s] w fun e w' => e = .returned (.bool (hasP p s 0)) ∧ ∃ q, w' = w.drewN q := by
  have HB := Lib.hid (impl_pairBit s h2 hl w)
  have hb := letters_bit (i := 0) hl (by omega)
  have HR : Hid (hasP p s 0 = p.testBit (bitAt s 0)) := Lib.hid rfl
  have HT := Lib.hid (has_bit p (bitAt s 0) hp)
  clear hl
  generalize bitAt s 0 = n at *
  go_enter Tryz.func112, Tryz.ntmps112
  go_wp2_with fail
  refine HB.out.mono ?_
  rintro e w1 ⟨rfl, q, rfl⟩
  go_wp2
  go_ret
  exact ⟨by rw [HR.out, ← HT.out]; simp, q, rfl⟩

set_option maxRecDepth 100000 in
theorem impl_begin (p : Nat) (hp : p < 65536) (b : UInt8) (h : 97 ≤ b.toNat ∧ b.toNat ≤ 99) (w : World) :
    Calls Tryz.prog 111 #[.int .u16 p, .int .u8 b.toNat] w fun e w' => e = .returned (.bool (decide ((p >>> (3 * ix b)) &&& 7 ≠ 0))) ∧ w' = w := by
  have HB := Lib.hid (impl_letterBit b h w)
  have hb := ix_le h
  have HT := Lib.hid (begin_bit p (3 * ix b) hp)
  have hb2 : 3 * ix b ≤ 6 := by omega
  clear h hb
  generalize 3 * ix b = n at *
  go_enter Tryz.func111, Tryz.ntmps111
  go_wp2_with fail
  refine HB.out.mono ?_
  rintro e w1 ⟨rfl, rfl⟩
  go_wp2
  go_ret
  exact ⟨by rw [← HT.out]; simp, rfl⟩

theorem cover_no {p : Nat} {s : ByteArray} {k : Nat} (hk : k + 1 < s.size) (h : hasP p s k = false) : coverB p s = false := by
  unfold coverB
  rw [if_neg (by omega), if_neg (by omega), ← Bool.not_eq_true, List.all_eq_true]
  intro hall
  have := hall k (List.mem_range.2 (by omega))
  rw [h] at this; cases this
theorem cover_end {p : Nat} {s : ByteArray} (h2 : 2 ≤ s.size) (h : ∀ j, j + 1 < s.size → hasP p s j = true) : coverB p s = true := by
  unfold coverB
  rw [if_neg (by omega), if_neg (by omega), List.all_eq_true]
  intro j hj
  have := List.mem_range.1 hj
  exact h j (by omega)

set_option maxRecDepth 100000 in
set_option maxHeartbeats 800000 in
theorem impl_cover (p : Nat) (hp : p < 65536) (s : ByteArray) (hs : s.size ≤ 1000000) (hl : Letters s) (w : World) :
    Calls Tryz.prog 84 #[.int .u16 p, .string s] w fun e w' => e = .returned (.bool (coverB p s)) ∧ ∃ q, w' = w.drewN q := by
  by_cases h0 : s.size = 0
  · have HR : Hid (coverB p s = decide (p ≠ 0)) := Lib.hid (by unfold coverB; rw [if_pos h0])
    have g0 : ((s.size : Int) == 0) = true := by rw [beq_iff_eq]; omega
    clear hl
    go_enter Tryz.func84, Tryz.ntmps84
    go_wp2
    go_ret
    refine ⟨?_, 0, rfl⟩
    rw [HR.out]
    by_cases hp0 : p = 0
    · subst hp0; rfl
    · rw [decide_eq_true hp0, show ((p : Int) != 0) = true from bne_iff_ne.2 (by omega)]; rfl
  · have g0 : ((s.size : Int) == 0) = false := beq_eq_false_iff_ne.2 (by omega)
    by_cases h1 : s.size = 1
    · have g1 : ((s.size : Int) == 1) = true := by rw [beq_iff_eq]; omega
      have HG := Lib.hid (impl_begin p hp s[0] (hl 0 (by omega)) w)
      have HR : Hid (coverB p s = decide ((p >>> (3 * ix s[0])) &&& 7 ≠ 0)) := Lib.hid (by unfold coverB; rw [if_neg h0, if_pos h1, ch_lt s 0 (by omega)])
      have k0 : (0 : Nat) < s.size := by omega
      obtain ⟨bb, hbb⟩ : ∃ bb, bb = decide ((p >>> (3 * ix s[0])) &&& 7 ≠ 0) := ⟨_, rfl⟩
      rw [← hbb] at HG HR
      clear hl hbb
      go_enter Tryz.func84, Tryz.ntmps84
      go_wp2_with fail
      refine HG.out.mono ?_
      rintro e w1 ⟨rfl, rfl⟩
      go_wp2
      go_ret
      exact ⟨by rw [HR.out]; rfl, 0, rfl⟩
    · have g1 : ((s.size : Int) == 1) = false := beq_eq_false_iff_ne.2 (by omega)
      have HH := Lib.hid (fun k (hk : k + 2 ≤ s.size) w' => impl_has p hp (s.extract k (k + 2)) (by rw [part_size (by omega) hk]; omega) (part_letters (by omega) hk hl) w')
      have HE := Lib.hid (fun k => show hasP p (s.extract k (k + 2)) 0 = hasP p s k by unfold hasP; rw [part_bit (by omega)]; rfl)
      clear hl
      go_enter Tryz.func84, Tryz.ntmps84
      go_wp2
      go_loopw [5, 21] (fun _ i wr => ∃ k q : Nat, k + 1 ≤ s.size ∧ i = .int .i64 k ∧ wr = w.drewN q ∧ Hid (∀ j, j < k → hasP p s j = true)) (fun _ i _ => s.size - (intOf i).toNat)
      case atStart => exact ⟨0, 0, by omega, rfl, rfl, Lib.hid (fun j h => by omega)⟩
      case round =>
        obtain ⟨k, q, hk, rfl, rfl, hto⟩ := hrel
        by_cases hlt : k + 2 ≤ s.size
        · have hcall := HH.out k hlt (w.drewN q)
          rw [HE.out] at hcall
          have l1 : (k : Int) < (s.size : Int) - 1 := by omega
          cases hi : hasP p s k with
          | false =>
            rw [hi] at hcall
            have HC := Lib.hid hcall
            have HR := Lib.hid (cover_no (show k + 1 < s.size by omega) hi)
            clear hcall hi
            go_wp2_with fail
            refine HC.out.mono ?_
            rintro e w1 ⟨rfl, q1, rfl⟩
            go_wp2
            go_ret
            exact ⟨by rw [HR.out]; rfl, q + q1, rfl⟩
          | true =>
            rw [hi] at hcall
            have HC := Lib.hid hcall
            have HT : Hid (∀ j, j < k + 1 → hasP p s j = true) := Lib.hid (fun j hj => by
              by_cases e : j = k
              · subst e; exact hi
              · exact hto.out j (by omega))
            clear hcall hi
            go_wp2_with fail
            refine HC.out.mono ?_
            rintro e w1 ⟨rfl, q1, rfl⟩
            go_wp2
            go_roundw
            case rel => exact ⟨k + 1, q + q1, by omega, by go_num, rfl, HT⟩
            case measure => simp [intOf]; omega
        · have HR := Lib.hid (cover_end (p := p) (s := s) (by omega) (fun j hj => hto.out j (by omega)))
          have l1 : ¬ (k : Int) < (s.size : Int) - 1 := by omega
          go_wp2
          go_ret
          exact ⟨by rw [HR.out]; rfl, q, rfl⟩
end Go.Proofs.YtalclebehbdliaaGreat
