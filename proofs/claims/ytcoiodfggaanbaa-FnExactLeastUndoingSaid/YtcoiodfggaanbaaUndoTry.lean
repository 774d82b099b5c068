/-
  The model's place of a word and its try at a code that undoes another one at a place: as the plain words say; nothing that was there before is changed.
-/
import Derived.Test.YtcoiodfggaanbaaUndoOut
import Derived.Test.YtcoiodfggaanbaaRingSpec
namespace Go.Proofs.Ytcoiodfggaanbaa
open Go Go.RowKit

theorem infoByteU : (Try.prog.info? 5).map (fun i => (i.zero, i.size, i.bytes)) = some (some (.int .u8 0), 1, 1) := by kernel_rfl

set_option maxRecDepth 100000 in
set_option maxHeartbeats 1600000 in
theorem spec_number (k n : Nat) (x : ByteArray) (k3 : k ≤ 3) (n4 : n ≤ 4) (hx : x.size = n) (ha : allL (k : Int) x = true) (w : World) :
    Calls Try.prog 108 #[.int .i64 (k : Int), .string x] w fun e w' => e = .returned (.int .i64 ((idxB k x : Nat) : Int)) ∧ w' = w := by
  subst hx
  have HA := Lib.hid ha
  clear ha
  go_enter Try.func108, Try.ntmps108
  go_wp2
  go_loop [5, 6] (fun nv iv => ∃ i m : Nat, i ≤ x.size ∧ iv = .int .i64 (i : Int) ∧ nv = .int .i64 (m : Int) ∧ Hid (m = idxTo k x i)) (fun _ iv => x.size - (intOf iv).toNat)
  case atStart => exact ⟨0, 0, Nat.zero_le _, rfl, rfl, Lib.hid rfl⟩
  case round =>
    obtain ⟨i, m, hi, rfl, rfl, hm⟩ := hrel
    by_cases hlt : i < x.size
    · have hb : x[i].toNat < 256 := x[i].toNat_lt
      obtain ⟨hd1, hd2⟩ := digit_lt (byteAt_all HA.out hlt)
      have h81 := idxTo_le HA.out k3 rfl n4 (i := i) (by omega)
      have h81' := idxTo_le HA.out k3 rfl n4 (i := i + 1) (by omega)
      rw [← hm.out] at h81
      have hnx : idxTo k x (i + 1) = m * k + (x[i].toNat - 97) := by rw [idxTo, ← hm.out, byteAt_is hlt]
      rw [byteAt_is hlt] at hd1 hd2
      obtain ⟨r, hr⟩ : ∃ r, idxTo k x (i + 1) = r := ⟨_, rfl⟩
      rw [hr] at hnx h81'
      have HNX : Hid (r = idxTo k x (i + 1)) := Lib.hid hr.symm
      have hq : m * k ≤ 81 * 3 := Nat.mul_le_mul (by omega) k3
      have hmk : ((m : Int) * (k : Int)) = ((m * k : Nat) : Int) := by rw [Int.natCast_mul]
      have hms : x.size - (i + 1) < x.size - i := by omega
      obtain ⟨q, hq0⟩ : ∃ q, m * k = q := ⟨_, rfl⟩
      rw [hq0] at hq hmk hnx
      have w0 : wrap64 (x[i].toNat : Int) = (x[i].toNat : Int) := by
        clear hnx h81 h81' hmk
        exact small_wrap (by omega)
      have w1 : wrap64 ((m : Int) * (k : Int)) = (q : Int) := by
        rw [hmk]
        clear hnx h81 h81' hmk w0
        exact small_wrap (by omega)
      have w2 : wrap64 ((q : Int) + (x[i].toNat : Int)) = (q : Int) + (x[i].toNat : Int) := by
        clear hnx h81 h81' hmk w0 w1
        exact small_wrap (by omega)
      have w3 : wrap64 ((q : Int) + (x[i].toNat : Int) - 97) = (r : Int) := by
        have e : (q : Int) + (x[i].toNat : Int) - 97 = (r : Int) := by clear w0 w1 w2 h81 h81' hmk; omega
        rw [e]
        clear hnx h81 hmk w0 w1 w2 e
        exact small_wrap (by omega)
      clear hnx hmk hq0 hr h81' hq hd1 hd2
      go_wp2
      go_round
      case rel => exact ⟨i + 1, r, by clear w0 w1 w2 w3; omega, by go_num, by rw [w3], HNX⟩
      case measure => clear w0 w1 w2 w3; simp [intOf]; omega
    · obtain rfl : i = x.size := by omega
      have hm2 : Hid (m = idxB k x) := hm
      go_wp2
      go_ret
      exact ⟨by rw [hm2.out]; rfl, rfl⟩
end Go.Proofs.Ytcoiodfggaanbaa
