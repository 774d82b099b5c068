/-
  The model's IsOneToOne, at width 1: as the plain words say; nothing that was there before is changed.
-/
import Derived.Test.YtcoiodfggaanbaaStepsSpec
import Derived.Test.YtcoiodfggaanbaaLiveSpec
import Derived.Test.YtcoiodfggaanbaaPairNum
import Derived.Test.YtcoiodfggaanbaaCodeSpecC
namespace Go.Proofs.Ytcoiodfggaanbaa
open Go Go.RowKit

noncomputable def injB (K N : Int) (o : ByteArray) : Bool := if isCodeB K N o = true then (one_exists K.toNat (K.toNat ^ (N.toNat - 1)) (outC o)).choose else false
theorem injB_no {K N : Int} {o : ByteArray} (h : isCodeB K N o = false) : injB K N o = false := by
  unfold injB
  rw [if_neg (by rw [h]; decide)]
theorem injB_is {k n : Nat} {o : ByteArray} (ok : CodeOk k n o) : OneIs k (k ^ (n - 1)) (outC o) (injB (k : Int) (n : Int) o) := by
  unfold injB
  rw [if_pos (code_is ok)]
  exact (one_exists k (k ^ (n - 1)) (outC o)).choose_spec
theorem injB_yes {k n : Nat} {o : ByteArray} (ok : CodeOk k n o) {b : Bool} (h : OneIs k (k ^ (n - 1)) (outC o) b) : injB (k : Int) (n : Int) o = b := one_same (injB_is ok) h
theorem one_true1 {k : Nat} {o : ByteArray} (ok : CodeOk k 1 o) (h : ∀ i j, i < k → j < i → outC o i ≠ outC o j) : injB (k : Int) ((1 : Nat) : Int) o = true :=
  injB_yes ok (by
    rw [show 1 - 1 = 0 from rfl, Nat.pow_zero]
    refine one_single ⟨fun _ i j hi hj he => ?_, fun _ => rfl⟩
    rcases Nat.lt_trichotomy i j with h1 | h1 | h1
    · exact absurd he.symm (h j i hj h1)
    · exact h1
    · exact absurd he (h i j hi h1))
theorem one_false1 {k i j : Nat} {o : ByteArray} (ok : CodeOk k 1 o) (hi : i < k) (hj : j < i) (h : outC o i = outC o j) : injB (k : Int) ((1 : Nat) : Int) o = false :=
  injB_yes ok (by
    rw [show 1 - 1 = 0 from rfl, Nat.pow_zero]
    refine one_single ⟨fun h => by (cases h), fun g => ?_⟩
    have := g i j hi (by omega) h
    omega)
theorem one_live {k n : Nat} {o : ByteArray} (ok : CodeOk k n o) (hn : 2 ≤ n) {L : List Bool} {b : Bool}
    (hc : ClosedS (stepsL k (k ^ (n - 1)) (outC o) (k ^ (n - 1) * k ^ (n - 1))) fun c => onL L c = true) (hs : SupB (stepsL k (k ^ (n - 1)) (outC o) (k ^ (n - 1) * k ^ (n - 1))) L)
    (hb : b = true ↔ ∀ c, onL L c = true → c / k ^ (n - 1) = c % k ^ (n - 1)) : injB (k : Int) (n : Int) o = b := by
  have k2 := ok.k2
  have hk : 0 < k := by omega
  have hd : k ∣ k ^ (n - 1) := ⟨k ^ (n - 1 - 1), by rw [Nat.mul_comm, ← Nat.pow_succ]; congr 1; omega⟩
  exact injB_yes ok (one_of_live hk (Nat.pow_pos hk) hd (closed_iff.1 hc) (fun M hM c hc => hs M (closed_iff.2 hM) c hc) hb)
theorem rem_isE' (p q : Nat) : Int.tmod (p : Int) (q : Int) = ((p % q : Nat) : Int) := (Int.ofNat_tmod p q).symm
theorem quo_isE' (p q : Nat) : Int.tdiv (p : Int) (q : Int) = ((p / q : Nat) : Int) := (Int.ofNat_tdiv p q).symm
theorem side_le {k n : Nat} {o : ByteArray} (ok : CodeOk k n o) : k ^ (n - 1) ≤ 9 := by
  have n1 := ok.n1
  have n4 := ok.n4
  have k2 := ok.k2
  have k3 := ok.k3
  have hqk : k ^ (n - 1) * k ≤ 27 := by rw [← pow_split n1]; exact ok.le
  rcases Nat.lt_or_ge k 3 with h | h
  · obtain rfl : k = 2 := by omega
    have h1 : 2 ^ (n - 1) ≤ 2 ^ 3 := Nat.pow_le_pow_right (by decide) (by omega)
    omega
  · obtain rfl : k = 3 := by omega
    omega

set_option maxRecDepth 100000 in
set_option maxHeartbeats 1600000 in
theorem spec_one1 (k : Nat) (o : ByteArray) (ok : CodeOk k 1 o) (ho : o.size ≤ 1099511627776) (w : World) :
    Calls Try.prog 33 #[.agg #[.int .i64 (k : Int), .int .i64 ((1 : Nat) : Int), .string o]] w (Says (.bool (injB (k : Int) ((1 : Nat) : Int) o)) w) := by
  have k2 := ok.k2
  have k3 := ok.k3
  have hos : o.size = k := by rw [ok.len, Nat.pow_one]
  have HT := Lib.hid (one_true1 ok)
  have HF := Lib.hid (fun i j => one_false1 (i := i) (j := j) ok)
  have HOS := Lib.hid hos
  have ho3 : o.size ≤ 3 := by omega
  clear hos
  have HSAME : Hid (∀ p p' (hp : p < o.size) (hi : p' < o.size), ((o[p].toNat : Int) == (o[p'].toNat : Int)) = decide (outC o p = outC o p')) := Lib.hid fun p i hp hi => by
    have h := same_letter (byteAt_all ok.all hp) (byteAt_all ok.all hi)
    rw [byteAt_is hp, byteAt_is hi] at h
    unfold outC
    rw [byteAt_is hp, byteAt_is hi]; exact h
  have HI := Lib.hid (spec_isCode (k : Int) ((1 : Nat) : Int) o ho)
  rw [code_is ok] at HI
  generalize injB (k : Int) ((1 : Nat) : Int) o = R at *
  have hk := codeIn_new w (k : Int) ((1 : Nat) : Int) o
  have HK := Lib.hid hk
  have c0 := hk.c0
  have c1 := hk.c1
  have c2 := hk.c2
  have HB0 := Lib.hid ((Below.refl w.heap.size w).alloc (Nat.le_refl _) (.cells #[.int .i64 (k : Int), .int .i64 ((1 : Nat) : Int), .string o] 25))
  clear hk ok
  go_enter Try.func33, Try.ntmps33
  go_wp2_with fail
  refine (HI.out _).mono ?_
  rintro e w1 ⟨rfl, hb1⟩
  have HB1 := Lib.hid (HB0.out.trans (hb1.mono HB0.out.size))
  have HK1 := Lib.hid (HK.out.below hb1)
  clear c0 c1 c2 hb1
  have c0 := HK1.out.c0
  have c1 := HK1.out.c1
  have c2 := HK1.out.c2
  go_wp2
  go_loopw [3] (fun iv wr => ∃ I : Nat, I ≤ o.size ∧ iv = .int .i64 (I : Int) ∧ Hid (∀ i j, i < I → j < i → outC o i ≠ outC o j) ∧ Hid (Below w1.heap.size w1 wr)) (fun iv _ => o.size - (intOf iv).toNat)
  case atStart => exact ⟨0, Nat.zero_le _, rfl, Lib.hid (fun i j h => absurd h (Nat.not_lt_zero _)), Lib.hid (Below.refl _ _)⟩
  case round =>
    obtain ⟨I, hI, rfl, HA, HB⟩ := hrel
    clear c0 c1 c2
    have hcode := HK1.out.below HB.out
    have c0 := hcode.c0
    have c1 := hcode.c1
    have c2 := hcode.c2
    clear hcode
    by_cases hIl : I < o.size
    · have i0 : (0 : Int) ≤ (I : Int) := Int.natCast_nonneg I
      have i1 : (I : Int) < (o.size : Int) := Int.ofNat_lt.2 hIl
      go_wp2
      go_loopw [4] (fun jv wr => ∃ J : Nat, J ≤ I ∧ jv = .int .i64 (J : Int) ∧ Hid (∀ j, j < J → outC o I ≠ outC o j) ∧ Hid (Below w1.heap.size w1 wr)) (fun jv _ => I - (intOf jv).toNat)
      case atStart => exact ⟨0, Nat.zero_le _, rfl, Lib.hid (fun j h => absurd h (Nat.not_lt_zero _)), HB⟩
      case round =>
        clear HB c0 c1 c2
        obtain ⟨J, hJ, rfl, HA2, HB⟩ := hrel
        have hcode := HK1.out.below HB.out
        have c0 := hcode.c0
        have c1 := hcode.c1
        have c2 := hcode.c2
        clear hcode
        by_cases hJI : J < I
        · have hJl : J < o.size := Nat.lt_trans hJI hIl
          have j0 : (0 : Int) ≤ (J : Int) := Int.natCast_nonneg J
          have j1 : (J : Int) < (o.size : Int) := Int.ofNat_lt.2 hJl
          have hsm := HSAME.out I J hIl hJl
          by_cases hcc : outC o I = outC o J
          · rw [decide_eq_true hcc] at hsm
            have HRF : Hid (R = false) := Lib.hid (HF.out I J (by rw [← HOS.out]; exact hIl) hJI hcc)
            clear hcc
            go_wp2
            go_quiet (fail)
            go_wp2
            go_ret
            exact ⟨by rw [HRF.out]; rfl, HB1.out.trans ((drewN_below HB.out _).mono HB1.out.size)⟩
          · rw [decide_eq_false hcc] at hsm
            have HA3 : Hid (∀ j, j < J + 1 → outC o I ≠ outC o j) := Lib.hid fun j hj => by
              rcases Nat.lt_or_eq_of_le (Nat.le_of_lt_succ hj) with h | rfl
              · exact HA2.out j h
              · exact hcc
            clear hcc
            go_wp2
            go_quiet (fail)
            go_wp2
            go_roundw
            case rel => exact ⟨J + 1, by omega, by go_num, HA3, Lib.hid (drewN_below HB.out _)⟩
            case measure => simp [intOf]; omega
        · obtain rfl : J = I := by omega
          have HA3 : Hid (∀ i j, i < J + 1 → j < i → outC o i ≠ outC o j) := Lib.hid fun i j hi hj => by
            rcases Nat.lt_or_eq_of_le (Nat.le_of_lt_succ hi) with h | rfl
            · exact HA.out i j h hj
            · exact HA2.out j hj
          go_wp2
          go_roundw
          case rel => exact ⟨J + 1, by omega, by go_num, HA3, HB⟩
          case measure => simp [intOf]; omega
    · obtain rfl : I = o.size := by omega
      have HRT : Hid (R = true) := Lib.hid (HT.out fun i j hi hj => HA.out i j (by rw [HOS.out]; exact hi) hj)
      go_wp2
      go_ret
      exact ⟨by rw [HRT.out]; rfl, HB1.out.trans (HB.out.mono HB1.out.size)⟩

end Go.Proofs.Ytcoiodfggaanbaa
