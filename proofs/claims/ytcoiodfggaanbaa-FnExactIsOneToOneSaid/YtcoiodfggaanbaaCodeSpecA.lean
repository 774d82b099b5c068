/-
  The model's side of codes, applied: the letter that a code gives to a word, and a word's letters, on a line and on a ring; nothing that was there before is changed.
-/
import Derived.Test.YtcoiodfggaanbaaCodeSpec
namespace Go.Proofs.Ytcoiodfggaanbaa
open Go Go.RowKit

theorem small_wrap {x : Int} (h : -1000000 ≤ x ∧ x ≤ 1000000) : wrap64 x = x := by unfold wrap64; omega
theorem idxTo_le {k n : Nat} {x : ByteArray} (hx : allL (k : Int) x = true) (hk : k ≤ 3) (hn : x.size = n) (h4 : n ≤ 4) {i : Nat} (hi : i ≤ n) : idxTo k x i < 81 := by
  have h := idxTo_lt hx i (by omega)
  have h1 : k ^ i ≤ 3 ^ i := Nat.pow_le_pow_left hk i
  have h2 : 3 ^ i ≤ 3 ^ 4 := Nat.pow_le_pow_right (by decide) (by omega)
  omega

set_option maxRecDepth 100000 in
set_option maxHeartbeats 400000 in
theorem spec_letter (k n : Nat) (o x : ByteArray) (hc : CodeOk k n o) (hx : x.size = n) (ha : allL (k : Int) x = true) (w : World) :
    Calls Try.prog 78 #[.agg #[.int .i64 (k : Int), .int .i64 (n : Int), .string o], .string x] w (Says (.string (oneB (letterC k o x))) w) := by
  have hk := codeIn_new w (k : Int) (n : Int) o
  have HK := Lib.hid hk
  have HB0 := Lib.hid ((Below.refl w.heap.size w).alloc (Nat.le_refl _) (.cells #[.int .i64 (k : Int), .int .i64 (n : Int), .string o] 25))
  have HOI := Lib.hid (letterC_ok hc hx ha)
  have k3 := hc.k3
  have n4 := hc.n4
  have ho27 : o.size ≤ 27 := by rw [hc.len]; exact hc.le
  have HA := Lib.hid ha
  have HX := Lib.hid hx
  have hx4 : x.size ≤ 4 := by omega
  have hxn : x.size ≤ n := by omega
  clear hk hc hx ha
  go_enter Try.func78, Try.ntmps78
  go_wp2
  go_loopw [5, 6] (fun nv iv wr => ∃ i m : Nat, i ≤ x.size ∧ iv = .int .i64 (i : Int) ∧ nv = .int .i64 (m : Int) ∧ Hid (m = idxTo k x i) ∧ Hid (Below w.heap.size w wr) ∧ Hid (CodeIn wr w.heap.size (k : Int) (n : Int) o)) (fun _ iv _ => x.size - (intOf iv).toNat)
  case atStart => exact ⟨0, 0, Nat.zero_le _, rfl, rfl, Lib.hid rfl, HB0, HK⟩
  case round =>
    obtain ⟨i, m, hi, rfl, rfl, hm, HB, HC⟩ := hrel
    clear HK HB0
    have c0 := HC.out.c0
    have c2 := HC.out.c2
    by_cases hlt : i < x.size
    · have hb : x[i].toNat < 256 := x[i].toNat_lt
      obtain ⟨W0, rfl⟩ : ∃ W0 : World, W0 = wr := ⟨_, rfl⟩
      obtain ⟨hd1, hd2⟩ := digit_lt (byteAt_all HA.out hlt)
      have h81 := idxTo_le HA.out k3 HX.out n4 (i := i) (by omega)
      have h81' := idxTo_le HA.out k3 HX.out n4 (i := i + 1) (by omega)
      rw [← hm.out] at h81
      have hnx : idxTo k x (i + 1) = m * k + (x[i].toNat - 97) := by rw [idxTo, ← hm.out, byteAt_is hlt]
      rw [byteAt_is hlt] at hd1 hd2
      obtain ⟨r, hr⟩ : ∃ r, idxTo k x (i + 1) = r := ⟨_, rfl⟩
      rw [hr] at hnx h81'
      have HNX : Hid (r = idxTo k x (i + 1)) := Lib.hid hr.symm
      have hq : m * k ≤ 81 * 3 := Nat.mul_le_mul (by omega) k3
      have hmk : ((m : Int) * (k : Int)) = ((m * k : Nat) : Int) := by rw [Int.natCast_mul]
      obtain ⟨q, hq0⟩ : ∃ q, m * k = q := ⟨_, rfl⟩
      rw [hq0] at hq hmk hnx
      have w1 : wrap64 ((m : Int) * (k : Int)) = (q : Int) := by
        rw [hmk]
        clear hnx h81 h81' hmk
        exact small_wrap (by omega)
      have w2 : wrap64 ((q : Int) + (x[i].toNat : Int)) = (q : Int) + (x[i].toNat : Int) := by
        clear hnx h81 h81' hmk w1
        exact small_wrap (by omega)
      have w3 : wrap64 ((q : Int) + (x[i].toNat : Int) - 97) = (r : Int) := by
        have e : (q : Int) + (x[i].toNat : Int) - 97 = (r : Int) := by clear w1 w2 h81 h81' hmk; omega
        rw [e]
        clear hnx h81 hmk w1 w2 e
        exact small_wrap (by omega)
      clear hnx hmk hq0 hr h81' hq hd1 hd2
      go_wp2
      go_quiet (fail)
      have hb0 := drewN_below (Below.refl W0.heap.size W0) nq
      have HB2 := Lib.hid (HB.out.trans (hb0.mono HB.out.size))
      have HC2 := Lib.hid (HC.out.below hb0)
      clear hb0
      go_wp2
      go_roundw
      case rel => exact ⟨i + 1, r, by omega, by go_num, by rw [w3], HNX, HB2, HC2⟩
      case measure => simp [intOf]; omega
    · obtain rfl : i = x.size := by omega
      have hm2 : m = idxB k x := hm.out
      have hmo : m < o.size := by rw [hm2]; exact HOI.out
      have HV : Hid (o.extract m (m + 1) = oneB (letterC k o x)) := Lib.hid (by rw [extract_one hmo, hm2]; rfl)
      have w1 : wrap64 ((m : Int) + 1) = (m : Int) + 1 := small_wrap (by omega)
      clear hm2
      go_wp2
      go_ret
      exact ⟨by simp [HV.out], HB.out⟩

set_option maxRecDepth 100000 in
set_option maxHeartbeats 800000 in
theorem spec_apply (k n : Nat) (o v : ByteArray) (hc : CodeOk k n o) (hv : v.size ≤ 1000) (ha : allL (k : Int) v = true) (w : World) :
    Calls Try.prog 68 #[.agg #[.int .i64 (k : Int), .int .i64 (n : Int), .string o], .string v] w (Says (.string (applied k n o v)) w) := by
  have HK := Lib.hid (codeIn_new w (k : Int) (n : Int) o)
  have HB0 := Lib.hid ((Below.refl w.heap.size w).alloc (Nat.le_refl _) (.cells #[.int .i64 (k : Int), .int .i64 (n : Int), .string o] 25))
  have HL : Hid (∀ i, i + n ≤ v.size → ∀ w', Calls Try.prog 78 #[.agg #[.int .i64 (k : Int), .int .i64 (n : Int), .string o], .string (v.extract i (i + n))] w' (Says (.string (oneB (letterC k o (v.extract i (i + n))))) w')) :=
    Lib.hid fun i hi w' => spec_letter k n o _ hc (cut_size hi) (extract_all ha _ _) w'
  have n1 := hc.n1
  have n4 := hc.n4
  clear hc
  go_enter Try.func68, Try.ntmps68
  go_wp2
  go_loopw [5, 6] (fun sv iv wr => ∃ i : Nat, i ≤ v.size + 1 - n ∧ iv = .int .i64 (i : Int) ∧ sv = .string (appTo k n o v i) ∧ Hid (Below w.heap.size w wr) ∧ Hid (CodeIn wr w.heap.size (k : Int) (n : Int) o)) (fun _ iv _ => v.size + 1 - n - (intOf iv).toNat)
  case atStart => exact ⟨0, Nat.zero_le _, rfl, rfl, HB0, HK⟩
  case round =>
    obtain ⟨i, hi, rfl, rfl, HB, HC⟩ := hrel
    clear HK HB0
    have c0 := HC.out.c0
    have c1 := HC.out.c1
    have c2 := HC.out.c2
    have hw : wrap64 ((i : Int) + (n : Int)) = (i : Int) + (n : Int) := small_wrap (by omega)
    by_cases hlt : i + n ≤ v.size
    · obtain ⟨W0, rfl⟩ : ∃ W0 : World, W0 = wr := ⟨_, rfl⟩
      have hs := appTo_size k n o v i
      have hnx := appTo_next k n o v i
      have HLI := Lib.hid (HL.out i hlt)
      obtain ⟨b, hb⟩ : ∃ b, letterC k o (v.extract i (i + n)) = b := ⟨_, rfl⟩
      rw [hb] at HLI hnx
      clear hb
      generalize appTo k n o v i = y at *
      have x8 : y.size + (oneB b).size ≤ 9223372036854775807 := by rw [oneB_size, hs]; omega
      have x9 : ∀ w, (Op.stringOp .add y (oneB b)).run Try.prog w = .ok (.string (y ++ oneB b)) w := fun w => run_string_add_sum w _ _ x8
      have HNX := Lib.hid hnx
      have g : (i : Int) + (n : Int) ≤ (v.size : Int) := by omega
      have h9 : i < v.size + 1 - n := by omega
      have j0 : (0 : Int) ≤ (i : Int) := by omega
      have j1 : (i : Int) ≤ (i : Int) + (n : Int) := by omega
      have hw2 : IntKind.i64.wrap ((i : Int) + (n : Int)) = (i : Int) + (n : Int) := by rw [IntKind.wrap_i64]; omega
      clear hs x8 hnx hi
      go_wp2
      go_region_held3 (fun w' => w'.cell? ⟨w.heap.size, 0, none⟩ = some (.int .i64 (k : Int)) ∧ w'.cell? ⟨w.heap.size, 1, none⟩ = some (.int .i64 (n : Int)) ∧ w'.cell? ⟨w.heap.size, 2, none⟩ = some (.string o)) (first | exact ⟨c0, c1, c2⟩ | exact ⟨d0, d1, d2⟩ | go_keep) (first | (go_at_call 78; refine (HLI.out _).mono ?_; rintro e w9 ⟨rfl, hb9⟩; have HB9 := Lib.hid ((drewN_below (Below.refl W0.heap.size W0) 1).trans hb9); have HC9 := Lib.hid (HC.out.below HB9.out); have d0 := HC9.out.c0; have d1 := HC9.out.c1; have d2 := HC9.out.c2; clear hb9))
      have HBN := Lib.hid (HB.out.trans (HB9.out.mono HB.out.size))
      go_wp2
      go_roundw
      case rel => exact ⟨i + 1, by omega, by go_num, by rw [HNX.out], HBN, HC9⟩
      case measure => simp [intOf]; omega
    · have g : ¬ (i : Int) + (n : Int) ≤ (v.size : Int) := by omega
      obtain rfl : i = v.size + 1 - n := by omega
      go_wp2
      go_ret
      exact ⟨by rfl, HB.out⟩
end Go.Proofs.Ytcoiodfggaanbaa
