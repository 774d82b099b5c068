/-
  The program's function value of a code: at every word, also a long one, the letters that the code gives to its parts; nothing that was there before is changed.
-/
import Derived.Test.YtcoiodfggaanbaaCodeI
import Derived.Test.YtcoiodfggaanbaaJoinNum
import Derived.Deep.AppendLies
namespace Go.Proofs.Ytcoiodfggaanbaa
open Go Go.RowKit

theorem infoU8 : (Try.prog.info? 5).map (fun i => (i.zero, i.size, i.bytes)) = some (some (.int .u8 0), 1, 1) := by kernel_rfl
theorem small_wrapI {x : Int} (h : -1000000 ≤ x ∧ x ≤ 1000000) : wrap64 x = x := by unfold wrap64; omega
theorem idxTo_leI {k n : Nat} {x : ByteArray} (hx : allL (k : Int) x = true) (hk : k ≤ 3) (hn : x.size = n) (h4 : n ≤ 4) {i : Nat} (hi : i ≤ n) : idxTo k x i < 81 := by
  have h := idxTo_lt hx i (by omega)
  have h1 : k ^ i ≤ 3 ^ i := Nat.pow_le_pow_left hk i
  have h2 : 3 ^ i ≤ 3 ^ 4 := Nat.pow_le_pow_right (by decide) (by omega)
  omega

set_option maxRecDepth 100000 in
set_option maxHeartbeats 400000 in
theorem impl_index (k n : Nat) (x : ByteArray) (k3 : k ≤ 3) (n4 : n ≤ 4) (hx : x.size = n) (ha : allL (k : Int) x = true) (w : World) :
    Calls Try.prog 122 #[.int .i64 (k : Int), .string x] w fun e w' => e = .returned (.int .i64 ((idxB k x : Nat) : Int)) ∧ w' = w := by
  have HA := Lib.hid ha
  have HX := Lib.hid hx
  have hx4 : x.size ≤ 4 := by omega
  have hxn : x.size ≤ n := by omega
  clear hx ha
  go_enter Try.func122, Try.ntmps122
  go_wp2
  go_loopw [5, 9] (fun nv iv wr => ∃ i m : Nat, i ≤ x.size ∧ iv = .int .i64 (i : Int) ∧ nv = .int .i64 (m : Int) ∧ Hid (m = idxTo k x i) ∧ wr = w) (fun _ iv _ => x.size - (intOf iv).toNat)
  case atStart => exact ⟨0, 0, Nat.zero_le _, rfl, rfl, Lib.hid rfl, rfl⟩
  case round =>
    obtain ⟨i, m, hi, rfl, rfl, hm, rfl⟩ := hrel
    by_cases hlt : i < x.size
    · have hb : x[i].toNat < 256 := x[i].toNat_lt
      obtain ⟨hd1, hd2⟩ := digit_lt (byteAt_all HA.out hlt)
      have h81 := idxTo_leI HA.out k3 HX.out n4 (i := i) (by omega)
      have h81' := idxTo_leI HA.out k3 HX.out n4 (i := i + 1) (by omega)
      rw [← hm.out] at h81
      have hnx : idxTo k x (i + 1) = m * k + (x[i].toNat - 97) := by rw [idxTo, ← hm.out, byteAt_is hlt]
      rw [byteAt_is hlt] at hd1 hd2
      obtain ⟨r, hr⟩ : ∃ r, idxTo k x (i + 1) = r := ⟨_, rfl⟩
      rw [hr] at hnx h81'
      have HNX : Hid (r = idxTo k x (i + 1)) := Lib.hid hr.symm
      have hq : m * k ≤ 81 * 3 := Nat.mul_le_mul (by omega) k3
      have hmk : ((m : Int) * (k : Int)) = ((m * k : Nat) : Int) := by rw [Int.natCast_mul]
      obtain ⟨q, hq0⟩ : ∃ q, m * k = q := ⟨_, rfl⟩
      rw [hq0] at hq hmk hnx
      have w1 : wrap64 ((m : Int) * (k : Int)) = (q : Int) := by
        rw [hmk]
        clear hnx h81 h81' hmk
        exact small_wrapI (by omega)
      have w3 : wrap64 ((q : Int) + ((x[i].toNat : Int) - 97)) = (r : Int) := by
        have e : (q : Int) + ((x[i].toNat : Int) - 97) = (r : Int) := by clear w1 h81 h81' hmk; omega
        rw [e]
        clear hnx h81 hmk w1 e
        exact small_wrapI (by omega)
      clear hnx hmk hq0 hr h81' hq hd2
      go_wp2
      go_roundw
      case rel => exact ⟨i + 1, r, by omega, by go_num, by rw [w3], HNX, trivial⟩
      case measure => simp [intOf]; omega
    · obtain rfl : i = x.size := by omega
      have HV : Hid (m = idxB k x) := hm
      go_wp2
      go_ret
      exact ⟨by simp [HV.out], rfl⟩

set_option maxRecDepth 100000 in
theorem impl_codingOf (K N : Int) (o : ByteArray) (w : World) :
    Calls Try.prog 99 #[.agg #[.int .i64 K, .int .i64 N, .string o]] w fun e w' => e = .returned (.func (.func 121) #[] #[.pointer (some ⟨w.heap.size, 0, none⟩)]) ∧ w' = w.alloc (.cells #[.int .i64 K, .int .i64 N, .string o] 25) := by
  go_enter Try.func99, Try.ntmps99
  go_wp2
  go_ret
  exact ⟨rfl, rfl⟩

set_option maxRecDepth 100000 in
set_option maxHeartbeats 1600000 in
theorem impl_coding (k n g : Nat) (o v : ByteArray) (hc : CodeOk k n o) (hv : v.size ≤ 1000) (ha : allL (k : Int) v = true) (w : World) (hg : CodeIn w g (k : Int) (n : Int) o) :
    Calls Try.prog 121 #[.string v, .pointer (some ⟨g, 0, none⟩)] w (Says (.string (applied k n o v)) w) := by
  obtain ⟨j0, hj, hy0, hy1, hy2⟩ := info_parts infoU8
  have HG := Lib.hid hg
  have c0 := hg.c0
  have c1 := hg.c1
  have c2 := hg.c2
  have HI : Hid (∀ i, i + n ≤ v.size → (∀ w', Calls Try.prog 122 #[.int .i64 (k : Int), .string (v.extract i (i + n))] w' fun e w'' => e = .returned (.int .i64 ((idxB k (v.extract i (i + n)) : Nat) : Int)) ∧ w'' = w') ∧ idxB k (v.extract i (i + n)) < o.size) :=
    Lib.hid fun i hi => ⟨fun w' => impl_index k n _ hc.k3 hc.n4 (cut_size hi) (extract_all ha _ _) w', letterC_ok hc (cut_size hi) (extract_all ha _ _)⟩
  have n1 := hc.n1
  have n4 := hc.n4
  clear hc ha hg
  have e1 : wrap64 ((v.size : Int) - (n : Int)) = (v.size : Int) - (n : Int) := small_wrapI (by omega)
  have e2 : wrap64 ((v.size : Int) - (n : Int) + 1) = (v.size : Int) - (n : Int) + 1 := small_wrapI (by omega)
  go_enter Try.func121, Try.ntmps121
  go_wp2
  go_loopw [4, 12] (fun cv iv wr => ∃ i : Nat, i ≤ v.size + 1 - n ∧ iv = .int .i64 (i : Int) ∧ Hid (wr.ownsRow w.heap.size 5 1 cv i (cellsB (appTo k n o v i).data.toList)) ∧ Hid (Below w.heap.size w wr)) (fun _ iv _ => v.size + 1 - n - (intOf iv).toNat)
  case atStart => exact ⟨0, Nat.zero_le _, rfl, Lib.hid (World.ownsRow_nil _ _ _ _), Lib.hid (Below.refl _ _)⟩
  case round =>
    obtain ⟨i, hi, rfl, HU, HB⟩ := hrel
    clear c0 c1 c2
    have hgk := HG.out.later HB.out HG.out.lt
    have c0 := hgk.c0
    have c1 := hgk.c1
    have c2 := hgk.c2
    by_cases hlt : i + n ≤ v.size
    · obtain ⟨hI0, hm⟩ := HI.out i hlt
      have hnx := appTo_next k n o v i
      have HB' : Hid (letterC k o (v.extract i (i + n)) = o[idxB k (v.extract i (i + n))]'hm) := Lib.hid (byteAt_is hm)
      obtain ⟨m, hm0⟩ : ∃ m, idxB k (v.extract i (i + n)) = m := ⟨_, rfl⟩
      have HNX : Hid (∀ hm : m < o.size, (appTo k n o v (i + 1)).data.toList = (appTo k n o v i).data.toList ++ [o[m]]) := Lib.hid fun hm => by
        rw [hnx, ba_append]
        subst hm0
        rw [HB'.out]; rfl
      rw [hm0] at hI0 hm
      have HII := Lib.hid hI0
      clear hI0 hm0 HB' hnx
      generalize appTo k n o v i = y at *
      have w1 : IntKind.i64.wrap ((i : Int) + (n : Int)) = (i : Int) + (n : Int) := by rw [IntKind.wrap_i64]; omega
      have g1 : (i : Int) < (v.size : Int) - (n : Int) + 1 := by omega
      have g2 : (i : Int) + (n : Int) ≤ (v.size : Int) := by omega
      have p0 : (0 : Int) ≤ (i : Int) := by omega
      have p1 : (i : Int) ≤ (i : Int) + (n : Int) := by omega
      have m0 : (0 : Int) ≤ (m : Int) := by omega
      have m1 : (m : Int) < (o.size : Int) := by omega
      have s4 := HB.out.size
      go_wp2
      go_region_held3 (fun w' => w'.cell? ⟨g, 0, none⟩ = some (.int .i64 (k : Int)) ∧ w'.cell? ⟨g, 1, none⟩ = some (.int .i64 (n : Int)) ∧ w'.cell? ⟨g, 2, none⟩ = some (.string o)) (first | exact ⟨c0, c1, c2⟩ | exact ⟨d0, d1, d2⟩ | go_keep) (first | (go_at_call 122; refine (HII.out _).mono ?_; rintro e w9 ⟨rfl, rfl⟩) | (refine step_append_lies _ (by rfl) _ _ _ (by rfl) w.heap.size 5 j0 _ 1 1 Try.underlying22 hj hy0 hy1 hy2 rfl (by omega) u4 i (cellsB y.data.toList) (by rfl) ((HU.out.alloc _).drew) ⟨wr.heap.size, 0, none⟩ 1 1 [.int .u8 (o[m].toNat : Int)] (by rfl) (by rfl) (World.news_of_block (cs := #[.int .u8 (o[m].toNat : Int)]) (t := 5) (fr := (0, 0)) (heap_alloc_new wr _)) (by simp [Value.oneCell']) (by omega) (by unfold maxLen; omega) (by omega) (by simp; omega) (wr.heap.size + 1) (by simp) ?_; intro gg cap w6 ho6 hg6 hat6 hlt6; have HBN := Lib.hid ((HB.out.alloc s4 _).drew.grown hg6 (by simp; omega) (fun q hq => (HU.out.lt q hq).1)); have hgk2 := HG.out.later HBN.out HG.out.lt; have d0 := hgk2.c0; have d1 := hgk2.c1; have d2 := hgk2.c2; have HO6 := Lib.hid ho6; clear ho6 hg6 hat6 hgk2))
      have HO7 : Hid (w6.ownsRow w.heap.size 5 1 (.slice (some ⟨gg, 0, none⟩) (i + 1) cap) (i + 1) (cellsB (appTo k n o v (i + 1)).data.toList)) := Lib.hid (by rw [HNX.out hm, ← cellsB_append]; exact HO6.out)
      go_wp2
      go_roundw
      case rel => exact ⟨i + 1, by omega, by go_num, HO7, HBN⟩
      case measure => simp [intOf]; omega
    · obtain rfl : i = v.size + 1 - n := by omega
      have g1 : ¬ ((v.size + 1 - n : Nat) : Int) < (v.size : Int) - (n : Int) + 1 := by omega
      have hu := HU.out
      have hl : (applied k n o v).data.toList.length = v.size + 1 - n := appTo_size _ _ _ _ _
      have hcv := conv_owned (P := Try.prog) Try.underlying22 Try.underlying5 Try.underlying9 (l := (applied k n o v).data.toList) (by rw [hl]; exact hu)
      rw [show (⟨(applied k n o v).data.toList.toArray⟩ : ByteArray) = applied k n o v by simp] at hcv
      clear hu hl
      generalize applied k n o v = y at *
      go_wp2
      go_ret
      exact ⟨rfl, HB.out⟩
end Go.Proofs.Ytcoiodfggaanbaa
