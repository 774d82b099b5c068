/-
  The model's TwinsOf: as the plain words say; nothing that was there before is changed.
-/
import Derived.Test.YtlncehnbdhkaoaaTwinNum
import Derived.Test.YtlncehnbdhkaoaaCodeSpecB
import Derived.Test.YtlncehnbdhkaoaaAllW
import Derived.Test.YtlncehnbdhkaoaaWordsOf
import Derived.Test.YtlncehnbdhkaoaaLangNum
import Derived.Lib.AtoiErrMem
namespace Go.Proofs.Ytlncehnbdhkaoaa
open Go Go.RowKit

theorem sub_wraps {x e : Nat} (h : e ≤ x) (hx : x ≤ 1000) : wrap64 ((x : Int) - (e : Int)) = ((x - e : Nat) : Int) ∧ IntKind.i64.wrap ((x : Int) - (e : Int)) = ((x - e : Nat) : Int) := by
  rw [IntKind.wrap_i64]
  refine ⟨?_, by omega⟩
  rw [small_wrap (by omega)]; omega
theorem one_wraps {x : Nat} (hx : x ≤ 1000) : wrap64 ((x : Int) + 1) = (x : Int) + 1 ∧ IntKind.i64.wrap ((x : Int) + 1) = (x : Int) + 1 := by
  rw [IntKind.wrap_i64]
  exact ⟨small_wrap (by omega), by omega⟩
/-- None of the places between fits. -/
def NoneTo (R : Nat → Nat → Bool) (i j : Nat) : Prop := ∀ y, i < y → y < j → R i y = false

set_option maxRecDepth 100000 in
set_option maxHeartbeats 3200000 in
theorem spec_twin (k n L i g cap : Nat) (o : ByteArray) (ps : List ByteArray) (ok : CodeOk k n o) (hL : n ≤ L) (hL9 : L ≤ 9) (hl : ps.length ≤ 729) (hz : ∀ x ∈ ps, x.size = L ∧ allL (k : Int) x = true) (hi : i < ps.length) (W : World) (hs : StrsAt W g 0 ps) (hg : g < W.heap.size) :
    Calls Try.prog 49 #[.agg #[.int .i64 (k : Int), .int .i64 (n : Int), .string o], .slice (some ⟨g, 0, none⟩) ps.length cap, .int .i64 (i : Int)] W
      (Says (.tuple #[.string (optS ((behindJ (twL k n o ps) ps.length i).map fun j => ps.getD j ByteArray.empty)), .bool (behindJ (twL k n o ps) ps.length i).isSome]) W) := by
  have hk := codeIn_new W (k : Int) (n : Int) o
  have HK := Lib.hid hk
  have c0 := hk.c0
  have c1 := hk.c1
  have c2 := hk.c2
  have hb0 := (Below.refl W.heap.size W).alloc (Nat.le_refl _) (.cells #[.int .i64 (k : Int), .int .i64 (n : Int), .string o] 25)
  have HB0 := Lib.hid hb0
  have HS := Lib.hid hs
  have hu := hs i hi
  rw [Nat.zero_add] at hu
  have hu1 := (hb0.cell (p := ⟨g, i, none⟩) hg).trans hu
  have hzu := hz _ (getD_mem hi)
  have n1 := ok.n1
  have n4 := ok.n4
  have HAP := Lib.hid (fun x (hx : x.size ≤ 1000) (ha : allL (k : Int) x = true) w' => spec_apply k n o x ok hx ha w')
  have HZ := Lib.hid hz
  have HSOME := Lib.hid (fun j (hj : j < ps.length) (hij : i < j) (h : twL k n o ps i j = true) (h0 : NoneTo (twL k n o ps) i j) => behind_some (m := ps.length) hj hij h h0)
  have HNONE := Lib.hid (fun (h0 : NoneTo (twL k n o ps) i ps.length) => behind_none h0)
  obtain ⟨e1, e1b⟩ := sub_wraps (x := n) (e := 1) n1 (by omega)
  obtain ⟨e2, e2b⟩ := one_wraps (x := i) (by omega)
  have HTW : Hid (∀ j, twL k n o ps i j = ((((ps.getD i ByteArray.empty).extract 0 (n - 1)).toList == ((ps.getD j ByteArray.empty).extract 0 (n - 1)).toList && ((ps.getD i ByteArray.empty).extract ((ps.getD i ByteArray.empty).size - (n - 1)) (ps.getD i ByteArray.empty).size).toList == ((ps.getD j ByteArray.empty).extract ((ps.getD j ByteArray.empty).size - (n - 1)) (ps.getD j ByteArray.empty).size).toList) && (applied k n o (ps.getD i ByteArray.empty)).toList == (applied k n o (ps.getD j ByteArray.empty)).toList)) := Lib.hid fun j => rfl
  obtain ⟨u, huu⟩ : ∃ u, ps.getD i ByteArray.empty = u := ⟨_, rfl⟩
  rw [huu] at hu1 hzu HTW
  have HAU := Lib.hid (HAP.out u (by omega) hzu.2)
  obtain ⟨s1, s1b⟩ := sub_wraps (x := u.size) (e := n - 1) (by omega) (by omega)
  have hun : n - 1 ≤ u.size := by omega
  obtain ⟨q, hq⟩ : ∃ q, n - 1 = q := ⟨_, rfl⟩
  rw [hq] at e1 e1b s1 s1b hun HTW
  have e1c : wrap64 ((n : Int) - 1) = (q : Int) := e1
  have e1d : IntKind.i64.wrap ((n : Int) - 1) = (q : Int) := e1b
  obtain ⟨d, hd⟩ : ∃ d, u.size - q = d := ⟨_, rfl⟩
  rw [hd] at s1 s1b
  have hdu : d ≤ u.size := by omega
  have HTW2 : Hid (∀ j, twL k n o ps i j = (((u.extract 0 q).toList == ((ps.getD j ByteArray.empty).extract 0 q).toList && (u.extract d u.size).toList == ((ps.getD j ByteArray.empty).extract ((ps.getD j ByteArray.empty).size - q) (ps.getD j ByteArray.empty).size).toList) && (applied k n o u).toList == (applied k n o (ps.getD j ByteArray.empty)).toList)) := Lib.hid fun j => by rw [← hd]; exact HTW.out j
  have q0 : (0 : Int) ≤ (q : Int) := Int.natCast_nonneg q
  have q1 : (q : Int) ≤ (u.size : Int) := Int.ofNat_le.2 hun
  have d0' : (0 : Int) ≤ (d : Int) := Int.natCast_nonneg d
  have d1' : (d : Int) ≤ (u.size : Int) := Int.ofNat_le.2 hdu
  have hi0 : (0 : Int) ≤ (i : Int) := Int.natCast_nonneg i
  have hi1 : (i : Int) < (ps.length : Int) := Int.ofNat_lt.2 hi
  have HUZ := Lib.hid hzu
  clear hk hb0 hs hz ok hq hd e1 e1b huu hu HTW hzu hun hdu
  go_enter Try.func49, Try.ntmps49
  go_wp2
  go_loopw [10] (fun jv wr => ∃ j : Nat, i + 1 ≤ j ∧ j ≤ ps.length ∧ jv = .int .i64 (j : Int) ∧ Hid (NoneTo (twL k n o ps) i j) ∧ Hid (Below W.heap.size W wr) ∧ Hid (CodeIn wr W.heap.size (k : Int) (n : Int) o)) (fun jv _ => ps.length - (intOf jv).toNat)
  case atStart => exact ⟨i + 1, Nat.le_refl _, hi, by go_num, Lib.hid (fun y h1 h2 => by omega), HB0, HK⟩
  case round =>
    clear c0 c1 c2 hu1
    obtain ⟨j, hij, hj, rfl, HNO, HB, HC⟩ := hrel
    by_cases hlt : j < ps.length
    · have c0 := HC.out.c0
      have c1 := HC.out.c1
      have c2 := HC.out.c2
      have kx := (HS.out.below HB.out hg) j hlt
      rw [Nat.zero_add] at kx
      have hzv := HZ.out _ (getD_mem hlt)
      have HNX : Hid (twL k n o ps i j = false → NoneTo (twL k n o ps) i (j + 1)) := Lib.hid fun e y h1 h2 => by
        by_cases e2 : y = j
        · subst e2; exact e
        · exact HNO.out y h1 (by omega)
      have HRS : Hid (twL k n o ps i j = true → behindJ (twL k n o ps) ps.length i = some j) := Lib.hid fun e => HSOME.out j hlt (by omega) e HNO.out
      have HT := Lib.hid (HTW2.out j)
      have HGV : Hid (ps.getD j ByteArray.empty = ps.getD j ByteArray.empty) := Lib.hid rfl
      obtain ⟨v, hv⟩ : ∃ v, ps.getD j ByteArray.empty = v := ⟨_, rfl⟩
      have HV := Lib.hid hv
      rw [hv] at kx hzv HT
      have HUV : Hid (∀ x, x = u ∨ x = v → ∀ w', Calls Try.prog 56 #[.agg #[.int .i64 (k : Int), .int .i64 (n : Int), .string o], .string x] w' (Says (.string (applied k n o x)) w')) := Lib.hid fun x hx w' => by
        rcases hx with rfl | rfl
        · exact HAU.out w'
        · exact HAP.out _ (by omega) hzv.2 w'
      obtain ⟨t1, t1b⟩ := sub_wraps (x := v.size) (e := q) (by have := HUZ.out.1; omega) (by omega)
      have hqv : q ≤ v.size := by have := HUZ.out.1; omega
      obtain ⟨f, hf⟩ : ∃ f, v.size - q = f := ⟨_, rfl⟩
      rw [hf] at t1 t1b HT
      have hfv : f ≤ v.size := by omega
      have q2 : (q : Int) ≤ (v.size : Int) := Int.ofNat_le.2 hqv
      have f0 : (0 : Int) ≤ (f : Int) := Int.natCast_nonneg f
      have f1 : (f : Int) ≤ (v.size : Int) := Int.ofNat_le.2 hfv
      have hj0 : (0 : Int) ≤ (j : Int) := Int.natCast_nonneg j
      have hj1 : (j : Int) < (ps.length : Int) := Int.ofNat_lt.2 hlt
      have hms : ps.length - (j + 1) < ps.length - j := by omega
      generalize twL k n o ps i j = tw at *
      clear hv hf hzv hqv hfv HGV
      obtain ⟨W0, rfl⟩ : ∃ W0 : World, W0 = wr := ⟨_, rfl⟩
      cases h1 : ((u.extract 0 q).toList == (v.extract 0 q).toList) with
      | false =>
        rw [h1] at HT
        have HN := Lib.hid (HNX.out HT.out)
        go_wp2
        go_quiet (fail)
        have HBq := Lib.hid (drewN_below HB.out nq)
        have HCq := Lib.hid (HC.out.below (drewN_below (Below.refl _ _) nq))
        go_wp2
        go_roundw
        case rel => exact ⟨j + 1, Nat.le_succ_of_le hij, hlt, by go_num, HN, HBq, HCq⟩
        case measure => clear hij hj hj0 hj1 f0 f1 q0 q1 q2 d0' d1' hi0 hi1 s1 s1b t1 t1b e1c e1d e2 e2b; simp [intOf]; omega
      | true =>
        rw [h1, Bool.true_and] at HT
        cases h2 : ((u.extract d u.size).toList == (v.extract f v.size).toList) with
        | false =>
          rw [h2] at HT
          have HN := Lib.hid (HNX.out HT.out)
          go_wp2
          go_quiet (fail)
          have HBq := Lib.hid (drewN_below HB.out nq)
          have HCq := Lib.hid (HC.out.below (drewN_below (Below.refl _ _) nq))
          go_wp2
          go_roundw
          case rel => exact ⟨j + 1, Nat.le_succ_of_le hij, hlt, by go_num, HN, HBq, HCq⟩
          case measure => clear hij hj hj0 hj1 f0 f1 q0 q1 q2 d0' d1' hi0 hi1 s1 s1b t1 t1b e1c e1d e2 e2b; simp [intOf]; omega
        | true =>
          rw [h2, Bool.true_and] at HT
          go_wp2
          go_region_held3 (fun w' => w'.cell? ⟨W.heap.size, 0, none⟩ = some (.int .i64 (k : Int)) ∧ w'.cell? ⟨W.heap.size, 1, none⟩ = some (.int .i64 (n : Int)) ∧ w'.cell? ⟨W.heap.size, 2, none⟩ = some (.string o)) (first | exact ⟨c0, c1, c2⟩ | exact ⟨d0, d1, d2⟩ | exact ⟨b0, b1, b2⟩ | go_keep) ((go_at_call 56; refine (HUV.out _ (by first | exact Or.inl rfl | exact Or.inr rfl) _).mono ?_; rintro e w8 ⟨rfl, hb8⟩; (first | (have HC9 := Lib.hid (HC8.out.below hb8); have HB9 := Lib.hid (HB8.out.trans (hb8.mono HB8.out.size)); have b0 := HC9.out.c0; have b1 := HC9.out.c1; have b2 := HC9.out.c2) | (have HC8 := Lib.hid (HC.out.below ((drewN_below (Below.refl W0.heap.size W0) 1).trans hb8)); have HB8 := Lib.hid (HB.out.trans (((drewN_below (Below.refl W0.heap.size W0) 1).trans hb8).mono HB.out.size)); have d0 := HC8.out.c0; have d1 := HC8.out.c1; have d2 := HC8.out.c2)); clear hb8))
          cases h3 : ((applied k n o u).toList == (applied k n o v).toList) with
          | false =>
            have HN := Lib.hid (HNX.out (HT.out.trans h3))
            go_wp2
            go_roundw
            case rel => exact ⟨j + 1, Nat.le_succ_of_le hij, hlt, by go_num, HN, HB9, HC9⟩
            case measure => clear hij hj hj0 hj1 f0 f1 q0 q1 q2 d0' d1' hi0 hi1 s1 s1b t1 t1b e1c e1d e2 e2b; simp [intOf]; omega
          | true =>
            have HR := Lib.hid (HRS.out (HT.out.trans h3))
            go_wp2
            go_ret2
            exact ⟨by rw [HR.out]; show _ = Ending.returned (.tuple #[.string (ps.getD j ByteArray.empty), .bool true]); rw [HV.out]; rfl, HB9.out⟩
    · obtain rfl : j = ps.length := by omega
      have HR := Lib.hid (HNONE.out HNO.out)
      go_wp2
      go_ret2
      exact ⟨by rw [HR.out]; rfl, HB.out⟩
end Go.Proofs.Ytlncehnbdhkaoaa
