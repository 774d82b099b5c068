/-
  The model's count of sources by their last letters: as the plain rows say, in new memory; nothing that was there before is changed.
-/
import Derived.Test.YtcoiodfggaanbaaCountNum
import Derived.Test.YtcoiodfggaanbaaCodeSpecA
import Derived.Deep.AppendLies
import Derived.OwnWalk
import Derived.Deep.Onto
namespace Go.Proofs.Ytcoiodfggaanbaa
open Go Go.RowKit

theorem infoI64 : (Try.prog.info? 3).map (fun i => (i.zero, i.size, i.bytes)) = some (some (.int .i64 0), 1, 8) := by kernel_rfl
theorem made_rowN {w : World} {B g m : Nat} (h : w.ownsRow B 3 1 (.slice (some ⟨g, 0, none⟩) m m) m (madeCells (Value.int .i64 0).cells (m * 1)).toList) :
    w.ownsRow B 3 1 (.slice (some ⟨g, 0, none⟩) m m) m (rowN m fun _ => 0) := by
  have e : (madeCells (Value.int .i64 0).cells (m * 1)).toList = List.replicate m (.int .i64 0) := by rw [Nat.mul_one]; exact toList_madeCells_one _ _
  rw [e, rowN_zero] at h
  exact h
theorem own_below {w w' : World} {B e n S : Nat} {v : Value} {xs : List Value} (h : w.ownsRow B e 1 v n xs) (hb : Below S w w') (hv : ∀ g, v.ownBlock = some g → g < S) : w'.ownsRow B e 1 v n xs := by
  rcases h.2 with ⟨rfl, h0⟩ | ⟨g, cap, cur, rfl, h3, h4, h5⟩
  · exact ⟨h.1, .inl ⟨rfl, h0⟩⟩
  · have hg := hv g rfl
    refine ⟨h.1, .inr ⟨g, cap, cur, rfl, h3, ?_, h5⟩⟩
    rw [hb.block g hg]; exact h4

theorem owns_drewN {w : World} {B e n : Nat} {v : Value} {xs : List Value} (h : w.ownsRow B e 1 v n xs) (N : Nat) : (w.drewN N).ownsRow B e 1 v n xs :=
  own_below h (drewN_below (Below.refl w.heap.size w) N) (fun g hg => (h.lt g hg).2)
theorem place_wraps {K k X p0 p : Nat} (h0 : K * k = p0) (h1 : p0 + X = p) (hp : p ≤ 1000) :
    (wrap64 ((K : Int) * (k : Int)) = (p0 : Int) ∧ IntKind.i64.wrap ((K : Int) * (k : Int)) = (p0 : Int)) ∧ (wrap64 ((p0 : Int) + (X : Int)) = (p : Int) ∧ IntKind.i64.wrap ((p0 : Int) + (X : Int)) = (p : Int)) := by
  have hkk : ((K : Int) * (k : Int)) = (p0 : Int) := by rw [← h0, Int.natCast_mul]
  clear h0
  rw [hkk, IntKind.wrap_i64, IntKind.wrap_i64]
  refine ⟨⟨small_wrap (by omega), by omega⟩, ⟨?_, by omega⟩⟩
  rw [small_wrap (by omega)]; omega
theorem rem_is {p q t : Nat} (h : p % q = t) : Int.tmod (p : Int) (q : Int) = (t : Int) := by rw [← h]; exact (Int.ofNat_tmod p q).symm
def CountPost (q : Nat) (f : Nat → Nat) (w : World) (e : Ending) (w' : World) : Prop := ∃ r, e = .returned r ∧ w'.ownsRow w.heap.size 3 1 r q (rowN q f) ∧ Below w.heap.size w w'

set_option maxRecDepth 100000 in
set_option maxHeartbeats 6400000 in
theorem spec_counts (k n : Nat) (o v : ByteArray) (ok : CodeOk k n o) (hv : v.size ≤ 8) (ha : allL (k : Int) v = true) (w : World) :
    Calls Try.prog 62 #[.agg #[.int .i64 (k : Int), .int .i64 (n : Int), .string o], .string v] w (CountPost (k ^ (n - 1)) (fwdW k (k ^ (n - 1)) (outC o) (lw v) fun _ => 1) w) := by
  obtain ⟨j0, hj0, hy0, hy1, hy2⟩ := info_parts infoI64
  have n1 := ok.n1
  have n4 := ok.n4
  have k2 := ok.k2
  have k3 := ok.k3
  have HP := Lib.hid (fun w' => spec_codePow k (n - 1) k3 (by omega) w')
  have hqk : k ^ (n - 1) * k ≤ 27 := by rw [← pow_split n1]; exact ok.le
  have hos : o.size = k ^ (n - 1) * k := by rw [← pow_split n1]; exact ok.len
  have hq1 : 0 < k ^ (n - 1) := Nat.pow_pos (by omega)
  have HLW := Lib.hid (lw_length v)
  obtain ⟨q, hq⟩ : ∃ q, k ^ (n - 1) = q := ⟨_, rfl⟩
  rw [hq] at HP hqk hos hq1 ⊢
  clear hq
  have HSAME : Hid (∀ p i (hp : p < o.size) (hi : i < v.size), ((o[p].toNat : Int) == (v[i].toNat : Int)) = decide (outC o p = (lw v).getD i 0)) := Lib.hid fun p i hp hi => by
    rw [← byteAt_lw v i, ← byteAt_is hp, ← byteAt_is hi]
    exact same_letter (byteAt_all ok.all hp) (byteAt_all ha hi)
  have HBND : Hid (∀ i s, i ≤ v.size → fwdW k q (outC o) ((lw v).take i) (fun _ => 1) s ≤ 282429536481) := Lib.hid fun i s hi => by
    have h1 := fwdW_le (k := k) (q := q) (out := outC o) hqk ((lw v).take i) i (fun _ => 1) 1 (by rw [List.length_take, lw_length]; omega) (fun _ => Nat.le_refl _) s
    have h2 : 27 ^ i ≤ 27 ^ 8 := Nat.pow_le_pow_right (by decide) (by omega)
    have h3 : 27 ^ 8 = 282429536481 := by decide
    omega
  have HTAKE : Hid (∀ i, i < v.size → fwdW k q (outC o) ((lw v).take (i + 1)) (fun _ => 1) = fwdL k q (outC o) ((lw v).getD i 0) (fwdW k q (outC o) ((lw v).take i) fun _ => 1)) := Lib.hid fun i hi => fwdW_take (lw v) (by rw [lw_length]; omega) _
  have HFULL : Hid ((lw v).take v.size = lw v) := Lib.hid (by rw [← lw_length, List.take_length])
  have hk := codeIn_new w (k : Int) (n : Int) o
  have HK := Lib.hid hk
  have c0 := hk.c0
  have c1 := hk.c1
  have c2 := hk.c2
  have HB0 := Lib.hid ((Below.refl w.heap.size w).alloc (Nat.le_refl _) (.cells #[.int .i64 (k : Int), .int .i64 (n : Int), .string o] 25))
  have e1 : wrap64 ((n : Int) - 1) = ((n - 1 : Nat) : Int) := by rw [small_wrap (by omega)]; omega
  have e2 : IntKind.i64.wrap ((n : Int) - 1) = ((n - 1 : Nat) : Int) := by rw [IntKind.wrap_i64]; omega
  obtain ⟨m, hm⟩ : ∃ m, n - 1 = m := ⟨_, rfl⟩
  rw [hm] at HP e1 e2
  clear hk ok ha hm
  go_enter Try.func62, Try.ntmps62
  go_wp2_with fail
  refine (HP.out _).mono ?_
  rintro e w1 ⟨rfl, rfl⟩
  obtain ⟨W0, hW0⟩ : ∃ W0, w.alloc (.cells #[.int .i64 (k : Int), .int .i64 (n : Int), .string o] 25) = W0 := ⟨_, rfl⟩
  rw [hW0] at c0 c1 c2 HK HB0 ⊢
  clear hW0
  have hs0 := HB0.out.size
  have hs00 := HK.out.lt
  have HI0 := Lib.hid (World.ownsRow_made (base := W0.heap.size) (e := 3) (size := 1) W0 #[] 0 (Nat.le_refl _) (by unfold maxLen; omega) rfl)
  have q64 : q ≤ 27 := Nat.le_trans (Nat.le_mul_of_pos_right q (show 0 < k by omega)) hqk
  go_wp2
  go_loopw [6, 7] (fun u iv wr => ∃ j : Nat, j ≤ q ∧ iv = .int .i64 (j : Int) ∧ wr.ownsRow W0.heap.size 3 1 u j (rowN j fun _ => 1) ∧ Hid (Below W0.heap.size W0 wr)) (fun _ iv _ => q - (intOf iv).toNat)
  case atStart => exact ⟨0, Nat.zero_le _, rfl, HI0.out, Lib.hid ((Below.refl _ _).alloc (Nat.le_refl _) _)⟩
  case round =>
    obtain ⟨j, hj, rfl, hU, hb4⟩ := hrel
    by_cases hjq : j < q
    · have HU := Lib.hid hU
      have hs4 := hb4.out.size
      have hj2 : (j : Int) < (q : Int) := by omega
      clear hU
      go_wp2_with (at_builtin; refine wpList_append_lies _ rfl (.tmp 25) (.tmp 26) 68 rfl W0.heap.size 3 j0 (.int .i64 0) 1 8 Try.underlying68 hj0 hy0 hy1 hy2 rfl (by decide) _ _ _ rfl (HU.out.alloc _) ⟨wr.heap.size, 0, none⟩ 1 1 [.int .i64 1] rfl rfl (World.news_of_block (cs := #[.int .i64 1]) (t := 3) (fr := (0, 0)) (heap_alloc_new wr _)) (by simp [Value.oneCell']) (by decide) (by unfold maxLen; omega) (by omega) (by simp; omega) (wr.heap.size + 1) (by simp) ?_; intro gg cap w6 ho6 hg6 hat6 hlt6; have HM6 := Lib.hid (show w6.ownsRow W0.heap.size 3 1 (.slice (some ⟨gg, 0, none⟩) (j + 1) cap) (j + 1) (rowN (j + 1) fun _ => 1) by rw [← rowN_ones]; exact ho6); have HB6 := Lib.hid ((hb4.out.alloc hs4 _).grown hg6 (by simp; omega) fun q hq => (HU.out.lt q hq).1); clear ho6 hg6 hat6)
      go_wp2
      go_roundw
      case rel => exact ⟨j + 1, by omega, by go_num, HM6.out, HB6⟩
      case measure => simp [intOf]; omega
    · obtain rfl : q = j := by omega
      have HU := Lib.hid hU
      have HB4 := Lib.hid hb4.out
      clear hU hb4 HI0 hj hjq
      rcases HU.out.2 with ⟨hu, h0⟩ | ⟨g0, cap0, cur, rfl, _, _, _⟩
      · omega
      rename_i hx1 hx2 hx3
      clear hx1 hx2 hx3
      go_wp2
      go_loopw [6, 8] (fun uv iv wr => ∃ (i g cap : Nat), i ≤ v.size ∧ iv = .int .i64 (i : Int) ∧ uv = .slice (some ⟨g, 0, none⟩) q cap ∧ Hid (wr.ownsRow W0.heap.size 3 1 (.slice (some ⟨g, 0, none⟩) q cap) q (rowN q (fwdW k q (outC o) ((lw v).take i) fun _ => 1))) ∧ Hid (Below W0.heap.size W0 wr)) (fun _ iv _ => v.size - (intOf iv).toNat)
      case atStart => exact ⟨0, g0, cap0, Nat.zero_le _, rfl, rfl, HU, HB4⟩
      case round =>
        clear HU HB4 c0 c1 c2
        obtain ⟨i, g, cap, hi, rfl, rfl, HN, HB⟩ := hrel
        by_cases hlt : i < v.size
        · have HTK := Lib.hid (HTAKE.out i hlt)
          have HBD := Lib.hid (fun s => HBND.out i s hi)
          have HSM := Lib.hid (fun p hp => HSAME.out p i hp hlt)
          generalize fwdW k q (outC o) ((lw v).take i) (fun _ => 1) = F at *
          generalize (lw v).getD i 0 = c at *
          obtain ⟨W1, rfl⟩ : ∃ W1 : World, W1 = wr := ⟨_, rfl⟩
          have hgl := (HN.out.lt g rfl).2
          have hs1 := HB.out.size
          go_wp2_with (at_make; refine wpList_make_full _ rfl _ _ 68 rfl W1.heap.size 3 j0 (.int .i64 0) 1 Try.underlying68 hj0 hy0 hy1 .i64 .i64 _ _ q rfl rfl rfl rfl (by rw [hy2]; omega) (by unfold maxLen; omega) (Nat.le_refl _) ?_; intro w3 hown hgrow)
          have HO3 : Hid (w3.ownsRow W1.heap.size 3 1 (.slice (some ⟨W1.heap.size, 0, none⟩) q q) q (rowN q (fwdTo k q (outC o) c F 0 0))) := Lib.hid (made_rowN hown)
          have HB3 := Lib.hid ((Below.refl W1.heap.size W1).grown hgrow (Nat.le_refl _) (fun k hk => by cases hk))
          clear hown hgrow
          go_loopw [10] (fun kv wr => ∃ K : Nat, K ≤ q ∧ kv = .int .i64 (K : Int) ∧ Hid (wr.ownsRow W1.heap.size 3 1 (.slice (some ⟨W1.heap.size, 0, none⟩) q q) q (rowN q (fwdTo k q (outC o) c F K 0))) ∧ Hid (Below W1.heap.size W1 wr)) (fun kv _ => q - (intOf kv).toNat)
          case atStart => exact ⟨0, Nat.zero_le _, rfl, HO3, HB3⟩
          case round =>
            clear HO3 HB3
            obtain ⟨K, hK, rfl, HO, HBK⟩ := hrel
            by_cases hKq : K < q
            · obtain ⟨W2, rfl⟩ : ∃ W2 : World, W2 = wr := ⟨_, rfl⟩
              go_wp2
              go_loopw [11] (fun xv wr => ∃ X : Nat, X ≤ k ∧ xv = .int .i64 (X : Int) ∧ Hid (wr.ownsRow W1.heap.size 3 1 (.slice (some ⟨W1.heap.size, 0, none⟩) q q) q (rowN q (fwdTo k q (outC o) c F K X))) ∧ Hid (Below W1.heap.size W1 wr)) (fun xv _ => k - (intOf xv).toNat)
              case atStart => exact ⟨0, Nat.zero_le _, rfl, HO, HBK⟩
              case round =>
                clear HO HBK
                obtain ⟨X, hX, rfl, HO, HBK⟩ := hrel
                have hcode := HK.out.below (HB.out.trans (HBK.out.mono hs1))
                have c0 := hcode.c0
                have c1 := hcode.c1
                have c2 := hcode.c2
                clear hcode
                by_cases hXk : X < k
                · have hpl := place_lt hKq hXk
                  rw [← hos] at hpl
                  have hNOT := Lib.hid (fun h t => fwdTo_not (k := k) (q := q) (out := outC o) (c := c) (K := K) (X := X) F h t)
                  have hPUT := Lib.hid (fun h => fwdTo_put (k := k) (q := q) (out := outC o) (c := c) (K := K) (X := X) F h)
                  have hELSE := Lib.hid (fun t h => fwdTo_else (k := k) (q := q) (out := outC o) (c := c) (K := K) (X := X) (t := t) F h)
                  have hLE := Lib.hid (fun t => fwdTo_le (k := k) (q := q) (out := outC o) c F HBD.out K X t)
                  have hFK := HBD.out K
                  have hml := Nat.mod_lt (K * k + X) hq1
                  obtain ⟨p0, hp0⟩ : ∃ p0, K * k = p0 := ⟨_, rfl⟩
                  rw [hp0] at hpl hNOT hPUT hELSE hLE hml
                  obtain ⟨p, hp⟩ : ∃ p, p0 + X = p := ⟨_, rfl⟩
                  rw [hp] at hpl hNOT hPUT hELSE hLE hml
                  have hp27 : p ≤ 27 := Nat.le_of_lt (Nat.lt_of_lt_of_le hpl (by rw [hos]; exact hqk))
                  obtain ⟨⟨w1, w1b⟩, ⟨w2, w2b⟩⟩ := place_wraps hp0 hp (Nat.le_trans hp27 (by decide))
                  obtain ⟨t, ht⟩ : ∃ t, p % q = t := ⟨_, rfl⟩
                  rw [ht] at hPUT hELSE hml
                  have htm := rem_is ht
                  have m0 : (0 : Int) ≤ (p : Int) := Int.natCast_nonneg p
                  have m1 : (p : Int) < (o.size : Int) := Int.ofNat_lt.2 hpl
                  have hq0 : ((q : Int) == 0) = false := by rw [beq_eq_false_iff_ne]; exact Int.ofNat_ne_zero.2 (Nat.pos_iff_ne_zero.1 hq1)
                  have htq : (t : Int) < (q : Int) := Int.ofNat_lt.2 hml
                  have ht0 : (0 : Int) ≤ (t : Int) := Int.natCast_nonneg t
                  have hsm := HSM.out p hpl
                  clear hp0 hp ht hos hqk
                  by_cases hc : outC o p = c
                  · rw [decide_eq_true hc] at hsm
                    have HPUT := Lib.hid (hPUT.out hc)
                    have hle := hLE.out t
                    have hpb : p * 282429536481 ≤ 27 * 282429536481 := Nat.mul_le_mul_right _ hp27
                    have kc := (HO.out.cellAt t (by rw [Nat.mul_one]; exact hml)).trans (rowN_at _ hml)
                    have kf := HO.out.frozenAt t
                    have kn := (HBK.out.cell (p := ⟨g, K, none⟩) hgl).trans ((HN.out.cellAt K (by rw [Nat.mul_one]; exact hKq)).trans (rowN_at _ hKq))
                    have HS : Hid (∀ N, ((wr.drewN N).setCell ⟨W1.heap.size, t, none⟩ (.int .i64 ((fwdTo k q (outC o) c F K X t : Int) + (F K : Int)))).ownsRow W1.heap.size 3 1 (.slice (some ⟨W1.heap.size, 0, none⟩) q q) q (rowN q (fwdTo k q (outC o) c F K (X + 1)))) := Lib.hid fun N => by
                      have hst := ((owns_drewN HO.out N).stored t (.int .i64 (((fwdTo k q (outC o) c F K X t + F K : Nat) : Int)))).1
                      rw [← HPUT.out, rowN_set (g := fwdTo k q (outC o) c F K (X + 1)) (fun t' _ h => hELSE.out t' h), HPUT.out, Int.natCast_add] at hst
                      exact hst
                    have HBN : Hid (∀ N, Below W1.heap.size W1 ((wr.drewN N).setCell ⟨W1.heap.size, t, none⟩ (.int .i64 ((fwdTo k q (outC o) c F K X t : Int) + (F K : Int))))) := Lib.hid fun N => (drewN_below HBK.out N).setCell (Nat.le_refl _) _
                    clear hPUT hELSE hNOT hLE HPUT
                    generalize fwdTo k q (outC o) c F K X t = T at *
                    generalize F K = Y at *
                    have hT : (T : Int) ≤ 7625597484987 := Int.ofNat_le.2 (Nat.le_trans hle hpb)
                    have hY : (Y : Int) ≤ 282429536481 := Int.ofNat_le.2 hFK
                    clear hle hpb hFK hc
                    go_wp2
                    go_quiet (fail)
                    go_wp2
                    go_region
                    go_wp2
                    go_roundw
                    case rel => exact ⟨X + 1, by omega, by go_num, Lib.hid (HS.out _), Lib.hid (HBN.out _)⟩
                    case measure => simp [intOf]; omega
                  · rw [decide_eq_false hc] at hsm
                    have HE := Lib.hid (rowN_congr (q := q) fun t _ => (hNOT.out hc t).symm)
                    clear hPUT hELSE hNOT hLE hFK hc
                    go_wp2
                    go_quiet (fail)
                    go_wp2
                    go_roundw
                    case rel => exact ⟨X + 1, by omega, by go_num, Lib.hid (by rw [← HE.out]; exact owns_drewN HO.out _), Lib.hid (drewN_below HBK.out _)⟩
                    case measure => simp [intOf]; omega
                · obtain rfl : X = k := by omega
                  have HE := Lib.hid (rowN_congr (q := q) fun t _ => fwdTo_row (k := X) (q := q) (out := outC o) c F K t)
                  go_wp2
                  go_roundw
                  case rel => exact ⟨K + 1, by omega, by go_num, Lib.hid (by rw [← HE.out]; exact HO.out), HBK⟩
                  case measure => simp [intOf]; omega
            · obtain rfl : q = K := by omega
              have HO5 : Hid (wr.ownsRow W0.heap.size 3 1 (.slice (some ⟨W1.heap.size, 0, none⟩) q q) q (rowN q (fwdW k q (outC o) ((lw v).take (i + 1)) fun _ => 1))) := Lib.hid (by rw [HTK.out]; exact World.ownsRow.mono HO.out hs1)
              go_wp2
              go_roundw
              case rel => exact ⟨i + 1, _, _, by omega, by go_num, rfl, HO5, Lib.hid (HB.out.trans (HBK.out.mono hs1))⟩
              case measure => simp [intOf]; omega
        · obtain rfl : i = v.size := by omega
          go_wp2
          go_ret
          exact ⟨_, rfl, by rw [← HFULL.out]; exact World.ownsRow.mono HN.out hs0, HB0.out.trans (HB.out.mono hs0)⟩
end Go.Proofs.Ytcoiodfggaanbaa
