/-
  The model's steps of pairs: the rows that the plain words say, in new memory; nothing that was there before is changed.
-/
import Derived.Test.YtcoiodfggaanbaaStepsNum
import Derived.Test.YtcoiodfggaanbaaRowPut
import Derived.Deep.RegionHeld3
namespace Go.Proofs.Ytcoiodfggaanbaa
open Go Go.RowKit

theorem low_wraps {n : Nat} (h : n ≤ 1000) : IntKind.i64.wrap ((n : Int) + 1) = (n : Int) + 1 := by rw [IntKind.wrap_i64]; omega

set_option maxRecDepth 100000 in
set_option maxHeartbeats 1600000 in
theorem spec_steps (k n : Nat) (o : ByteArray) (ok : CodeOk k n o) (w : World) :
    Calls Try.prog 70 #[.agg #[.int .i64 (k : Int), .int .i64 (n : Int), .string o]] w (NewGS (stepsL k (k ^ (n - 1)) (outC o) (k ^ (n - 1) * k ^ (n - 1))) w) := by
  obtain ⟨i0, hi, hz0, hz1, hz2⟩ := info_parts infoSlP
  obtain ⟨j0, hj0, hy0, hy1, hy2⟩ := info_parts infoI64
  have n1 := ok.n1
  have n4 := ok.n4
  have k2 := ok.k2
  have k3 := ok.k3
  have HP := Lib.hid (fun w' => spec_codePow k (n - 1) k3 (by omega) w')
  have hqk : k ^ (n - 1) * k ≤ 27 := by rw [← pow_split n1]; exact ok.le
  have hos : o.size = k ^ (n - 1) * k := by rw [← pow_split n1]; exact ok.len
  have hq1 : 0 < k ^ (n - 1) := Nat.pow_pos (by omega)
  obtain ⟨q, hq⟩ : ∃ q, k ^ (n - 1) = q := ⟨_, rfl⟩
  rw [hq] at HP hqk hos hq1 ⊢
  clear hq
  have q13 : q ≤ 13 := by
    have h : q * 2 ≤ q * k := Nat.mul_le_mul_left _ k2
    omega
  have HSAME : Hid (∀ p p' (hp : p < o.size) (hi : p' < o.size), ((o[p].toNat : Int) == (o[p'].toNat : Int)) = decide (outC o p = outC o p')) := Lib.hid fun p i hp hi => by
    have h := same_letter (byteAt_all ok.all hp) (byteAt_all ok.all hi)
    rw [byteAt_is hp, byteAt_is hi] at h
    unfold outC
    rw [byteAt_is hp, byteAt_is hi]; exact h
  have hk := codeIn_new w (k : Int) (n : Int) o
  have HK := Lib.hid hk
  have c0 := hk.c0
  have c1 := hk.c1
  have HB0 := Lib.hid ((Below.refl w.heap.size w).alloc (Nat.le_refl _) (.cells #[.int .i64 (k : Int), .int .i64 (n : Int), .string o] 25))
  have e1 : wrap64 ((n : Int) - 1) = ((n - 1 : Nat) : Int) := by rw [small_wrap (by omega)]; omega
  have e2 : IntKind.i64.wrap ((n : Int) - 1) = ((n - 1 : Nat) : Int) := by rw [IntKind.wrap_i64]; omega
  obtain ⟨m, hm⟩ : ∃ m, n - 1 = m := ⟨_, rfl⟩
  rw [hm] at HP e1 e2
  clear hk ok hm
  go_enter Try.func70, Try.ntmps70
  go_wp2_with fail
  refine (HP.out _).mono ?_
  rintro e w1 ⟨rfl, rfl⟩
  obtain ⟨W0, hW0⟩ : ∃ W0, w.alloc (.cells #[.int .i64 (k : Int), .int .i64 (n : Int), .string o] 25) = W0 := ⟨_, rfl⟩
  rw [hW0] at c0 c1 HK HB0 ⊢
  clear hW0
  have hs0 := HB0.out.size
  have hs00 := HK.out.lt
  have HI0 := Lib.hid (World.ownsRow_made (base := W0.heap.size) (e := 68) (size := 1) W0 #[] 0 (Nat.le_refl _) (by unfold maxLen; omega) rfl)
  go_wp2
  go_loopw [4, 5] (fun v uv wr => ∃ (U : Nat) (vs : List Value), U ≤ q ∧ uv = .int .i64 (U : Int) ∧ Hid (wr.ownsRow W0.heap.size 68 1 v (stepsL k q (outC o) (U * q)).length vs) ∧ Hid (RowsOwn wr W0.heap.size v.ownBlock vs (stepsL k q (outC o) (U * q))) ∧ Hid (Below W0.heap.size W0 wr)) (fun _ uv _ => q - (intOf uv).toNat)
  case atStart => exact ⟨0, [], Nat.zero_le _, rfl, Lib.hid (by rw [Nat.zero_mul]; exact HI0.out), Lib.hid (by rw [Nat.zero_mul]; exact RowsOwn.nil _ _ _), Lib.hid ((Below.refl _ _).alloc (Nat.le_refl _) _)⟩
  case round =>
    obtain ⟨U, vs, hU, rfl, HO, HR, HB⟩ := hrel
    clear c0 c1
    by_cases hUq : U < q
    · go_wp2
      go_loopw [4, 6] (fun v vv wr => ∃ (V : Nat) (vs : List Value), V ≤ q ∧ vv = .int .i64 (V : Int) ∧ Hid (wr.ownsRow W0.heap.size 68 1 v (stepsL k q (outC o) (U * q + V)).length vs) ∧ Hid (RowsOwn wr W0.heap.size v.ownBlock vs (stepsL k q (outC o) (U * q + V))) ∧ Hid (Below W0.heap.size W0 wr)) (fun _ vv _ => q - (intOf vv).toNat)
      case atStart => exact ⟨0, vs, Nat.zero_le _, rfl, HO, HR, HB⟩
      case round =>
        clear HO HR HB vs
        obtain ⟨V, vs, hV, rfl, HO, HR, HB⟩ := hrel
        by_cases hVq : V < q
        · have HDIV : Hid ((U * q + V) / q = U) := Lib.hid (pair_div hVq)
          have HMOD : Hid ((U * q + V) % q = V) := Lib.hid (pair_mod hVq)
          have HSN := Lib.hid (stepsL_next k q (outC o) (U * q + V))
          have hpl2 := pair_lt (q := q) hUq hVq
          have hqq : q * q ≤ 13 * 13 := Nat.mul_le_mul q13 q13
          have HSL := Lib.hid (stepsL_len k q (outC o) (U * q + V))
          have HROW : Hid (rowC k q (outC o) (U * q + V) = rowR k q (outC o) U V k 0) := Lib.hid (by unfold rowC; rw [HDIV.out, HMOD.out])
          obtain ⟨c, hc⟩ : ∃ c, U * q + V = c := ⟨_, rfl⟩
          have HC := Lib.hid hc
          rw [hc] at HSN hpl2 HSL HROW HO HR
          clear hc HDIV HMOD
          generalize stepsL k q (outC o) c = st at *
          have hstl : st.length ≤ 200 := by have := HSL.out; omega
          obtain ⟨W1, rfl⟩ : ∃ W1 : World, W1 = wr := ⟨_, rfl⟩
          have hs1 := HB.out.size
          have HI1 := Lib.hid (World.ownsRow_made (base := W1.heap.size) (e := 3) (size := 1) W1 #[] 0 (Nat.le_refl _) (by unfold maxLen; omega) rfl)
          go_wp2
          go_loopw [7, 8] (fun xv kv wr => ∃ X : Nat, X ≤ k ∧ kv = .int .i64 (X : Int) ∧ Hid (wr.ownsRow W1.heap.size 3 1 xv (rowR k q (outC o) U V X 0).length ((rowR k q (outC o) U V X 0).map (Value.int .i64))) ∧ Hid (Below W1.heap.size W1 wr)) (fun _ kv _ => k - (intOf kv).toNat)
          case atStart => exact ⟨0, Nat.zero_le _, rfl, Lib.hid (by rw [rowR_zero]; exact HI1.out), Lib.hid ((Below.refl _ _).alloc (Nat.le_refl _) _)⟩
          case round =>
            clear HI1
            obtain ⟨X, hX, rfl, HXO, HXB⟩ := hrel
            have hcode := HK.out.below (HB.out.trans (HXB.out.mono hs1))
            have c0 := hcode.c0
            clear hcode
            by_cases hXk : X < k
            · go_wp2
              go_loopw [7, 9] (fun xv yv wr => ∃ Y : Nat, Y ≤ k ∧ yv = .int .i64 (Y : Int) ∧ Hid (wr.ownsRow W1.heap.size 3 1 xv (rowR k q (outC o) U V X Y).length ((rowR k q (outC o) U V X Y).map (Value.int .i64))) ∧ Hid (Below W1.heap.size W1 wr)) (fun _ yv _ => k - (intOf yv).toNat)
              case atStart => exact ⟨0, Nat.zero_le _, rfl, HXO, HXB⟩
              case round =>
                clear HXO HXB c0
                obtain ⟨Y, hY, rfl, HXO, HXB⟩ := hrel
                have hcode := HK.out.below (HB.out.trans (HXB.out.mono hs1))
                have c0 := hcode.c0
                have c2 := hcode.c2
                have HCODE := Lib.hid hcode
                clear hcode
                by_cases hYk : Y < k
                · have hp1 := lt_place (k := k) hUq hXk
                  have hp2 := lt_place (k := k) hVq hYk
                  rw [← hos] at hp1 hp2
                  have hlen := rowR_len (k := k) (q := q) (out := outC o) U V Y X
                  have hkk : X * k ≤ 3 * 3 := Nat.mul_le_mul (by omega) k3
                  have HPUT := Lib.hid (fun h => rowR_put (k := k) (q := q) (out := outC o) (K := U) (V := V) (x := X) (y := Y) h)
                  have HSKIP := Lib.hid (fun h => rowR_skip (k := k) (q := q) (out := outC o) (K := U) (V := V) (x := X) (y := Y) h)
                  unfold tgN at HPUT
                  obtain ⟨a0, ha0⟩ : ∃ a0, U * k = a0 := ⟨_, rfl⟩
                  obtain ⟨b0, hb0⟩ : ∃ b0, V * k = b0 := ⟨_, rfl⟩
                  simp only [ha0, hb0] at hp1 hp2 HPUT HSKIP
                  obtain ⟨a, ha⟩ : ∃ a, a0 + X = a := ⟨_, rfl⟩
                  obtain ⟨b, hb⟩ : ∃ b, b0 + Y = b := ⟨_, rfl⟩
                  simp only [ha, hb] at hp1 hp2 HPUT HSKIP
                  have hsm := HSAME.out a b hp1 hp2
                  have a27 : a ≤ 27 := Nat.le_of_lt (Nat.lt_of_lt_of_le hp1 (by rw [hos]; exact hqk))
                  have b27 : b ≤ 27 := Nat.le_of_lt (Nat.lt_of_lt_of_le hp2 (by rw [hos]; exact hqk))
                  have ma0 : (0 : Int) ≤ (a : Int) := Int.natCast_nonneg a
                  have ma1 : (a : Int) < (o.size : Int) := Int.ofNat_lt.2 hp1
                  have mb0 : (0 : Int) ≤ (b : Int) := Int.natCast_nonneg b
                  have mb1 : (b : Int) < (o.size : Int) := Int.ofNat_lt.2 hp2
                  generalize rowR k q (outC o) U V X Y = xs at *
                  have hxl : xs.length ≤ 100 := by omega
                  have hs2 := HXB.out.size
                  clear hlen hkk hpl2 hqq
                  by_cases hcc : outC o a = outC o b
                  · rw [decide_eq_true hcc] at hsm
                    obtain ⟨⟨w1, w1b⟩, ⟨w2, w2b⟩⟩ := place_wraps ha0 ha (Nat.le_trans a27 (by decide))
                    obtain ⟨⟨w3, w3b⟩, ⟨w4, w4b⟩⟩ := place_wraps hb0 hb (Nat.le_trans b27 (by decide))
                    have HPUT := Lib.hid (HPUT.out hcc)
                    have hml := Nat.mod_lt a hq1
                    have hml2 := Nat.mod_lt b hq1
                    obtain ⟨s, hs⟩ : ∃ s, a % q = s := ⟨_, rfl⟩
                    obtain ⟨t, ht⟩ : ∃ t, b % q = t := ⟨_, rfl⟩
                    rw [hs, ht] at HPUT
                    rw [hs] at hml
                    rw [ht] at hml2
                    have hpl3 := pair_lt (q := q) hml hml2
                    have hqq : q * q ≤ 13 * 13 := Nat.mul_le_mul q13 q13
                    obtain ⟨d0, hd0⟩ : ∃ d0, s * q = d0 := ⟨_, rfl⟩
                    rw [hd0] at HPUT hpl3
                    obtain ⟨d, hd⟩ : ∃ d, d0 + t = d := ⟨_, rfl⟩
                    rw [hd] at HPUT hpl3
                    obtain ⟨⟨w5, w5b⟩, ⟨w6, w6b⟩⟩ := place_wraps hd0 hd (by omega)
                    have htm := rem_is hs
                    have htm2 := rem_is ht
                    have hq0 : ((q : Int) == 0) = false := by rw [beq_eq_false_iff_ne]; exact Int.ofNat_ne_zero.2 (Nat.pos_iff_ne_zero.1 hq1)
                    have hqi : ¬ ((q : Int) = 0) := Int.ofNat_ne_zero.2 (Nat.pos_iff_ne_zero.1 hq1)
                    have hqn : ¬ (q = 0) := Nat.pos_iff_ne_zero.1 hq1
                    clear HSKIP hcc hs ht hd0 hd hpl3 hqq ha0 hb0 ha hb hos hqk hml hml2
                    go_wp2
                    go_quiet (fail)
                    have HXO := Lib.hid (owns_drewN HXO.out nq)
                    have HXB := Lib.hid (drewN_below HXB.out nq)
                    have HBQ := drewN_below (Below.refl wr.heap.size wr) nq
                    have hcode := HCODE.out.below HBQ
                    clear c0 c2 HCODE hs2
                    obtain ⟨wq, hwq⟩ : ∃ wq, wr.drewN nq = wq := ⟨_, rfl⟩
                    rw [hwq] at HXO HXB hcode ⊢
                    clear hwq HBQ
                    have c0 := hcode.c0
                    have hs2 := HXB.out.size
                    clear hcode
                    go_wp2
                    go_region_held3 (fun w' => w'.cell? ⟨w.heap.size, 0, none⟩ = some (.int .i64 (k : Int))) (first | exact c0 | exact d0c | go_keep) ((refine step_append_lies _ (by rfl) _ _ _ (by rfl) W1.heap.size 3 j0 _ 1 8 Try.underlying68 hj0 hy0 hy1 hy2 rfl (by omega) u7 xs.length (xs.map (Value.int .i64)) (by rfl) ((HXO.out.alloc _).drew) ⟨wq.heap.size, 0, none⟩ 1 1 [.int .i64 (d : Int)] (by rfl) (by rfl) (World.news_of_block (cs := #[.int .i64 (d : Int)]) (t := 3) (fr := (0, 0)) (heap_alloc_new wq _)) (by simp [Value.oneCell']) (by omega) (by unfold maxLen; omega) (by omega) (by simp; omega) (wq.heap.size + 1) (by simp) ?_; intro gg cap w7 ho7 hg7 hat7 hlt7; have HXN := Lib.hid ((HXB.out.alloc hs2 _).drew.grown hg7 (by simp; omega) (fun q hq => (HXO.out.lt q hq).1)); have hcode2 := HK.out.below (HB.out.trans (HXN.out.mono hs1)); have d0c := hcode2.c0; have HO7 := Lib.hid ho7; clear ho7 hg7 hat7 hcode2))
                    go_wp2
                    go_roundw
                    case rel => exact ⟨Y + 1, by omega, by go_num, Lib.hid (by rw [HPUT.out, List.length_append, List.map_append]; exact HO7.out), HXN⟩
                    case measure => simp [intOf]; omega
                  · rw [decide_eq_false hcc] at hsm
                    obtain ⟨⟨w1, w1b⟩, ⟨w2, w2b⟩⟩ := place_wraps ha0 ha (Nat.le_trans a27 (by decide))
                    obtain ⟨⟨w3, w3b⟩, ⟨w4, w4b⟩⟩ := place_wraps hb0 hb (Nat.le_trans b27 (by decide))
                    have HSK := Lib.hid (HSKIP.out hcc)
                    clear HPUT HSKIP hcc ha0 hb0 ha hb hos hqk
                    go_wp2
                    go_quiet (fail)
                    go_wp2
                    go_roundw
                    case rel => exact ⟨Y + 1, by omega, by go_num, Lib.hid (by rw [HSK.out]; exact owns_drewN HXO.out _), Lib.hid (drewN_below HXB.out _)⟩
                    case measure => simp [intOf]; omega
                · obtain rfl : Y = k := by omega
                  have HROW2 := Lib.hid (rowR_row (k := Y) (q := q) (out := outC o) U V X)
                  go_wp2
                  go_roundw
                  case rel => exact ⟨X + 1, by omega, by go_num, Lib.hid (by rw [← HROW2.out]; exact HXO.out), HXB⟩
                  case measure => simp [intOf]; omega
            · obtain rfl : X = k := by omega
              rw [← HROW.out] at HXO
              have hln : (rowC X q (outC o) c).length ≤ 100 := by
                have h1 := rowR_len (k := X) (q := q) (out := outC o) U V 0 X
                rw [← HROW.out] at h1
                have h2 : X * X ≤ 3 * 3 := Nat.mul_le_mul k3 k3
                omega
              generalize rowC X q (outC o) c = row at *
              have hs2 := HXB.out.size
              have HVB : Hid (∀ g, u4.ownBlock = some g → W0.heap.size ≤ g) := Lib.hid fun g h => (HO.out.lt g h).1
              obtain ⟨A7, c7, hu7⟩ := slice_of_owns HXO.out
              subst hu7
              go_wp2_with (at_builtin; refine wpList_append_lies _ rfl (.tmp 81) (.tmp 83) 78 rfl W0.heap.size 68 i0 (.slice none 0 0) 1 24 Try.underlying78 hi hz0 hz1 hz2 rfl (by decide) _ _ _ rfl ((kept_below HO.out HXB.out).alloc _) ⟨wr.heap.size, 0, none⟩ 1 1 [.slice A7 row.length c7] rfl rfl (World.news_of_block (cs := #[.slice A7 row.length c7]) (t := 68) (fr := (0, 0)) (heap_alloc_new wr _)) (by simp [Value.oneCell']) (by decide) (by unfold maxLen; omega) (by omega) (by simp; omega) (wr.heap.size + 1) (by simp) ?_; intro gg cap w6 ho6 hg6 hat6 hlt6; have HN := Lib.hid (fill_next HO.out HR.out HXB.out hs1 HXO.out _ ho6 hg6 hat6); clear ho6 hg6 hat6)
              go_wp2
              go_roundw
              case rel => exact ⟨V + 1, _, by omega, by go_num, Lib.hid (by rw [show U * q + (V + 1) = c + 1 by have := HC.out; omega, HSN.out]; exact HN.out.1), Lib.hid (by rw [show U * q + (V + 1) = c + 1 by have := HC.out; omega, HSN.out]; exact HN.out.2.1), Lib.hid ((HB.out.trans (HXB.out.mono hs1)).grown HN.out.2.2.1 (by omega) HVB.out)⟩
              case measure => simp [intOf]; omega
        · obtain rfl : V = q := by omega
          have HX : Hid (U * V + V = (U + 1) * V) := Lib.hid (Nat.succ_mul U V).symm
          rw [HX.out] at HO HR
          go_wp2
          go_roundw
          case rel => exact ⟨U + 1, vs, by omega, by go_num, HO, HR, HB⟩
          case measure => simp [intOf]; omega
    · obtain rfl : U = q := by omega
      go_wp2
      go_ret
      exact ⟨_, rfl, OwnG.mono ⟨vs, HO.out, HR.out⟩ hs0, HB0.out.trans (HB.out.mono hs0)⟩
end Go.Proofs.Ytcoiodfggaanbaa
