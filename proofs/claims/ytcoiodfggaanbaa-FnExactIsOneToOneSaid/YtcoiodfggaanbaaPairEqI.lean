/-
  The program's pairs of words to which a code gives the same letter: as the plain list says, in new memory; nothing that was there before is changed.
-/
import Derived.Test.YtcoiodfggaanbaaPairM
import Derived.Test.YtcoiodfggaanbaaWordsOf
import Derived.Test.YtcoiodfggaanbaaCountNum
import Derived.Deep.AppendLies
import Derived.Deep.Onto
import Derived.OwnWalk
namespace Go.Proofs.Ytcoiodfggaanbaa
open Go Go.RowKit

theorem infoPairW : (Try.prog.info? 83).map (fun i => (i.zero, i.size, i.bytes)) = some (some (.agg #[.string ByteArray.empty, .string ByteArray.empty]), 2, 32) := by kernel_rfl
def cellPW (p : PW) : List Value := [.string p.1, .string p.2]
def cellsPW (ps : List PW) : List Value := ps.flatMap cellPW
theorem cellsPW_next (ps : List PW) (p : PW) : cellsPW (ps ++ [p]) = cellsPW ps ++ [.string p.1, .string p.2] := by
  unfold cellsPW
  rw [List.flatMap_append]; simp [cellPW]
theorem cellsPW_at : ∀ (ps : List PW) (i c : Nat), i < ps.length → c < 2 → (cellsPW ps)[i * 2 + c]? = (cellPW (ps.getD i pw0))[c]?
  | [], i, c, h, _ => by simp at h
  | a :: ps, 0, c, _, hc => by
    unfold cellsPW
    rw [List.flatMap_cons, List.getElem?_append_left (by show 0 * 2 + c < 2; omega)]
    simp
  | a :: ps, i + 1, c, h, hc => by
    have ih := cellsPW_at ps i c (by simpa using h) hc
    unfold cellsPW at ih ⊢
    rw [List.flatMap_cons, List.getElem?_append_right (by show 2 ≤ (i + 1) * 2 + c; omega)]
    have e : (i + 1) * 2 + c - (cellPW a).length = i * 2 + c := by show (i + 1) * 2 + c - 2 = _; omega
    rw [e, ih]
    simp
theorem cellsPW_len : ∀ (ps : List PW), (cellsPW ps).length = ps.length * 2
  | [] => rfl
  | a :: ps => by
    have ih := cellsPW_len ps
    unfold cellsPW at ih ⊢
    rw [List.flatMap_cons, List.length_append, ih, List.length_cons]; show 2 + _ = _; omega
/-- The pairs lie where A says. -/
def PairsAt (w : World) (A : Option Addr) (ps : List PW) : Prop := ∀ j, j < ps.length → ∃ b, A = some ⟨b, 0, none⟩ ∧ b < w.heap.size ∧ w.cell? ⟨b, j * 2, none⟩ = some (.string (ps.getD j pw0).1) ∧ w.cell? ⟨b, j * 2 + 1, none⟩ = some (.string (ps.getD j pw0).2)
theorem PairsAt.below {w w' : World} {A : Option Addr} {ps : List PW} (h : PairsAt w A ps) (hb : Below w.heap.size w w') : PairsAt w' A ps := fun j hj => by
  obtain ⟨b, hA, hl, h0, h1⟩ := h j hj
  exact ⟨b, hA, Nat.lt_of_lt_of_le hl hb.size, (hb.cell (p := ⟨b, j * 2, none⟩) hl).trans h0, (hb.cell (p := ⟨b, j * 2 + 1, none⟩) hl).trans h1⟩
def PairPost (ps : List PW) (w : World) (e : Ending) (w' : World) : Prop := ∃ v, e = .returned v ∧ w'.ownsRow w.heap.size 83 2 v ps.length (cellsPW ps) ∧ Below w.heap.size w w'
theorem pairsAt_of {w : World} {B : Nat} {v : Value} {ps : List PW} (h : w.ownsRow B 83 2 v ps.length (cellsPW ps)) : ∃ A c, v = .slice A ps.length c ∧ PairsAt w A ps := by
  rcases h.2 with ⟨rfl, h0⟩ | ⟨g, cap, cur, rfl, _, _, _⟩
  · exact ⟨none, 0, by rw [h0], fun j hj => by omega⟩
  · refine ⟨_, cap, rfl, fun j hj => ⟨g, rfl, (h.lt g rfl).2, ?_, ?_⟩⟩
    · have e := cellsPW_at ps j 0 hj (by omega)
      rw [Nat.add_zero] at e
      exact (h.cellAt (j * 2) (by omega)).trans e
    · exact (h.cellAt (j * 2 + 1) (by omega)).trans (cellsPW_at ps j 1 hj (by omega))

theorem own_later {w w' : World} {B e s n : Nat} {v : Value} {xs : List Value} (h : w.ownsRow B e s v n xs) (hb : Below w.heap.size w w') : w'.ownsRow B e s v n xs := by
  refine h.kept (row := none) ⟨hb.os, hb.tape, hb.output, hb.size, fun j hj _ => hb.block j hj⟩ ?_
  cases e : v.ownBlock with
  | none => exact Or.inl rfl
  | some g => exact Or.inr (by intro h; cases h)

set_option maxRecDepth 100000 in
set_option maxHeartbeats 1600000 in
theorem impl_eqs (k n : Nat) (o : ByteArray) (ok : CodeOk k n o) (w : World) :
    Calls Try.prog 73 #[.agg #[.int .i64 (k : Int), .int .i64 (n : Int), .string o]] w (PairPost (eqP k n (outC o) (k ^ n) (k ^ n) 0) w) := by
  obtain ⟨j0, hj0, hy0, hy1, hy2⟩ := info_parts infoPairW
  have k2 := ok.k2
  have k3 := ok.k3
  have hN27 := ok.le
  have hos := ok.len
  have HW := Lib.hid (impl_wordsOf (k : Int) (n : Int))
  rw [wordsOf_yes (by omega) k3 (by have := ok.n4; omega) (Nat.le_trans hN27 (by decide))] at HW
  have hlen := allW_length k n
  have HWD : Hid (∀ i, (allW k n).getD i ByteArray.empty = wdA k n i) := Lib.hid fun i => rfl
  have HSAME : Hid (∀ p p' (hp : p < o.size) (hi : p' < o.size), ((o[p].toNat : Int) == (o[p'].toNat : Int)) = decide (outC o p = outC o p')) := Lib.hid fun p i hp hi => by
    have h := same_letter (byteAt_all ok.all hp) (byteAt_all ok.all hi)
    rw [byteAt_is hp, byteAt_is hi] at h
    unfold outC
    rw [byteAt_is hp, byteAt_is hi]; exact h
  have hpos : 0 < k ^ n := Nat.pow_pos (by omega)
  obtain ⟨N, hN⟩ : ∃ N, k ^ n = N := ⟨_, rfl⟩
  rw [hN] at hN27 hos hlen hpos ⊢
  have HOS := Lib.hid hos
  have hosl : o.size ≤ 27 := by rw [hos]; exact hN27
  generalize allW k n = ws at *
  have hk := codeIn_new w (k : Int) (n : Int) o
  have HK := Lib.hid hk
  have c0 := hk.c0
  have c1 := hk.c1
  have HB0 := Lib.hid ((Below.refl w.heap.size w).alloc (Nat.le_refl _) (.cells #[.int .i64 (k : Int), .int .i64 (n : Int), .string o] 25))
  clear hk ok hos hN
  go_enter Try.func73, Try.ntmps73
  go_wp2_with fail
  refine (HW.out _).mono ?_
  rintro e w2 hp2
  obtain ⟨v2, rfl, ho2, hb2⟩ := hp2
  rcases ho2.2 with ⟨rfl, h0⟩ | ⟨g, cap, cur, rfl, _, _, _⟩
  · omega
  have HST := Lib.hid (StrsAt.of_owns ho2 rfl)
  have hgl := (ho2.lt g rfl).2
  have HB2 := Lib.hid (HB0.out.trans (hb2.mono HB0.out.size))
  have HK2 := Lib.hid (HK.out.below hb2)
  have hs2 := HB2.out.size
  clear c0 c1 hb2 ho2
  rename_i hx1 hx2 hx3
  clear hx1 hx2 hx3
  go_wp2
  go_loopw [4, 16] (fun pv iv wr => ∃ i : Nat, i ≤ N ∧ iv = .int .i64 (i : Int) ∧ Hid (wr.ownsRow w2.heap.size 83 2 pv (eqP k n (outC o) N i 0).length (cellsPW (eqP k n (outC o) N i 0))) ∧ Hid (Below w2.heap.size w2 wr)) (fun _ iv _ => N - (intOf iv).toNat)
  case atStart => exact ⟨0, Nat.zero_le _, rfl, Lib.hid (World.ownsRow_nil _ _ _ _), Lib.hid (Below.refl _ _)⟩
  case round =>
    obtain ⟨i, hi, rfl, HO, HB⟩ := hrel
    by_cases hiN : i < N
    · have hiw : i < ws.length := by rw [hlen]; exact hiN
      have kx := (HST.out.below HB.out hgl) i hiw
      rw [Nat.zero_add, HWD.out i] at kx
      have p0 : (0 : Int) ≤ (i : Int) := Int.natCast_nonneg i
      have p1 : (i : Int) < (ws.length : Int) := Int.ofNat_lt.2 hiw
      go_wp2
      go_loopw [4, 23] (fun pv jv wr => ∃ j : Nat, j ≤ N ∧ jv = .int .i64 (j : Int) ∧ Hid (wr.ownsRow w2.heap.size 83 2 pv (eqP k n (outC o) N i j).length (cellsPW (eqP k n (outC o) N i j))) ∧ Hid (Below w2.heap.size w2 wr)) (fun _ jv _ => N - (intOf jv).toNat)
      case atStart => exact ⟨0, Nat.zero_le _, rfl, HO, HB⟩
      case round =>
        clear HO HB kx
        obtain ⟨j, hj, rfl, HO, HB⟩ := hrel
        by_cases hjN : j < N
        · have hjw : j < ws.length := by rw [hlen]; exact hjN
          have ky := (HST.out.below HB.out hgl) j hjw
          rw [Nat.zero_add, HWD.out j] at ky
          have c2 := (HK2.out.below HB.out).c2
          have q0 : (0 : Int) ≤ (j : Int) := Int.natCast_nonneg j
          have q1 : (j : Int) < (ws.length : Int) := Int.ofNat_lt.2 hjw
          have hio : i < o.size := by rw [HOS.out]; exact hiN
          have hjo : j < o.size := by rw [HOS.out]; exact hjN
          have p2 : (i : Int) < (o.size : Int) := Int.ofNat_lt.2 hio
          have q2 : (j : Int) < (o.size : Int) := Int.ofNat_lt.2 hjo
          have hsm := HSAME.out i j hio hjo
          have hln := eqP_len (k := k) (n := n) (out := outC o) N j i
          have hij : i * N ≤ 27 * 27 := Nat.mul_le_mul (by omega) hN27
          have hxl : (eqP k n (outC o) N i j).length ≤ 1000 := by omega
          have HPUT := Lib.hid (fun h => eqP_put (k := k) (n := n) (out := outC o) (N := N) (i := i) (j := j) h)
          have HSKIP := Lib.hid (fun h => eqP_skip (k := k) (n := n) (out := outC o) (N := N) (i := i) (j := j) h)
          generalize eqP k n (outC o) N i j = ps at *
          generalize wdA k n i = x at *
          generalize wdA k n j = y at *
          clear hln hij
          by_cases hcc : outC o i = outC o j
          · rw [decide_eq_true hcc] at hsm
            have HP := Lib.hid (HPUT.out hcc)
            clear HPUT HSKIP hcc
            go_wp2
            go_quiet (fail)
            have HO := Lib.hid (own_later HO.out (drewN_below (Below.refl wr.heap.size wr) nq))
            have HB := Lib.hid (drewN_below HB.out nq)
            clear c2 ky hsm
            obtain ⟨wq, hwq⟩ : ∃ wq, wr.drewN nq = wq := ⟨_, rfl⟩
            rw [hwq] at HO HB ⊢
            clear hwq
            have hs3 := HB.out.size
            go_wp2_with (at_builtin; refine wpList_append_lies _ rfl (.tmp 37) (.tmp 41) 81 rfl w2.heap.size 83 j0 (.agg #[.string ByteArray.empty, .string ByteArray.empty]) 2 32 Try.underlying81 hj0 hy0 hy1 hy2 rfl (by decide) _ _ _ rfl (HO.out.alloc _) ⟨wq.heap.size, 0, none⟩ 1 1 [.string x, .string y] rfl rfl (World.news_of_block (cs := #[.string x, .string y]) (t := 83) (fr := (0, 0)) (heap_alloc_new wq _)) (by simp [Value.oneCell']) (by decide) (by unfold maxLen; omega) (by omega) (by simp; omega) (wq.heap.size + 1) (by simp) ?_; intro gg cap w6 ho6 hg6 hat6 hlt6; have HBN := Lib.hid ((HB.out.alloc hs3 _).grown hg6 (by simp; omega) (fun q hq => (HO.out.lt q hq).1)); have HO6 := Lib.hid ho6; clear ho6 hg6 hat6)
            have HO7 : Hid (w6.ownsRow w2.heap.size 83 2 (.slice (some ⟨gg, 0, none⟩) (ps.length + 1) cap) (eqP k n (outC o) N i (j + 1)).length (cellsPW (eqP k n (outC o) N i (j + 1)))) := Lib.hid (by rw [HP.out, List.length_append, cellsPW_next]; exact HO6.out)
            go_wp2
            go_roundw
            case rel => exact ⟨j + 1, hjN, by go_num, HO7, HBN⟩
            case measure => simp [intOf]; exact Nat.sub_lt_sub_left hjN (Nat.lt_succ_self j)
          · rw [decide_eq_false hcc] at hsm
            have HSK := Lib.hid (HSKIP.out hcc)
            clear HPUT HSKIP hcc
            go_wp2
            go_quiet (fail)
            go_wp2
            go_roundw
            case rel => exact ⟨j + 1, hjN, by go_num, Lib.hid (by rw [HSK.out]; exact own_later HO.out (drewN_below (Below.refl wr.heap.size wr) _)), Lib.hid (drewN_below HB.out _)⟩
            case measure => simp [intOf]; exact Nat.sub_lt_sub_left hjN (Nat.lt_succ_self j)
        · obtain rfl : j = N := Nat.le_antisymm hj (Nat.le_of_not_lt hjN)
          have HROW := Lib.hid (eqP_row (k := k) (n := n) (out := outC o) j i)
          go_wp2
          go_roundw
          case rel => exact ⟨i + 1, hiN, by go_num, Lib.hid (by rw [← HROW.out]; exact HO.out), HB⟩
          case measure => simp [intOf]; exact Nat.sub_lt_sub_left hiN (Nat.lt_succ_self i)
    · obtain rfl : i = N := Nat.le_antisymm hi (Nat.le_of_not_lt hiN)
      go_wp2
      go_ret
      exact ⟨_, rfl, World.ownsRow.mono HO.out hs2, HB2.out.trans (HB.out.mono hs2)⟩
end Go.Proofs.Ytcoiodfggaanbaa
