/-
  The model's l3Words and AvoidingWords: at every shift in memory the words of a length that avoid the forbidden ones, in new memory; nothing that was there before is changed.
-/
import Derived.Test.YtalclebehbdliaaDoorLangNum
import Derived.Test.YtalclebehbdliaaDoorShiftSpec
import Derived.Test.YtalclebehbdliaaDoorShiftList
import Derived.Test.YtalclebehbdliaaDoorAllW
import Derived.Lib.AtoiErrMem
import Derived.Deep.AppendLies
namespace Go.Proofs.YtalclebehbdliaaDoor
open Go Go.RowKit

theorem pow_six {k n : Nat} (hk : k ≤ 3) (hn : n ≤ 6) : ∀ i, i ≤ n → k ^ i ≤ 729 := by
  intro i hi
  have h1 : k ^ i ≤ 3 ^ i := Nat.pow_le_pow_left hk i
  have h2 : 3 ^ i ≤ 3 ^ 6 := Nat.pow_le_pow_right (by decide) (by omega)
  have h3 : 3 ^ 6 = 729 := by decide
  omega
/-- The words that avoid, out of a list. -/
theorem keepW_length (ps ws : List ByteArray) : (keepW ps ws).length ≤ ws.length := List.length_filter_le _ _
theorem keepW_yes {ps ws : List ByteArray} {k : Nat} (hk : k < ws.length) (h : avoids ps (ws.getD k ByteArray.empty) = true) : keepW ps (ws.take (k + 1)) = keepW ps (ws.take k) ++ [ws.getD k ByteArray.empty] := by
  unfold keepW
  rw [take_next ws k hk, List.filter_append, List.filter_cons_of_pos h]
  rfl
theorem keepW_no {ps ws : List ByteArray} {k : Nat} (hk : k < ws.length) (h : avoids ps (ws.getD k ByteArray.empty) = false) : keepW ps (ws.take (k + 1)) = keepW ps (ws.take k) := by
  unfold keepW
  rw [take_next ws k hk, List.filter_append, List.filter_cons_of_neg (by rw [h]; decide)]
  simp

theorem one_cell (x : ByteArray) : ∀ u ∈ [Value.string x], u.oneCell' = true := by
  intro u hu
  rw [List.mem_singleton] at hu
  subst hu; rfl
/-- Behind an append the other list lies as it lay. -/
theorem appended {B gv gw gg nq len cv : Nat} {ws : List ByteArray} {W wr w2 : World} {o : Obj} {xs : List Value} (hB : Below B W wr) (hs : StrsAt wr gw 0 ws) (ho : wr.ownsRow B 9 1 (.slice (some ⟨gv, 0, none⟩) len cv) len xs) (hgl : gw < wr.heap.size) (hne : gv ≠ gw)
    (hg : ((wr.drewN nq).alloc o).grownBy w2 (Value.slice (some ⟨gv, 0, none⟩) len cv).ownBlock) (hat : (Value.slice (some ⟨gv, 0, none⟩) len cv).ownBlock = some gg ∨ gg = wr.heap.size + 1) :
    Below B W w2 ∧ StrsAt w2 gw 0 ws ∧ gg ≠ gw ∧ gw < w2.heap.size := by
  have hgB := (ho.lt gv rfl).1
  have hsz := hg.size
  simp at hsz
  have hlB := hB.size
  have e : (Value.slice (some ⟨gv, 0, none⟩) len cv).ownBlock = some gv := rfl
  rw [e] at hg hat
  have hWB : B ≤ ((wr.drewN nq).alloc o).heap.size := by
    have := (ho.lt gv rfl).2
    simp; omega
  refine ⟨((below_drewN hB nq).alloc (by have := (ho.lt gv rfl).2; simp; omega) o).grown hg hWB (fun q hq => by have := Option.some.inj hq; omega), ?_, ?_, by omega⟩
  · intro j hj
    have h1 := hs j hj
    have h2 : ((wr.drewN nq).alloc o).cell? ⟨gw, 0 + j, none⟩ = some (.string (ws.getD j ByteArray.empty)) := ((((below_drewN (Below.refl wr.heap.size wr) nq).alloc (Nat.le_refl _) o)).cell (p := ⟨gw, 0 + j, none⟩) hgl).trans h1
    exact hg.cell h2 (by intro h; exact hne (Option.some.inj h).symm)
  · rcases hat with h | h
    · have := Option.some.inj h; omega
    · omega

set_option maxRecDepth 100000 in
set_option maxHeartbeats 3200000 in
theorem spec_l3Words (kk nn : Nat) (G : Option Addr) (c : Nat) (ps : List ByteArray) (k1 : 1 ≤ kk) (k3 : kk ≤ 3) (n6 : nn ≤ 6) (hl : ps.length ≤ 1048576) (hz : ∀ k, k < ps.length → (ps.getD k ByteArray.empty).size ≤ 2147483648) (w : World) (hs : StrsG w G ps) :
    Calls Tryd.prog 34 #[.agg #[.int .i64 kk, .slice G ps.length c], .int .i64 nn] w (ListPost (keepW ps (allW kk nn)) w) := by
  obtain ⟨i0, hi, hz0, hz1, hz2⟩ := info_parts infoStr
  have HS := Lib.hid hs
  have HZ := Lib.hid hz
  have HA := Lib.hid (spec_all kk nn k1 k3 (by omega) (pow_six k3 n6))
  clear hs hz
  go_enter Tryd.func34, Tryd.ntmps34
  go_wp2_with fail
  obtain ⟨Wb, hWb⟩ : ∃ Wb, w.alloc (.cells #[.int .i64 kk, .slice G ps.length c] 27) = Wb := ⟨_, rfl⟩
  have sb : Wb.heap.size = w.heap.size + 1 := by rw [← hWb]; simp
  have xb : BoxAt Wb w.heap.size kk (.slice G ps.length c) := by rw [← hWb]; exact boxAt_new w kk _ 27
  have bb : Below w.heap.size w Wb := by rw [← hWb]; exact (Below.refl _ _).alloc (Nat.le_refl _) _
  rw [hWb]
  clear hWb
  have b0 := (Below.refl Wb.heap.size Wb).alloc (Nat.le_refl _) (.cells #[] 9)
  have o0 := World.ownsRow_made (base := Wb.heap.size) (e := 9) (size := 1) Wb #[] 0 (Nat.le_refl _) (by decide) rfl
  have XB := Lib.hid xb
  have BB := Lib.hid bb
  have B0 := Lib.hid b0
  have O0 := Lib.hid o0
  clear b0 o0 xb bb
  refine (HA.out _).mono fun e w1 h1 => ?_
  have hlen : (allW kk nn).length ≤ 729 := by rw [allW_length]; exact pow_six k3 n6 nn (Nat.le_refl _)
  have hpos : 0 < (allW kk nn).length := by rw [allW_length]; exact Nat.pow_pos k1
  have hb : ∀ y ∈ allW kk nn, y.size ≤ 16 := fun y hy => by rw [allW_size kk nn y hy]; omega
  obtain ⟨gw, c1, rfl, ow, b1⟩ := h1.full hpos
  rw [World.size_alloc] at ow
  have hgw := ow.lt gw rfl
  have stw := StrsAt.of_owns ow rfl
  have B1 := Lib.hid (B0.out.trans (b1.mono (by simp)))
  have O1 := Lib.hid (owns_below O0.out b1)
  have SW := Lib.hid stw
  clear h1 b1 ow stw B0 O0
  generalize allW kk nn = ws at *
  go_wp2
  go_loopw [5, 7] (fun v i wr => ∃ k gv cv : Nat, k ≤ ws.length ∧ i = .int .i64 k ∧ v = .slice (some ⟨gv, 0, none⟩) (keepW ps (ws.take k)).length cv ∧ gv ≠ gw ∧ gw < wr.heap.size ∧ wr.ownsRow Wb.heap.size 9 1 (.slice (some ⟨gv, 0, none⟩) (keepW ps (ws.take k)).length cv) (keepW ps (ws.take k)).length ((keepW ps (ws.take k)).map Value.string) ∧ Hid (Below Wb.heap.size Wb wr) ∧ Hid (StrsAt wr gw 0 ws)) (fun _ i _ => ws.length - (intOf i).toNat)
  case atStart => exact ⟨0, Wb.heap.size, 0, Nat.zero_le _, rfl, by simp [keepW, sb], by omega, hgw.2, O1.out, B1, SW⟩
  case round =>
    obtain ⟨k, gv, cv, hk, rfl, rfl, hne, hgl, ho, HB, HST⟩ := hrel
    have HO := Lib.hid ho
    clear ho
    by_cases hlt : k < ws.length
    · have hc := HST.out k hlt
      rw [Nat.zero_add] at hc
      obtain ⟨x0, x1⟩ := XB.out.below HB.out (by omega)
      have hmem : ws.getD k ByteArray.empty ∈ ws := by
        simp only [List.getD_eq_getElem?_getD, List.getElem?_eq_getElem hlt, Option.getD_some]
        exact List.getElem_mem hlt
      have hsz := hb _ hmem
      have HAV : Hid (∀ w', Below Wb.heap.size Wb w' → Calls Tryd.prog 36 #[.slice G ps.length c, .string (ws.getD k ByteArray.empty)] w' fun e w'' => e = .returned (.bool (avoids ps (ws.getD k ByteArray.empty))) ∧ w'' = w') :=
        Lib.hid (fun w' hw => spec_avoids G c ps (ws.getD k ByteArray.empty) hl HZ.out (by omega) w' ((HS.out.below BB.out).below hw))
      have k0 : (0 : Int) ≤ (k : Int) := by omega
      have k1' : (k : Int) < (ws.length : Int) := by omega
      have hlen2 : (keepW ps (ws.take k)).length ≤ 729 := by
        have h1 := keepW_length ps (ws.take k)
        rw [List.length_take] at h1
        omega
      have lb : Wb.heap.size ≤ wr.heap.size := HB.out.size
      cases hav : avoids ps (ws.getD k ByteArray.empty) with
      | true =>
        have HN := Lib.hid (keepW_yes hlt hav)
        rw [hav] at HAV
        generalize ws.getD k ByteArray.empty = y at *
        generalize keepW ps (ws.take k) = qs at *
        clear hav hmem
        go_wp2_with fail
        go_quiet (first | (go_at_call 36; refine Calls.quiet_of_same (HAV.out _ (below_drewN HB.out _))))
        have OQ := Lib.hid (owns_below HO.out (below_drewN (Below.refl wr.heap.size wr) nq))
        go_wp2_with (at_builtin; refine wpList_append_lies _ rfl (.tmp 26) (.tmp 31) 22 rfl Wb.heap.size 9 i0 (.string ByteArray.empty) 1 16 Tryd.underlying22 hi hz0 hz1 hz2 rfl (by decide) _ _ _ rfl (OQ.out.alloc _) ⟨wr.heap.size, 0, none⟩ 1 1 [.string y] rfl rfl (cell_one_new (wr.drewN nq) _ _) (one_cell y) (by decide) (by unfold maxLen; omega) (by omega) (by simp; omega) (wr.heap.size + 1) (by simp) ?_; intro gg cap2 w2 ho2 hg2 hat2 hlt2; have HAP := Lib.hid (appended HB.out HST.out HO.out hgl hne hg2 hat2); have HO2 := Lib.hid ho2; clear ho2 hg2 hat2)
        obtain ⟨p1, p2, p3, p4⟩ := HAP.out
        go_roundw
        case rel => exact ⟨k + 1, gg, cap2, by omega, by go_num, by rw [HN.out]; simp, p3, p4, by rw [HN.out, List.length_append, List.map_append]; exact HO2.out, p1, p2⟩
        case measure => simp [intOf]; omega
      | false =>
        have HN := Lib.hid (keepW_no hlt hav)
        rw [hav] at HAV
        generalize ws.getD k ByteArray.empty = y at *
        clear hav hmem
        go_wp2_with fail
        go_quiet (first | (go_at_call 36; refine Calls.quiet_of_same (HAV.out _ (below_drewN HB.out _))))
        go_wp2
        go_roundw
        case rel => exact ⟨k + 1, gv, cv, by omega, by go_num, by rw [HN.out], hne, hgl, by rw [HN.out]; exact owns_below HO.out (below_drewN (Below.refl _ _) _), below_drewN HB.out _, HST.out.below (below_drewN (Below.refl wr.heap.size _) _) hgl⟩
        case measure => simp [intOf]; omega
    · obtain rfl : k = ws.length := by omega
      have h := HO.out
      rw [List.take_length] at h
      have HF := Lib.hid h
      clear h
      go_wp2
      go_ret
      refine ⟨_, rfl, ?_, BB.out.trans (HB.out.mono (by omega))⟩
      rw [List.take_length]
      exact World.ownsRow.mono HF.out (by omega)
/-- The words of a length that avoid the forbidden ones; none where there is no shift or the length is out of bounds. -/
def avoidingWords (L : Int) (ps : List ByteArray) (n : Int) : List ByteArray := if isShift L ps = true ∧ 0 ≤ n ∧ n ≤ 6 then keepW ps (allW L.toNat n.toNat) else []
theorem avoidingWords_length (L : Int) (ps : List ByteArray) (n : Int) : (avoidingWords L ps n).length ≤ 1000000 := by
  unfold avoidingWords
  split
  · next h =>
    have h1 := keepW_length ps (allW L.toNat n.toNat)
    have h2 := isShift_letters h.1
    rw [allW_length] at h1
    have h3 := pow_six (k := L.toNat) (n := n.toNat) (by omega) (by omega) n.toNat (Nat.le_refl _)
    omega
  · simp

end Go.Proofs.YtalclebehbdliaaDoor
