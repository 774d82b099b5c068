/-
  The model's l3Pairs: at every shift in memory the list of the pairs that go on, in new memory; nothing that was there before is changed.
-/
import Derived.Test.YtalclebehbdliaaBaseTexts
namespace Go.Proofs.Ytalclebehbdliaa
open Go Go.RowKit

def sliceLen : Value → Nat
  | .slice _ n _ => n
  | _ => 0
def goesOn (ps l : List ByteArray) (x : ByteArray) : Bool := goesB ps l x && goesA ps l x
theorem stepW_is (ps l : List ByteArray) : stepW ps l = l.filter (goesOn ps l) := rfl
theorem step_yes {f : ByteArray → Bool} {l : List ByteArray} {k : Nat} (hk : k < l.length) (h : f (l.getD k ByteArray.empty) = true) : (l.take (k + 1)).filter f = (l.take k).filter f ++ [l.getD k ByteArray.empty] := by
  rw [take_next l k hk, List.filter_append, List.filter_cons_of_pos h, List.filter_nil]
theorem step_no {f : ByteArray → Bool} {l : List ByteArray} {k : Nat} (hk : k < l.length) (h : f (l.getD k ByteArray.empty) = false) : (l.take (k + 1)).filter f = (l.take k).filter f := by
  rw [take_next l k hk, List.filter_append, List.filter_cons_of_neg (by rw [h]; decide), List.filter_nil, List.append_nil]
theorem fixW_stop {ps l : List ByteArray} (h : (stepW ps l).length = l.length) : ∀ n, fixW ps n l = l
  | 0 => rfl
  | n + 1 => by show (if (stepW ps l).length = l.length then l else fixW ps n (stepW ps l)) = l; rw [if_pos h]
theorem fixW_go {ps l : List ByteArray} {n : Nat} (h : (stepW ps l).length ≠ l.length) : fixW ps (n + 1) l = fixW ps n (stepW ps l) := by
  show (if (stepW ps l).length = l.length then l else fixW ps n (stepW ps l)) = _; rw [if_neg h]
/-- Behind an append the other row is owned as it was. -/
theorem appended2 {B gv gw gg len cv n cw : Nat} {W wr w2 : World} {o : Obj} {xs ys : List Value} (hB : Below B W wr) (hs : wr.ownsRow B 9 1 (.slice (some ⟨gw, 0, none⟩) n cw) n ys) (ho : wr.ownsRow B 9 1 (.slice (some ⟨gv, 0, none⟩) len cv) len xs) (hne : gv ≠ gw)
    (hg : (wr.alloc o).grownBy w2 (Value.slice (some ⟨gv, 0, none⟩) len cv).ownBlock) (hat : (Value.slice (some ⟨gv, 0, none⟩) len cv).ownBlock = some gg ∨ gg = wr.heap.size + 1) :
    Below B W w2 ∧ w2.ownsRow B 9 1 (.slice (some ⟨gw, 0, none⟩) n cw) n ys ∧ gg ≠ gw := by
  have hgB := (ho.lt gv rfl)
  have hwB := (hs.lt gw rfl)
  have e : (Value.slice (some ⟨gv, 0, none⟩) len cv).ownBlock = some gv := rfl
  rw [e] at hg hat
  refine ⟨(hB.alloc (by omega) o).grown hg (by simp; omega) (fun q hq => by have := Option.some.inj hq; omega), (hs.alloc o).kept hg (Or.inr fun h => hne (Option.some.inj h).symm), ?_⟩
  rcases hat with h | h
  · have := Option.some.inj h; omega
  · omega

set_option maxRecDepth 100000 in
set_option maxHeartbeats 6400000 in
theorem spec_pairs (kk : Nat) (G : Option Addr) (c : Nat) (ps : List ByteArray) (k1 : 1 ≤ kk) (k3 : kk ≤ 3) (hl : ps.length ≤ 1048576) (hz : ∀ k, k < ps.length → (ps.getD k ByteArray.empty).size ≤ 2147483648) (w : World) (hs : StrsG w G ps) :
    Calls Try.prog 54 #[.agg #[.int .i64 kk, .slice G ps.length c]] w (ListPost (pairsW kk ps) w) := by
  obtain ⟨i0, hi, hz0, hz1, hz2⟩ := info_parts infoStr
  have HS := Lib.hid hs
  have HZ := Lib.hid hz
  clear hs hz
  go_enter Try.func54, Try.ntmps54
  go_wp2_with fail
  obtain ⟨Wb, hWb⟩ : ∃ Wb, w.alloc (.cells #[.int .i64 kk, .slice G ps.length c] 27) = Wb := ⟨_, rfl⟩
  have sb : Wb.heap.size = w.heap.size + 1 := by rw [← hWb]; simp
  have xb : BoxAt Wb w.heap.size kk (.slice G ps.length c) := by rw [← hWb]; exact boxAt_new w kk _ 27
  have bb : Below w.heap.size w Wb := by rw [← hWb]; exact (Below.refl _ _).alloc (Nat.le_refl _) _
  rw [hWb]
  clear hWb
  have XB := Lib.hid xb
  have BB := Lib.hid bb
  have HW := Lib.hid (spec_l3Words kk 2 G c ps k1 k3 (by omega) hl HZ.out Wb (HS.out.below bb))
  clear xb bb
  refine HW.out.mono ?_
  rintro e w1 ⟨v, rfl, ho1, hb1⟩
  have HF0 : Hid (pairsW kk ps = fixW ps 9 (keepW ps (allW kk 2))) := Lib.hid rfl
  have h9 := keepW_two ps k3
  have H20 : Hid (∀ x ∈ keepW ps (allW kk 2), x.size = 2) := Lib.hid (fun x hx => ((mem_allW kk k3 2 x).1 (List.mem_filter.1 hx).1).1)
  generalize keepW ps (allW kk 2) = l0 at *
  obtain ⟨A0, c0, rfl⟩ : ∃ A c, v = .slice A l0.length c := by
    rcases ho1.2 with ⟨rfl, h0⟩ | ⟨b, cc, cur, rfl, _⟩
    · exact ⟨none, 0, by rw [h0]⟩
    · exact ⟨_, cc, rfl⟩
  have HO1 := Lib.hid ho1
  have HB1 := Lib.hid hb1
  clear ho1 hb1
  go_wp2
  go_loopw [3] (fun v wr => ∃ (n : Nat) (l : List ByteArray) (A : Option Addr) (cap : Nat), v = .slice A l.length cap ∧ l.length ≤ n ∧ n ≤ 9 ∧ Hid (pairsW kk ps = fixW ps n l) ∧ Hid (∀ x ∈ l, x.size = 2) ∧ Hid (wr.ownsRow Wb.heap.size 9 1 (.slice A l.length cap) l.length (l.map Value.string)) ∧ Hid (Below Wb.heap.size Wb wr)) (fun v _ => sliceLen v)
  case atStart => exact ⟨9, l0, A0, c0, rfl, h9, Nat.le_refl _, HF0, H20, HO1, HB1⟩
  case round =>
    obtain ⟨n, l, A, cap, rfl, hln, hn9, HF, H2, HO, HB⟩ := hrel
    clear h9
    have lb : Wb.heap.size ≤ wr.heap.size := HB.out.size
    have HN0 := Lib.hid (World.ownsRow_made (base := Wb.heap.size) (e := 9) (size := 1) wr #[] 0 lb (by decide) rfl)
    have HO' := Lib.hid (owns_below HO.out ((Below.refl wr.heap.size wr).alloc (Nat.le_refl _) (.cells #[] 9)))
    have HB' := Lib.hid (HB.out.alloc lb (.cells #[] 9))
    have HA' : Hid (∀ b, A = some ⟨b, 0, none⟩ → wr.heap.size ≠ b) := Lib.hid (fun b hb e => by
      subst hb
      have := (HO.out.lt b rfl).2
      omega)
    clear HO HB
    go_wp2
    go_loopw [4, 5] (fun v i wq => ∃ k gv cv : Nat, k ≤ l.length ∧ i = .int .i64 k ∧ v = .slice (some ⟨gv, 0, none⟩) ((l.take k).filter (goesOn ps l)).length cv ∧ Hid (∀ b, A = some ⟨b, 0, none⟩ → gv ≠ b) ∧ Hid (wq.ownsRow Wb.heap.size 9 1 (.slice (some ⟨gv, 0, none⟩) ((l.take k).filter (goesOn ps l)).length cv) ((l.take k).filter (goesOn ps l)).length (((l.take k).filter (goesOn ps l)).map Value.string)) ∧ Hid (wq.ownsRow Wb.heap.size 9 1 (.slice A l.length cap) l.length (l.map Value.string)) ∧ Hid (Below Wb.heap.size Wb wq)) (fun _ i _ => l.length - (intOf i).toNat)
    case atStart => exact ⟨0, wr.heap.size, 0, Nat.zero_le _, rfl, rfl, HA', HN0, HO', HB'⟩
    case round =>
      obtain ⟨k, gv, cv, hk, rfl, rfl, hne, HN, HO, HB⟩ := hrel
      clear HN0 HO' HB' HA'
      by_cases hlt : k < l.length
      · obtain ⟨gm, cm, hform, hgmB, hgml⟩ := HO.out.form (by omega)
        simp only [Value.slice.injEq, true_and] at hform
        obtain ⟨rfl, rfl⟩ := hform
        have hgne := hne.out gm rfl
        have hst := StrsAt.of_owns HO.out rfl
        have hc := hst k hlt
        rw [Nat.zero_add] at hc
        obtain ⟨x0, x1⟩ := XB.out.below HB.out (by omega)
        have hmem := getD_mem hlt
        have hx2 := H2.out _ hmem
        have HGB := Lib.hid (fun w' (h : Below wr.heap.size wr w') => spec_goesB kk G c ps hl HZ.out gm cap l (by omega) (fun k hk => H2.out _ (getD_mem hk)) (l.getD k ByteArray.empty) hx2 w' ((HS.out.below BB.out).below (HB.out.trans (h.mono HB.out.size))) (hst.below h hgml) (by have := h.size; omega))
        have HGA := Lib.hid (fun w' (h : Below wr.heap.size wr w') => spec_goesA kk G c ps hl HZ.out gm cap l (by omega) (fun k hk => H2.out _ (getD_mem hk)) (l.getD k ByteArray.empty) hx2 w' ((HS.out.below BB.out).below (HB.out.trans (h.mono HB.out.size))) (hst.below h hgml) (by have := h.size; omega))
        have hbl := HB.out.size
        have k0 : (0 : Int) ≤ (k : Int) := by omega
        have k1' : (k : Int) < (l.length : Int) := by omega
        clear hst hmem
        have HY : Hid (goesOn ps l (l.getD k ByteArray.empty) = (goesB ps l (l.getD k ByteArray.empty) && goesA ps l (l.getD k ByteArray.empty))) := Lib.hid rfl
        have HYes := Lib.hid (step_yes (f := goesOn ps l) hlt)
        have HNo := Lib.hid (step_no (f := goesOn ps l) hlt)
        have hq : ((l.take k).filter (goesOn ps l)).length ≤ 9 := by
          have h1 := List.length_filter_le (goesOn ps l) (l.take k)
          rw [List.length_take] at h1
          omega
        generalize l.getD k ByteArray.empty = x at *
        cases hgb : goesB ps l x with
        | false =>
          rw [hgb] at HGB
          have HN2 := Lib.hid (HNo.out (by rw [HY.out, hgb]; rfl))
          clear hgb
          generalize (l.take k).filter (goesOn ps l) = qs at *
          go_wp2
          refine wp_region_held_drew (S := (fun w' => w'.cell? ⟨w.heap.size, 0, none⟩ = some (.int .i64 kk) ∧ w'.cell? ⟨w.heap.size, 1, none⟩ = some (.slice G ps.length c) ∧ w'.cell? ⟨gm, k, none⟩ = some (.string x))) (by kernel_rfl) ?hS0a (fun hHeld => ?_)
          case hS0a => exact ⟨x0, x1, hc⟩
          refine wpAnyH_take (i := 0) (v := ?v0a) rfl (by kernel_rfl) (by kernel_rfl) (by kernel_rfl) (fun _ _ _ h => h) (Or.inl ⟨by rfl, ?hy0a⟩) (by assumption) ?_
          case hy0a => (intro w hSw; (try dsimp only at hSw); go_simp; try with_reducible rfl)
          try simp only [Act.put, List.setIfInBounds_toArray]
          refine wpAnyH_take (i := 1) (v := ?v1a) rfl (by kernel_rfl) (by kernel_rfl) (by kernel_rfl) (fun _ _ _ h => h) (Or.inl ⟨by rfl, ?hy1a⟩) (by assumption) ?_
          case hy1a => (intro w hSw; (try dsimp only at hSw); go_simp; try with_reducible rfl)
          try simp only [Act.put]
          refine wpAnyH_take (i := 2) (v := ?v2a) rfl (by kernel_rfl) (by kernel_rfl) (by kernel_rfl) (fun _ _ _ h => h) (Or.inl ⟨by rfl, ?hy2a⟩) (by assumption) ?_
          case hy2a => (intro w hSw; (try dsimp only at hSw); go_simp; try with_reducible rfl)
          try simp only [Act.put]
          refine wpAnyH_take (i := 3) (v := ?v3a) rfl (by kernel_rfl) (by kernel_rfl) (by kernel_rfl) (fun _ _ _ h => h) (Or.inl ⟨by rfl, ?hy3a⟩) (by assumption) ?_
          case hy3a => (intro w hSw; (try dsimp only at hSw); go_simp; try with_reducible rfl)
          try simp only [Act.put]
          refine wpAnyH_take (i := 4) (v := ?v4a) rfl (by kernel_rfl) (by kernel_rfl) (by kernel_rfl) (fun _ _ _ h => h) (Or.inl ⟨by rfl, ?hy4a⟩) (by assumption) ?_
          case hy4a => (intro w hSw; (try dsimp only at hSw); go_simp; try with_reducible rfl)
          try simp only [Act.put]
          refine wpAnyH_take (i := 5) (v := ?v5a) rfl (by kernel_rfl) (by kernel_rfl) (by kernel_rfl) (fun _ _ _ h => h) (Or.inl ⟨by rfl, ?hy5a⟩) (by assumption) ?_
          case hy5a => (intro w hSw; (try dsimp only at hSw); go_simp; try with_reducible rfl)
          try simp only [Act.put]
          refine wpAnyH_ready (rs := [6]) (by kernel_rfl) (by simp) ?_
          refine AllReadyH.cons rfl (fun K hK => ?_) AllReadyH.nil
          go_simp
          go_at_call 82
          refine (HGB.out _ (Below.refl _ _).drew).mono ?_
          rintro e w6 ⟨rfl, hb6⟩
          have hq6 : Below wr.heap.size wr w6 := (Below.refl wr.heap.size wr).drew.trans hb6
          have z0 := (hb6.cell (p := ⟨w.heap.size, 0, none⟩) (by show w.heap.size < wr.heap.size; omega)).trans x0
          have z1 := (hb6.cell (p := ⟨w.heap.size, 1, none⟩) (by show w.heap.size < wr.heap.size; omega)).trans x1
          have z2 := (hb6.cell (p := ⟨gm, k, none⟩) (by show gm < wr.heap.size; omega)).trans hc
          go_wp2_with fail
          refine hK.out _ _ ?hS6a (fun hHeld => ?_)
          case hS6a => (try dsimp only); exact ⟨z0, z1, z2⟩
          clear hK K
          try simp only [Act.put, List.setIfInBounds_toArray, List.set_cons_zero, List.set_cons_succ]
          refine wpAnyH_take (i := 7) (v := ?v7a) rfl (by kernel_rfl) (by kernel_rfl) (by kernel_rfl) (fun _ _ _ h => h) (Or.inl ⟨by rfl, ?hy7a⟩) (by assumption) ?_
          case hy7a => (intro w hSw; (try dsimp only at hSw); go_simp; try with_reducible rfl)
          try simp only [Act.put, List.setIfInBounds_toArray]
          refine wpAnyH_take (i := 8) (v := undef) rfl (by kernel_rfl) (by kernel_rfl) (by kernel_rfl) (fun _ _ _ h => h) (Or.inr ⟨by rfl, rfl⟩) (by assumption) ?_
          try simp only [Act.put]
          refine wpAnyH_take (i := 9) (v := undef) rfl (by kernel_rfl) (by kernel_rfl) (by kernel_rfl) (fun _ _ _ h => h) (Or.inr ⟨by rfl, rfl⟩) (by assumption) ?_
          try simp only [Act.put]
          refine wpAnyH_take (i := 10) (v := undef) rfl (by kernel_rfl) (by kernel_rfl) (by kernel_rfl) (fun _ _ _ h => h) (Or.inr ⟨by rfl, rfl⟩) (by assumption) ?_
          try simp only [Act.put]
          refine wpAnyH_take (i := 11) (v := undef) rfl (by kernel_rfl) (by kernel_rfl) (by kernel_rfl) (fun _ _ _ h => h) (Or.inr ⟨by rfl, rfl⟩) (by assumption) ?_
          try simp only [Act.put]
          refine wpAnyH_take (i := 12) (v := undef) rfl (by kernel_rfl) (by kernel_rfl) (by kernel_rfl) (fun _ _ _ h => h) (Or.inr ⟨by rfl, rfl⟩) (by assumption) ?_
          try simp only [Act.put]
          refine wpAnyH_take (i := 13) (v := undef) rfl (by kernel_rfl) (by kernel_rfl) (by kernel_rfl) (fun _ _ _ h => h) (Or.inr ⟨by rfl, rfl⟩) (by assumption) ?_
          try simp only [Act.put]
          refine wpAnyH_ready (rs := [14]) (by kernel_rfl) (by simp) ?_
          refine AllReadyH.cons rfl (fun K hK => ?_) AllReadyH.nil
          go_simp
          refine hK.out _ _ ?hS14a (fun hHeld => ?_)
          case hS14a => (try dsimp only); exact ⟨z0, z1, z2⟩
          clear hK K
          try simp only [Act.put, List.setIfInBounds_toArray, List.set_cons_zero, List.set_cons_succ]
          refine wpAnyH_take (i := 15) (v := ?v15a) rfl (by kernel_rfl) (by kernel_rfl) (by kernel_rfl) (fun _ _ _ h => h) (Or.inl ⟨by rfl, ?hy15a⟩) (by assumption) ?_
          case hy15a => (intro w hSw; (try dsimp only at hSw); go_simp; try with_reducible rfl)
          try simp only [Act.put, List.setIfInBounds_toArray]
          refine wpAnyH_done (by kernel_rfl) ?_ _
          go_wp2
          go_roundw
          case rel => exact ⟨k + 1, gv, cv, by omega, by go_num, by rw [HN2.out], hne, Lib.hid (by rw [HN2.out]; exact owns_below HN.out hq6), Lib.hid (owns_below HO.out hq6), Lib.hid (HB.out.trans (hq6.mono hbl))⟩
          case measure => simp [intOf]; omega
        | true =>
          rw [hgb] at HGB
          cases hga : goesA ps l x with
          | false =>
            rw [hga] at HGA
            have HN2 := Lib.hid (HNo.out (by rw [HY.out, hgb, hga]; rfl))
            clear hgb hga
            generalize (l.take k).filter (goesOn ps l) = qs at *
            go_wp2
            refine wp_region_held_drew (S := (fun w' => w'.cell? ⟨w.heap.size, 0, none⟩ = some (.int .i64 kk) ∧ w'.cell? ⟨w.heap.size, 1, none⟩ = some (.slice G ps.length c) ∧ w'.cell? ⟨gm, k, none⟩ = some (.string x))) (by kernel_rfl) ?hS0b (fun hHeld => ?_)
            case hS0b => exact ⟨x0, x1, hc⟩
            refine wpAnyH_take (i := 0) (v := ?v0b) rfl (by kernel_rfl) (by kernel_rfl) (by kernel_rfl) (fun _ _ _ h => h) (Or.inl ⟨by rfl, ?hy0b⟩) (by assumption) ?_
            case hy0b => (intro w hSw; (try dsimp only at hSw); go_simp; try with_reducible rfl)
            try simp only [Act.put, List.setIfInBounds_toArray]
            refine wpAnyH_take (i := 1) (v := ?v1b) rfl (by kernel_rfl) (by kernel_rfl) (by kernel_rfl) (fun _ _ _ h => h) (Or.inl ⟨by rfl, ?hy1b⟩) (by assumption) ?_
            case hy1b => (intro w hSw; (try dsimp only at hSw); go_simp; try with_reducible rfl)
            try simp only [Act.put]
            refine wpAnyH_take (i := 2) (v := ?v2b) rfl (by kernel_rfl) (by kernel_rfl) (by kernel_rfl) (fun _ _ _ h => h) (Or.inl ⟨by rfl, ?hy2b⟩) (by assumption) ?_
            case hy2b => (intro w hSw; (try dsimp only at hSw); go_simp; try with_reducible rfl)
            try simp only [Act.put]
            refine wpAnyH_take (i := 3) (v := ?v3b) rfl (by kernel_rfl) (by kernel_rfl) (by kernel_rfl) (fun _ _ _ h => h) (Or.inl ⟨by rfl, ?hy3b⟩) (by assumption) ?_
            case hy3b => (intro w hSw; (try dsimp only at hSw); go_simp; try with_reducible rfl)
            try simp only [Act.put]
            refine wpAnyH_take (i := 4) (v := ?v4b) rfl (by kernel_rfl) (by kernel_rfl) (by kernel_rfl) (fun _ _ _ h => h) (Or.inl ⟨by rfl, ?hy4b⟩) (by assumption) ?_
            case hy4b => (intro w hSw; (try dsimp only at hSw); go_simp; try with_reducible rfl)
            try simp only [Act.put]
            refine wpAnyH_take (i := 5) (v := ?v5b) rfl (by kernel_rfl) (by kernel_rfl) (by kernel_rfl) (fun _ _ _ h => h) (Or.inl ⟨by rfl, ?hy5b⟩) (by assumption) ?_
            case hy5b => (intro w hSw; (try dsimp only at hSw); go_simp; try with_reducible rfl)
            try simp only [Act.put]
            refine wpAnyH_ready (rs := [6]) (by kernel_rfl) (by simp) ?_
            refine AllReadyH.cons rfl (fun K hK => ?_) AllReadyH.nil
            go_simp
            go_at_call 82
            refine (HGB.out _ (Below.refl _ _).drew).mono ?_
            rintro e w6 ⟨rfl, hb6⟩
            have hq6 : Below wr.heap.size wr w6 := (Below.refl wr.heap.size wr).drew.trans hb6
            have z0 := (hb6.cell (p := ⟨w.heap.size, 0, none⟩) (by show w.heap.size < wr.heap.size; omega)).trans x0
            have z1 := (hb6.cell (p := ⟨w.heap.size, 1, none⟩) (by show w.heap.size < wr.heap.size; omega)).trans x1
            have z2 := (hb6.cell (p := ⟨gm, k, none⟩) (by show gm < wr.heap.size; omega)).trans hc
            go_wp2_with fail
            refine hK.out _ _ ?hS6b (fun hHeld => ?_)
            case hS6b => (try dsimp only); exact ⟨z0, z1, z2⟩
            clear hK K
            try simp only [Act.put, List.setIfInBounds_toArray, List.set_cons_zero, List.set_cons_succ]
            refine wpAnyH_take (i := 7) (v := ?v7b) rfl (by kernel_rfl) (by kernel_rfl) (by kernel_rfl) (fun _ _ _ h => h) (Or.inl ⟨by rfl, ?hy7b⟩) (by assumption) ?_
            case hy7b => (intro w hSw; (try dsimp only at hSw); go_simp; try with_reducible rfl)
            try simp only [Act.put, List.setIfInBounds_toArray]
            refine wpAnyH_take (i := 8) (v := ?v8b) rfl (by kernel_rfl) (by kernel_rfl) (by kernel_rfl) (fun _ _ _ h => h) (Or.inl ⟨by rfl, ?hy8b⟩) (by assumption) ?_
            case hy8b => (intro w hSw; (try dsimp only at hSw); go_simp; try with_reducible rfl)
            try simp only [Act.put]
            refine wpAnyH_take (i := 9) (v := ?v9b) rfl (by kernel_rfl) (by kernel_rfl) (by kernel_rfl) (fun _ _ _ h => h) (Or.inl ⟨by rfl, ?hy9b⟩) (by assumption) ?_
            case hy9b => (intro w hSw; (try dsimp only at hSw); go_simp; try with_reducible rfl)
            try simp only [Act.put]
            refine wpAnyH_take (i := 10) (v := ?v10b) rfl (by kernel_rfl) (by kernel_rfl) (by kernel_rfl) (fun _ _ _ h => h) (Or.inl ⟨by rfl, ?hy10b⟩) (by assumption) ?_
            case hy10b => (intro w hSw; (try dsimp only at hSw); go_simp; try with_reducible rfl)
            try simp only [Act.put]
            refine wpAnyH_take (i := 11) (v := ?v11b) rfl (by kernel_rfl) (by kernel_rfl) (by kernel_rfl) (fun _ _ _ h => h) (Or.inl ⟨by rfl, ?hy11b⟩) (by assumption) ?_
            case hy11b => (intro w hSw; (try dsimp only at hSw); go_simp; try with_reducible rfl)
            try simp only [Act.put]
            refine wpAnyH_take (i := 12) (v := ?v12b) rfl (by kernel_rfl) (by kernel_rfl) (by kernel_rfl) (fun _ _ _ h => h) (Or.inl ⟨by rfl, ?hy12b⟩) (by assumption) ?_
            case hy12b => (intro w hSw; (try dsimp only at hSw); go_simp; try with_reducible rfl)
            try simp only [Act.put]
            refine wpAnyH_take (i := 13) (v := ?v13b) rfl (by kernel_rfl) (by kernel_rfl) (by kernel_rfl) (fun _ _ _ h => h) (Or.inl ⟨by rfl, ?hy13b⟩) (by assumption) ?_
            case hy13b => (intro w hSw; (try dsimp only at hSw); go_simp; try with_reducible rfl)
            try simp only [Act.put]
            refine wpAnyH_ready (rs := [14]) (by kernel_rfl) (by simp) ?_
            refine AllReadyH.cons rfl (fun K hK => ?_) AllReadyH.nil
            go_simp
            go_at_call 82
            refine (HGA.out _ hq6).mono ?_
            rintro e w7 ⟨rfl, hb7⟩
            have hq7 : Below wr.heap.size wr w7 := hq6.trans (hb7.mono hq6.size)
            have y0 := (hq7.cell (p := ⟨w.heap.size, 0, none⟩) (by show w.heap.size < wr.heap.size; omega)).trans x0
            have y1 := (hq7.cell (p := ⟨w.heap.size, 1, none⟩) (by show w.heap.size < wr.heap.size; omega)).trans x1
            have y2 := (hq7.cell (p := ⟨gm, k, none⟩) (by show gm < wr.heap.size; omega)).trans hc
            go_wp2_with fail
            refine hK.out _ _ ?hS14b (fun hHeld => ?_)
            case hS14b => (try dsimp only); exact ⟨y0, y1, y2⟩
            clear hK K
            try simp only [Act.put, List.setIfInBounds_toArray, List.set_cons_zero, List.set_cons_succ]
            refine wpAnyH_take (i := 15) (v := ?v15b) rfl (by kernel_rfl) (by kernel_rfl) (by kernel_rfl) (fun _ _ _ h => h) (Or.inl ⟨by rfl, ?hy15b⟩) (by assumption) ?_
            case hy15b => (intro w hSw; (try dsimp only at hSw); go_simp; try with_reducible rfl)
            try simp only [Act.put, List.setIfInBounds_toArray]
            refine wpAnyH_done (by kernel_rfl) ?_ _
            go_wp2
            go_roundw
            case rel => exact ⟨k + 1, gv, cv, by omega, by go_num, by rw [HN2.out], hne, Lib.hid (by rw [HN2.out]; exact owns_below HN.out hq7), Lib.hid (owns_below HO.out hq7), Lib.hid (HB.out.trans (hq7.mono hbl))⟩
            case measure => simp [intOf]; omega
          | true =>
            rw [hga] at HGA
            have HN2 := Lib.hid (HYes.out (by rw [HY.out, hgb, hga]; rfl))
            clear hgb hga
            generalize (l.take k).filter (goesOn ps l) = qs at *
            go_wp2
            refine wp_region_held_drew (S := (fun w' => w'.cell? ⟨w.heap.size, 0, none⟩ = some (.int .i64 kk) ∧ w'.cell? ⟨w.heap.size, 1, none⟩ = some (.slice G ps.length c) ∧ w'.cell? ⟨gm, k, none⟩ = some (.string x))) (by kernel_rfl) ?hS0c (fun hHeld => ?_)
            case hS0c => exact ⟨x0, x1, hc⟩
            refine wpAnyH_take (i := 0) (v := ?v0c) rfl (by kernel_rfl) (by kernel_rfl) (by kernel_rfl) (fun _ _ _ h => h) (Or.inl ⟨by rfl, ?hy0c⟩) (by assumption) ?_
            case hy0c => (intro w hSw; (try dsimp only at hSw); go_simp; try with_reducible rfl)
            try simp only [Act.put, List.setIfInBounds_toArray]
            refine wpAnyH_take (i := 1) (v := ?v1c) rfl (by kernel_rfl) (by kernel_rfl) (by kernel_rfl) (fun _ _ _ h => h) (Or.inl ⟨by rfl, ?hy1c⟩) (by assumption) ?_
            case hy1c => (intro w hSw; (try dsimp only at hSw); go_simp; try with_reducible rfl)
            try simp only [Act.put]
            refine wpAnyH_take (i := 2) (v := ?v2c) rfl (by kernel_rfl) (by kernel_rfl) (by kernel_rfl) (fun _ _ _ h => h) (Or.inl ⟨by rfl, ?hy2c⟩) (by assumption) ?_
            case hy2c => (intro w hSw; (try dsimp only at hSw); go_simp; try with_reducible rfl)
            try simp only [Act.put]
            refine wpAnyH_take (i := 3) (v := ?v3c) rfl (by kernel_rfl) (by kernel_rfl) (by kernel_rfl) (fun _ _ _ h => h) (Or.inl ⟨by rfl, ?hy3c⟩) (by assumption) ?_
            case hy3c => (intro w hSw; (try dsimp only at hSw); go_simp; try with_reducible rfl)
            try simp only [Act.put]
            refine wpAnyH_take (i := 4) (v := ?v4c) rfl (by kernel_rfl) (by kernel_rfl) (by kernel_rfl) (fun _ _ _ h => h) (Or.inl ⟨by rfl, ?hy4c⟩) (by assumption) ?_
            case hy4c => (intro w hSw; (try dsimp only at hSw); go_simp; try with_reducible rfl)
            try simp only [Act.put]
            refine wpAnyH_take (i := 5) (v := ?v5c) rfl (by kernel_rfl) (by kernel_rfl) (by kernel_rfl) (fun _ _ _ h => h) (Or.inl ⟨by rfl, ?hy5c⟩) (by assumption) ?_
            case hy5c => (intro w hSw; (try dsimp only at hSw); go_simp; try with_reducible rfl)
            try simp only [Act.put]
            refine wpAnyH_ready (rs := [6]) (by kernel_rfl) (by simp) ?_
            refine AllReadyH.cons rfl (fun K hK => ?_) AllReadyH.nil
            go_simp
            go_at_call 82
            refine (HGB.out _ (Below.refl _ _).drew).mono ?_
            rintro e w6 ⟨rfl, hb6⟩
            have hq6 : Below wr.heap.size wr w6 := (Below.refl wr.heap.size wr).drew.trans hb6
            have z0 := (hb6.cell (p := ⟨w.heap.size, 0, none⟩) (by show w.heap.size < wr.heap.size; omega)).trans x0
            have z1 := (hb6.cell (p := ⟨w.heap.size, 1, none⟩) (by show w.heap.size < wr.heap.size; omega)).trans x1
            have z2 := (hb6.cell (p := ⟨gm, k, none⟩) (by show gm < wr.heap.size; omega)).trans hc
            go_wp2_with fail
            refine hK.out _ _ ?hS6c (fun hHeld => ?_)
            case hS6c => (try dsimp only); exact ⟨z0, z1, z2⟩
            clear hK K
            try simp only [Act.put, List.setIfInBounds_toArray, List.set_cons_zero, List.set_cons_succ]
            refine wpAnyH_take (i := 7) (v := ?v7c) rfl (by kernel_rfl) (by kernel_rfl) (by kernel_rfl) (fun _ _ _ h => h) (Or.inl ⟨by rfl, ?hy7c⟩) (by assumption) ?_
            case hy7c => (intro w hSw; (try dsimp only at hSw); go_simp; try with_reducible rfl)
            try simp only [Act.put, List.setIfInBounds_toArray]
            refine wpAnyH_take (i := 8) (v := ?v8c) rfl (by kernel_rfl) (by kernel_rfl) (by kernel_rfl) (fun _ _ _ h => h) (Or.inl ⟨by rfl, ?hy8c⟩) (by assumption) ?_
            case hy8c => (intro w hSw; (try dsimp only at hSw); go_simp; try with_reducible rfl)
            try simp only [Act.put]
            refine wpAnyH_take (i := 9) (v := ?v9c) rfl (by kernel_rfl) (by kernel_rfl) (by kernel_rfl) (fun _ _ _ h => h) (Or.inl ⟨by rfl, ?hy9c⟩) (by assumption) ?_
            case hy9c => (intro w hSw; (try dsimp only at hSw); go_simp; try with_reducible rfl)
            try simp only [Act.put]
            refine wpAnyH_take (i := 10) (v := ?v10c) rfl (by kernel_rfl) (by kernel_rfl) (by kernel_rfl) (fun _ _ _ h => h) (Or.inl ⟨by rfl, ?hy10c⟩) (by assumption) ?_
            case hy10c => (intro w hSw; (try dsimp only at hSw); go_simp; try with_reducible rfl)
            try simp only [Act.put]
            refine wpAnyH_take (i := 11) (v := ?v11c) rfl (by kernel_rfl) (by kernel_rfl) (by kernel_rfl) (fun _ _ _ h => h) (Or.inl ⟨by rfl, ?hy11c⟩) (by assumption) ?_
            case hy11c => (intro w hSw; (try dsimp only at hSw); go_simp; try with_reducible rfl)
            try simp only [Act.put]
            refine wpAnyH_take (i := 12) (v := ?v12c) rfl (by kernel_rfl) (by kernel_rfl) (by kernel_rfl) (fun _ _ _ h => h) (Or.inl ⟨by rfl, ?hy12c⟩) (by assumption) ?_
            case hy12c => (intro w hSw; (try dsimp only at hSw); go_simp; try with_reducible rfl)
            try simp only [Act.put]
            refine wpAnyH_take (i := 13) (v := ?v13c) rfl (by kernel_rfl) (by kernel_rfl) (by kernel_rfl) (fun _ _ _ h => h) (Or.inl ⟨by rfl, ?hy13c⟩) (by assumption) ?_
            case hy13c => (intro w hSw; (try dsimp only at hSw); go_simp; try with_reducible rfl)
            try simp only [Act.put]
            refine wpAnyH_ready (rs := [14]) (by kernel_rfl) (by simp) ?_
            refine AllReadyH.cons rfl (fun K hK => ?_) AllReadyH.nil
            go_simp
            go_at_call 82
            refine (HGA.out _ hq6).mono ?_
            rintro e w7 ⟨rfl, hb7⟩
            have hq7 : Below wr.heap.size wr w7 := hq6.trans (hb7.mono hq6.size)
            have y0 := (hq7.cell (p := ⟨w.heap.size, 0, none⟩) (by show w.heap.size < wr.heap.size; omega)).trans x0
            have y1 := (hq7.cell (p := ⟨w.heap.size, 1, none⟩) (by show w.heap.size < wr.heap.size; omega)).trans x1
            have y2 := (hq7.cell (p := ⟨gm, k, none⟩) (by show gm < wr.heap.size; omega)).trans hc
            go_wp2_with fail
            refine hK.out _ _ ?hS14c (fun hHeld => ?_)
            case hS14c => (try dsimp only); exact ⟨y0, y1, y2⟩
            clear hK K
            try simp only [Act.put, List.setIfInBounds_toArray, List.set_cons_zero, List.set_cons_succ]
            refine wpAnyH_take (i := 15) (v := ?v15c) rfl (by kernel_rfl) (by kernel_rfl) (by kernel_rfl) (fun _ _ _ h => h) (Or.inl ⟨by rfl, ?hy15c⟩) (by assumption) ?_
            case hy15c => (intro w hSw; (try dsimp only at hSw); go_simp; try with_reducible rfl)
            try simp only [Act.put, List.setIfInBounds_toArray]
            refine wpAnyH_done (by kernel_rfl) ?_ _
            have OQ := Lib.hid (owns_below HN.out hq7)
            have OL := Lib.hid (owns_below HO.out hq7)
            have B7 := Lib.hid (HB.out.trans (hq7.mono hbl))
            have s7 : wr.heap.size ≤ w7.heap.size := hq7.size
            go_wp2_with (at_builtin; refine wpList_append_lies _ rfl (.tmp 31) (.tmp 36) 22 rfl Wb.heap.size 9 i0 (.string ByteArray.empty) 1 16 Try.underlying22 hi hz0 hz1 hz2 rfl (by decide) _ _ _ rfl (OQ.out.alloc _) ⟨w7.heap.size, 0, none⟩ 1 1 [.string x] rfl rfl (cell_one_new w7 _ _) (one_cell x) (by decide) (by unfold maxLen; omega) (by omega) (by simp; omega) (w7.heap.size + 1) (by simp) ?_; intro gg cap2 w2 ho2 hg2 hat2 hlt2; have HAP := Lib.hid (appended2 B7.out OL.out OQ.out hgne hg2 hat2); have HO2 := Lib.hid ho2; clear ho2 hg2 hat2)
            obtain ⟨p1, p2, p3⟩ := HAP.out
            go_roundw
            case rel => exact ⟨k + 1, gg, cap2, by omega, by go_num, by rw [HN2.out]; simp, Lib.hid (fun b hb => by have := Option.some.inj hb; injection this with h1; omega), Lib.hid (by rw [HN2.out, List.length_append, List.map_append]; exact HO2.out), Lib.hid p2, Lib.hid p1⟩
            case measure => simp [intOf]; omega
      · obtain rfl : k = l.length := by omega
        have HN' := HN.out
        rw [List.take_length] at HN'
        rw [List.take_length]
        have HN2 := Lib.hid HN'
        have hst : (stepW ps l).length = (l.filter (goesOn ps l)).length := rfl
        have hle := stepW_length ps l
        have HM : Hid (∀ x ∈ l.filter (goesOn ps l), x.size = 2) := Lib.hid (fun x hx => H2.out x (List.mem_filter.1 hx).1)
        clear HN'
        by_cases he : (stepW ps l).length = l.length
        · have HP := Lib.hid (HF.out.trans (fixW_stop he n))
          have ge : (((l.filter (goesOn ps l)).length : Int) == (l.length : Int)) = true := by rw [beq_iff_eq]; omega
          generalize l.filter (goesOn ps l) = qs at *
          go_wp2
          go_ret
          rw [HP.out]
          exact ⟨_, rfl, HO.out.mono (by omega), BB.out.trans (HB.out.mono (by omega))⟩
        · have ge : (((l.filter (goesOn ps l)).length : Int) == (l.length : Int)) = false := beq_eq_false_iff_ne.2 (by omega)
          obtain ⟨m, rfl⟩ : ∃ m, n = m + 1 := ⟨n - 1, by omega⟩
          have HP := Lib.hid (HF.out.trans (fixW_go (n := m) he))
          have HD : Hid (stepW ps l = l.filter (goesOn ps l)) := Lib.hid rfl
          rw [HD.out] at HP
          generalize l.filter (goesOn ps l) = qs at *
          go_wp2
          go_roundw
          case rel => exact ⟨m, qs, some ⟨gv, 0, none⟩, cv, rfl, by omega, by omega, HP, HM, HN2, HB⟩
          case measure => simp [sliceLen]; omega
end Go.Proofs.Ytalclebehbdliaa
