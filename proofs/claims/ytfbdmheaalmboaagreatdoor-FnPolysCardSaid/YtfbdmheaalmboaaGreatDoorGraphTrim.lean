/-
  The model's LivelyOf, TrimGraph and IsLively: what the plain words say, in new memory; nothing that was there before is changed.
-/
import Derived.Test.YtfbdmheaalmboaaGreatDoorGraphLive
import Derived.StillTailTactics
namespace Go.Proofs.YtfbdmheaalmboaaGreatDoor
open Go Go.RowKit

theorem bools_far {w w' : World} {g n : Nat} {S : Nat → Bool} {r : Option Nat} (h : ∀ u, u < n → w.cell? ⟨g, u, none⟩ = some (.bool (S u))) (hl : g < w.heap.size) (hg : w.grownBy w' r) (hne : r ≠ some g) : (∀ u, u < n → w'.cell? ⟨g, u, none⟩ = some (.bool (S u))) ∧ g < w'.heap.size := by
  refine ⟨fun u hu => ?_, Nat.lt_of_lt_of_le hl hg.size⟩
  have hb := hg.block g hl (Ne.symm hne)
  have := h u hu
  unfold World.cell? at this ⊢
  rw [hb]; exact this
theorem list_more {w w1 w2 : World} {g gL cap k : Nat} {v : Value} {xs : List Int} {x : Int} {n : Nat} {S : Nat → Bool} (hB : Below w.heap.size w w1) (hO : w1.ownsRow w.heap.size 3 1 v xs.length (xs.map (Value.int .i64))) (hS : ∀ u, u < n → w1.cell? ⟨gL, u, none⟩ = some (.bool (S u))) (hgL : gL < w1.heap.size) (hne : v.ownBlock ≠ some gL) (o : Obj) (hk : k = xs.length + 1)
    (ho2 : w2.ownsRow w.heap.size 3 1 (.slice (some ⟨g, 0, none⟩) k cap) k (xs.map (Value.int .i64) ++ [.int .i64 x])) (hg : (w1.alloc o).grownBy w2 v.ownBlock) (hat : v.ownBlock = some g ∨ g = w1.heap.size + 1) :
    w2.ownsRow w.heap.size 3 1 (.slice (some ⟨g, 0, none⟩) k cap) (xs ++ [x]).length ((xs ++ [x]).map (Value.int .i64)) ∧ Below w.heap.size w w2 ∧ (∀ u, u < n → w2.cell? ⟨gL, u, none⟩ = some (.bool (S u))) ∧ gL < w2.heap.size ∧ (Value.slice (some ⟨g, 0, none⟩) k cap).ownBlock ≠ some gL := by
  subst hk
  have hs := hB.size
  obtain ⟨t1, t2⟩ := bools_far (w := w1.alloc o) (fun u hu => (((Below.refl w1.heap.size w1).alloc (Nat.le_refl _) o).cell (p := ⟨gL, u, none⟩) hgL).trans (hS u hu)) (by simp; omega) hg hne
  refine ⟨by rw [List.length_append, List.map_append]; exact ho2, (hB.alloc hs o).grown hg (by simp; omega) fun q hq => (hO.lt q hq).1, t1, t2, fun e => ?_⟩
  have e' : g = gL := Option.some.inj e
  subst e'
  rcases hat with h | h
  · exact hne h
  · omega

def partF (m : List (List Int)) (l : List Int) : Nat → Nat → Int := fun i j => cellOf m (l.getD i 0).toNat (l.getD j 0).toNat
theorem partM_as (m : List (List Int)) (l : List Int) : partM m l = tabOf l.length l.length (partF m l) := rfl
def partRow (m : List (List Int)) (l : List Int) (i t : Nat) : List Int := (List.range t).map (partF m l i)
theorem partRow_next (m : List (List Int)) (l : List Int) (i t : Nat) : partRow m l i (t + 1) = partRow m l i t ++ [partF m l i t] := by
  unfold partRow; rw [List.range_succ, List.map_append]; rfl
theorem partRow_length (m : List (List Int)) (l : List Int) (i t : Nat) : (partRow m l i t).length = t := by unfold partRow; simp
theorem cell_more {w1 w2 : World} {B g cap k : Nat} {v : Value} {xs : List Int} {x : Int} {W0 : World} (hb : Below B W0 w1) (h0 : B ≤ w1.heap.size) (hO : w1.ownsRow B 3 1 v xs.length (xs.map (Value.int .i64))) (o : Obj) (hk : k = xs.length + 1)
    (ho2 : w2.ownsRow B 3 1 (.slice (some ⟨g, 0, none⟩) k cap) k (xs.map (Value.int .i64) ++ [.int .i64 x])) (hg : (w1.alloc o).grownBy w2 v.ownBlock) :
    w2.ownsRow B 3 1 (.slice (some ⟨g, 0, none⟩) k cap) (xs ++ [x]).length ((xs ++ [x]).map (Value.int .i64)) ∧ Below B W0 w2 := by
  subst hk
  exact ⟨by rw [List.length_append, List.map_append]; exact ho2, (hb.alloc h0 o).grown hg (by simp; omega) fun q hq => (hO.lt q hq).1⟩
theorem part_more {B : Nat} {wr w4 w5 : World} {gg cap : Nat} {v u : Value} {vs : List Value} {G : List (List Int)} {xs : List Int} (hO : wr.ownsRow B 26 1 v G.length vs) (hR : RowsOwn wr B v.ownBlock vs G) (hb : Below wr.heap.size wr w4) (hB : B ≤ wr.heap.size)
    (hu : w4.ownsRow wr.heap.size 3 1 u xs.length (xs.map (Value.int .i64))) (o : Obj)
    (ho3 : w5.ownsRow B 26 1 (.slice (some ⟨gg, 0, none⟩) (G.length + 1) cap) (G.length + 1) (vs ++ [u])) (hg3 : (w4.alloc o).grownBy w5 v.ownBlock) (hat : v.ownBlock = some gg ∨ gg = w4.heap.size + 1) :
    w5.ownsRow B 26 1 (.slice (some ⟨gg, 0, none⟩) (G.length + 1) cap) (G ++ [xs]).length (vs ++ [u]) ∧ RowsOwn w5 B (Value.slice (some ⟨gg, 0, none⟩) (G.length + 1) cap).ownBlock (vs ++ [u]) (G ++ [xs]) ∧ (∀ W : World, B = W.heap.size → Below B W wr → Below B W w5) := by
  have hb1 : Below wr.heap.size wr (w4.alloc o) := hb.alloc hb.size o
  have hs4 := hb.size
  refine ⟨by rw [List.length_append]; exact ho3, own_append (w := w4.alloc o) (cap := cap) hO hR hb1 (World.ownsRow.alloc (World.ownsRow.mono hu hB) o) (fun g hg => (hu.lt g hg).1) ho3 hg3 (by rw [World.size_alloc]; exact hat), fun W hW hbW => ?_⟩
  exact (hbW.trans (hb1.mono hB)).grown hg3 (by simp; omega) fun q hq => (hO.lt q hq).1

set_option maxRecDepth 100000 in
set_option maxHeartbeats 3200000 in
theorem spec_part (A : Option Addr) (c : Nat) (m : List (List Int)) (hm : MatFacts m) (Al : Option Addr) (cl : Nat) (l : List Int) (hl : l.length ≤ 1048576) (hv : ∀ k, k < l.length → 0 ≤ l.getD k 0 ∧ l.getD k 0 < (m.length : Int)) (w : World) (hg : GridS w A m) (hr : RowS w Al l) :
    Calls Tryz.prog 68 #[.slice A m.length c, .slice Al l.length cl] w (NewG (partM m l) w) := by
  obtain ⟨i0, hi, hz0, hz1, hz2⟩ := info_parts infoSl
  obtain ⟨j0, hj, hy0, hy1, hy2⟩ := info_parts infoInt
  have HM0 := Lib.hid (World.ownsRow_made (base := w.heap.size) (e := 26) (size := 1) w #[] 0 (Nat.le_refl _) (by unfold maxLen; omega) rfl)
  have HG := Lib.hid hg
  have HR := Lib.hid hr
  have HV := Lib.hid hv
  have HF := Lib.hid hm
  rw [partM_as]
  have HNX : Hid (∀ i, tabOf (i + 1) l.length (partF m l) = tabOf i l.length (partF m l) ++ [partRow m l i l.length]) := Lib.hid fun i => tabOf_next i l.length (partF m l)
  have HRN := Lib.hid (partRow_next m l)
  have HRL := Lib.hid (partRow_length m l)
  have HPF : Hid (∀ i j : Nat, partF m l i j = cellOf m (l.getD i 0).toNat (l.getD j 0).toNat) := Lib.hid fun _ _ => rfl
  have HTL : Hid (∀ i, (tabOf i l.length (partF m l)).length = i) := Lib.hid fun i => tabOf_length _ _ _
  clear hg hr hv hm
  go_enter Tryz.func68, Tryz.ntmps68
  go_wp2
  go_loopw [5, 6] (fun v iv wr => ∃ (i : Nat) (vs : List Value), i ≤ l.length ∧ iv = .int .i64 i ∧ wr.ownsRow w.heap.size 26 1 v (tabOf i l.length (partF m l)).length vs ∧ RowsOwn wr w.heap.size v.ownBlock vs (tabOf i l.length (partF m l)) ∧ Below w.heap.size w wr) (fun _ i _ => l.length - (intOf i).toNat)
  case atStart => exact ⟨0, [], Nat.zero_le _, rfl, HM0.out, RowsOwn.nil _ _ _, (Below.refl _ _).alloc (Nat.le_refl _) _⟩
  case round =>
    obtain ⟨i, vs, hi2, rfl, hO, hR, hbl⟩ := hrel
    obtain ⟨W0, rfl⟩ : ∃ W0 : World, W0 = wr := ⟨_, rfl⟩
    by_cases hil : i < l.length
    · have HO := Lib.hid hO
      have HRO := Lib.hid hR
      have HB := Lib.hid hbl
      have hw0 := hbl.size
      have HI0 := Lib.hid (World.ownsRow_made (base := W0.heap.size) (e := 3) (size := 1) W0 #[] 0 (Nat.le_refl _) (by unfold maxLen; omega) rfl)
      clear hO hR hbl
      go_wp2
      go_loopw [7, 8] (fun u jv w4 => ∃ t : Nat, t ≤ l.length ∧ jv = .int .i64 t ∧ w4.ownsRow W0.heap.size 3 1 u (partRow m l i t).length ((partRow m l i t).map (Value.int .i64)) ∧ Below W0.heap.size W0 w4) (fun _ j _ => l.length - (intOf j).toNat)
      case atStart => exact ⟨0, Nat.zero_le _, rfl, HI0.out, (Below.refl _ _).alloc (Nat.le_refl _) _⟩
      case round =>
        obtain ⟨t, ht, rfl, hU, hb4⟩ := hrel
        by_cases htl : t < l.length
        · obtain ⟨lb, lo, rfl, hat, hlb⟩ := (HR.out.below HB.out) (by omega)
          have a0 := hat i hil
          have a1 := hat t htl
          have vx := HV.out i hil
          have vy := HV.out t htl
          have HP := Lib.hid (HPF.out i t)
          have HRN1 := Lib.hid (HRN.out i t)
          have HRL1 := Lib.hid (HRL.out i t)
          generalize l.getD i 0 = x at *
          generalize l.getD t 0 = y at *
          obtain ⟨xn, rfl⟩ : ∃ n : Nat, x = (n : Int) := ⟨x.toNat, by omega⟩
          obtain ⟨yn, rfl⟩ : ∃ n : Nat, y = (n : Int) := ⟨y.toNat, by omega⟩
          rw [Int.toNat_natCast, Int.toNat_natCast] at HP
          obtain ⟨b1, o1, b2, o2, c2, rfl, a2, a3, hb1, hb2⟩ := (HG.out.below HB.out).num (i := xn) (by omega) (j := yn) (by rw [HF.out.row xn (by omega)]; omega)
          rw [HF.out.row xn (by omega)] at a2
          rw [HP.out] at HRN1
          generalize cellOf m xn yn = z at *
          have e0 := (hb4.cell (p := ⟨lb, lo + i, none⟩) hlb).trans a0
          have e1 := (hb4.cell (p := ⟨lb, lo + t, none⟩) hlb).trans a1
          have e2 := (hb4.cell (p := ⟨b1, o1 + xn, none⟩) hb1).trans a2
          have e3 := (hb4.cell (p := ⟨b2, o2 + yn, none⟩) hb2).trans a3
          have A0 := Lib.hid a0
          have A1 := Lib.hid a1
          have A2 := Lib.hid a2
          have A3 := Lib.hid a3
          obtain ⟨gx0, gx1⟩ := vx
          obtain ⟨gy0, gy1⟩ := vy
          have HU := Lib.hid hU
          have HB4 := Lib.hid hb4
          have hs4 := hb4.size
          have gi0 : (0 : Int) ≤ (i : Int) := by omega
          have gt0 : (0 : Int) ≤ (t : Int) := by omega
          have gi : (i : Int) < (l.length : Int) := by omega
          have gt : (t : Int) < (l.length : Int) := by omega
          have hpr : (partRow m l i t).length ≤ 1048576 := by rw [HRL1.out]; omega
          clear hU hb4 hat a0 a1 a2 a3
          generalize hX : partRow m l i t = X at *
          go_wp2
          go_region_held3 (fun w' => w'.cell? ⟨lb, lo + i, none⟩ = some (.int .i64 (xn : Int)) ∧ w'.cell? ⟨lb, lo + t, none⟩ = some (.int .i64 (yn : Int)) ∧ w'.cell? ⟨b1, o1 + xn, none⟩ = some (.slice (some ⟨b2, o2, none⟩) m.length c2) ∧ w'.cell? ⟨b2, o2 + yn, none⟩ = some (.int .i64 z)) (first | exact ⟨y0, y1, y2, y3⟩ | go_keep)
            ((refine step_append_lies _ (by rfl) _ _ _ (by rfl) W0.heap.size 3 j0 _ 1 8 Tryz.underlying26 hj hy0 hy1 hy2 rfl (by omega) u7 X.length (X.map (Value.int .i64)) (by rfl) ((HU.out.alloc _).drew) ⟨wr.heap.size, 0, none⟩ 1 1 [.int .i64 z] (by rfl) (by rfl) (World.news_of_block (cs := #[.int .i64 z]) (t := 3) (fr := (0, 0)) (heap_alloc_new wr _)) (by simp [Value.oneCell']) (by omega) (by unfold maxLen; omega) (by omega) (by simp; omega) (wr.heap.size + 1) (by simp) ?_; intro gg cap w6 ho6 hg6 hat6 hlt6; have HBN := Lib.hid ((HB4.out.alloc hs4 _).drew.grown hg6 (by simp; omega) (fun q hq => (HU.out.lt q hq).1)); have y0 := (HBN.out.cell (p := ⟨lb, lo + i, none⟩) hlb).trans A0.out; have y1 := (HBN.out.cell (p := ⟨lb, lo + t, none⟩) hlb).trans A1.out; have y2 := (HBN.out.cell (p := ⟨b1, o1 + xn, none⟩) hb1).trans A2.out; have y3 := (HBN.out.cell (p := ⟨b2, o2 + yn, none⟩) hb2).trans A3.out; have HO6 := Lib.hid ho6; clear ho6 hg6 hat6))
          go_wp2
          go_roundw
          case rel => exact ⟨t + 1, by omega, by go_num, by rw [HRN1.out, List.length_append, List.map_append]; exact HO6.out, HBN.out⟩
          case measure => simp [intOf]; omega
        · obtain rfl : t = l.length := by omega
          have HU := Lib.hid hU
          have HB4 := Lib.hid hb4
          have hs4 := hb4.size
          have HOK := Lib.hid (kept_below HO.out hb4)
          have HGK := Lib.hid (HTL.out i)
          have HNX1 := Lib.hid (HNX.out i)
          obtain ⟨A7, c7, rfl⟩ := slice_of_owns hU
          clear hU hb4
          generalize tabOf i l.length (partF m l) = G at *
          generalize partRow m l i l.length = X at *
          go_wp2_with (at_builtin; refine wpList_append_lies _ rfl (.tmp 39) (.tmp 41) 24 rfl w.heap.size 26 i0 (.slice none 0 0) 1 24 Tryz.underlying24 hi hz0 hz1 hz2 rfl (by decide) _ _ _ rfl (HOK.out.alloc _) ⟨wr.heap.size, 0, none⟩ 1 1 [.slice A7 X.length c7] rfl rfl (World.news_of_block (cs := #[.slice A7 X.length c7]) (t := 26) (fr := (0, 0)) (heap_alloc_new wr _)) (by simp [Value.oneCell']) (by decide) (by rw [HGK.out]; unfold maxLen; omega) (by rw [HGK.out]; omega) (by simp; omega) (wr.heap.size + 1) (by simp) ?_; intro gg cap w6 ho6 hg6 hat6 hlt6; have HM := Lib.hid (part_more HO.out HRO.out HB4.out hw0 HU.out _ ho6 hg6 hat6); clear ho6 hg6 hat6)
          go_roundw
          case rel => exact ⟨i + 1, _, by omega, by go_num, by rw [HNX1.out]; exact HM.out.1, by rw [HNX1.out]; exact HM.out.2.1, HM.out.2.2 _ rfl HB.out⟩
          case measure => simp [intOf]; omega
    · obtain rfl : i = l.length := by omega
      have HO := Lib.hid hO
      have HRO := Lib.hid hR
      clear hO hR
      go_wp2
      go_ret
      exact ⟨_, rfl, ⟨vs, HO.out, HRO.out⟩, hbl⟩

theorem livelyM_in {m : List (List Int)} {k : Nat} (hk : k < (livelyM m).length) : 0 ≤ (livelyM m).getD k 0 ∧ (livelyM m).getD k 0 < (m.length : Int) := by
  unfold livelyM at hk ⊢
  by_cases hm : isMat m = true
  · rw [if_pos hm] at hk ⊢
    have e : (liveList m m.length).getD k 0 = (liveList m m.length)[k] := by simp [List.getD, hk]
    rw [e]
    obtain ⟨i, hi, h1, _⟩ := liveList_mem (List.getElem_mem hk)
    rw [hi]
    omega
  · rw [if_neg hm] at hk
    simp at hk
theorem livelyM_le (m : List (List Int)) : (livelyM m).length ≤ 9 := by
  unfold livelyM
  split
  · next h =>
    have := liveList_le m m.length
    have := (isMat_facts h).le
    omega
  · simp

end Go.Proofs.YtfbdmheaalmboaaGreatDoor
