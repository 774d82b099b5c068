/-
  The model's LivelyOf, TrimGraph and IsLively: what the plain words say, in new memory; nothing that was there before is changed.
-/
import Derived.Test.YtalclebehbdliaaGreatGraphLive
import Derived.StillTailTactics
namespace Go.Proofs.YtalclebehbdliaaGreat
open Go Go.RowKit

theorem bools_far {w w' : World} {g n : Nat} {S : Nat → Bool} {r : Option Nat} (h : ∀ u, u < n → w.cell? ⟨g, u, none⟩ = some (.bool (S u))) (hl : g < w.heap.size) (hg : w.grownBy w' r) (hne : r ≠ some g) : (∀ u, u < n → w'.cell? ⟨g, u, none⟩ = some (.bool (S u))) ∧ g < w'.heap.size := by
  refine ⟨fun u hu => ?_, Nat.lt_of_lt_of_le hl hg.size⟩
  have hb := hg.block g hl (Ne.symm hne)
  have := h u hu
  unfold World.cell? at this ⊢
  rw [hb]; exact this
theorem list_more {w w1 w2 : World} {g gL cap k : Nat} {v : Value} {xs : List Int} {x : Int} {n : Nat} {S : Nat → Bool} (hB : Below w.heap.size w w1) (hO : w1.ownsRow w.heap.size 3 1 v xs.length (xs.map (Value.int .i64))) (hS : ∀ u, u < n → w1.cell? ⟨gL, u, none⟩ = some (.bool (S u))) (hgL : gL < w1.heap.size) (hne : v.ownBlock ≠ some gL) (o : Obj) (hk : k = xs.length + 1)
    (ho2 : w2.ownsRow w.heap.size 3 1 (.slice (some ⟨g, 0, none⟩) k cap) k (xs.map (Value.int .i64) ++ [.int .i64 x])) (hg : (w1.alloc o).grownBy w2 v.ownBlock) (hat : v.ownBlock = some g ∨ g = w1.heap.size + 1) :
    w2.ownsRow w.heap.size 3 1 (.slice (some ⟨g, 0, none⟩) k cap) (xs ++ [x]).length ((xs ++ [x]).map (Value.int .i64)) ∧ Below w.heap.size w w2 ∧ (∀ u, u < n → w2.cell? ⟨gL, u, none⟩ = some (.bool (S u))) ∧ gL < w2.heap.size ∧ (Value.slice (some ⟨g, 0, none⟩) k cap).ownBlock ≠ some gL := by
  subst hk
  have hs := hB.size
  obtain ⟨t1, t2⟩ := bools_far (w := w1.alloc o) (fun u hu => (((Below.refl w1.heap.size w1).alloc (Nat.le_refl _) o).cell (p := ⟨gL, u, none⟩) hgL).trans (hS u hu)) (by simp; omega) hg hne
  refine ⟨by rw [List.length_append, List.map_append]; exact ho2, (hB.alloc hs o).grown hg (by simp; omega) fun q hq => (hO.lt q hq).1, t1, t2, fun e => ?_⟩
  have e' : g = gL := Option.some.inj e
  subst e'
  rcases hat with h | h
  · exact hne h
  · omega

set_option maxRecDepth 100000 in
set_option maxHeartbeats 1600000 in
theorem spec_livelyOf (A : Option Addr) (c : Nat) (m : List (List Int)) (hn : m.length ≤ 1099511627776) (ht : ∀ k, k < m.length → (m.getD k []).length ≤ 1099511627776) (w : World) (hg : GridS w A m) :
    Calls Tryz.prog 71 #[.slice A m.length c] w (NewA (livelyM m) w) := by
  obtain ⟨j0, hj, hy0, hy1, hy2⟩ := info_parts infoInt
  have hb0 : Below w.heap.size w (w.alloc (.cells #[] 3)) := (Below.refl _ _).alloc (Nat.le_refl _) _
  have HI := Lib.hid (spec_isMatrix A c m hn ht _ (hg.below hb0))
  have HE : Hid ((w.alloc (.cells #[] 3)).ownsRow w.heap.size 3 1 (.slice (some ⟨w.heap.size, 0, none⟩) 0 0) 0 []) := Lib.hid (World.ownsRow_made (base := w.heap.size) (e := 3) (size := 1) w #[] 0 (Nat.le_refl _) (by unfold maxLen; omega) rfl)
  unfold livelyM
  cases hm : isMat m with
  | false =>
    rw [if_neg (by decide)]
    rw [hm] at HI
    have HB0 := Lib.hid hb0
    clear hg ht hb0
    go_enter Tryz.func71, Tryz.ntmps71
    go_wp2_with fail
    refine HI.out.mono ?_
    rintro e w1 ⟨rfl, rfl⟩
    go_wp2
    go_ret
    exact ⟨_, rfl, HE.out, HB0.out⟩
  | true =>
    rw [if_pos rfl]
    rw [hm] at HI
    have hf := isMat_facts hm
    have hle := hf.le
    have HL := Lib.hid (spec_live A c m hf _ (hg.below hb0))
    have HB0 := Lib.hid hb0
    clear hg ht hb0 hf hm
    go_enter Tryz.func71, Tryz.ntmps71
    go_wp2_with fail
    refine HI.out.mono ?_
    rintro e w1 ⟨rfl, hw⟩
    have hw' := hw.symm
    subst hw'
    go_wp2_with fail
    refine HL.out.mono ?_
    rintro e w2 ⟨rfl, ho2, hb2, hlt2⟩
    rw [World.size_alloc] at ho2 hb2 hlt2
    have hcs : ∀ u, u < m.length → w2.cell? ⟨w.heap.size + 1, u, none⟩ = some (.bool (liveM m u)) := fun u hu => (ho2.cellAt u (by omega)).trans (boolsOf_at hu)
    have HCS := Lib.hid hcs
    have HO2 := Lib.hid (kept_below HE.out (by rw [World.size_alloc]; exact hb2))
    have HB2 := Lib.hid (HB0.out.trans (hb2.mono (by omega)))
    clear ho2 hb2 hcs
    rw [World.size_alloc]
    go_wp2
    go_loopw [3, 5] (fun v i wr => ∃ k : Nat, k ≤ m.length ∧ i = .int .i64 k ∧ wr.ownsRow w.heap.size 3 1 v (liveList m k).length ((liveList m k).map (Value.int .i64)) ∧ (∀ u, u < m.length → wr.cell? ⟨w.heap.size + 1, u, none⟩ = some (.bool (liveM m u))) ∧ w.heap.size + 1 < wr.heap.size ∧ v.ownBlock ≠ some (w.heap.size + 1) ∧ Below w.heap.size w wr) (fun _ i _ => m.length - (intOf i).toNat)
    case atStart => exact ⟨0, Nat.zero_le _, rfl, HO2.out, HCS.out, hlt2, fun h => by have h2 : w.heap.size = w.heap.size + 1 := Option.some.inj h; omega, HB2.out⟩
    case round =>
      obtain ⟨k, hk, rfl, ho, hcs, hgl, hne, hbl⟩ := hrel
      by_cases hkl : k < m.length
      · have hc := hcs k hkl
        have HNX := Lib.hid (liveList_next m k)
        have hll := liveList_le m k
        have HO := Lib.hid ho
        have HC2 := Lib.hid hcs
        have HB := Lib.hid hbl
        have HNE := Lib.hid hne
        have hsz := hbl.size
        clear ho hcs hbl hne
        cases hS : liveM m k with
        | false =>
          rw [hS] at hc HNX
          have HNX2 : Hid (liveList m (k + 1) = liveList m k) := Lib.hid (by rw [HNX.out, if_neg (by decide), List.append_nil])
          rw [← HNX2.out] at HO
          clear hS
          go_wp2
          go_roundw
          case rel => exact ⟨k + 1, by omega, by go_num, HO.out, HC2.out, hgl, HNE.out, HB.out⟩
          case measure => simp [intOf]; omega
        | true =>
          rw [hS] at hc HNX
          have HNX2 : Hid (liveList m (k + 1) = liveList m k ++ [(k : Int)]) := Lib.hid (by rw [HNX.out, if_pos rfl])
          clear hS
          generalize hxs : liveList m k = xs at *
          go_wp2_with (at_builtin; refine wpList_append_lies _ rfl (.tmp 23) (.tmp 25) 56 rfl w.heap.size 3 j0 (.int .i64 0) 1 8 Tryz.underlying56 hj hy0 hy1 hy2 rfl (by decide) _ _ _ rfl (HO.out.alloc _) ⟨wr.heap.size, 0, none⟩ 1 1 [.int .i64 (k : Int)] rfl rfl (World.news_of_block (cs := #[.int .i64 (k : Int)]) (t := 3) (fr := (0, 0)) (heap_alloc_new wr _)) (by simp [Value.oneCell']) (by decide) (by unfold maxLen; omega) (by omega) (by simp; omega) (wr.heap.size + 1) (by simp) ?_; intro gg cap w3 ho3 hg3 hat3 hlt3; have HT := Lib.hid (list_more HB.out HO.out HC2.out hgl HNE.out _ rfl ho3 hg3 hat3); clear ho3 hg3 hat3)
          go_roundw
          case rel => exact ⟨k + 1, by omega, by go_num, by rw [HNX2.out]; exact HT.out.1, HT.out.2.2.1, HT.out.2.2.2.1, HT.out.2.2.2.2, HT.out.2.1⟩
          case measure => simp [intOf]; omega
      · obtain rfl : k = m.length := by omega
        have HO := Lib.hid ho
        clear ho
        go_wp2
        go_ret
        exact ⟨_, rfl, HO.out, hbl⟩

set_option maxRecDepth 100000 in
theorem spec_isLively (A : Option Addr) (c : Nat) (m : List (List Int)) (hn : m.length ≤ 1099511627776) (ht : ∀ k, k < m.length → (m.getD k []).length ≤ 1099511627776) (w : World) (hg : GridS w A m) :
    Calls Tryz.prog 28 #[.slice A m.length c] w (Scalar (.bool (isLivelyM m)) w) := by
  have HI := Lib.hid (spec_isMatrix A c m hn ht w hg)
  have HL := Lib.hid (spec_livelyOf A c m hn ht w hg)
  unfold isLivelyM
  clear hg ht
  cases hm : isMat m with
  | false =>
    rw [hm] at HI
    go_enter Tryz.func28, Tryz.ntmps28
    go_wp2_with fail
    refine HI.out.mono ?_
    rintro e w1 ⟨rfl, rfl⟩
    go_wp2
    go_ret
    exact ⟨rfl, Below.refl _ _⟩
  | true =>
    rw [hm] at HI
    generalize livelyM m = l at *
    clear hm
    go_enter Tryz.func28, Tryz.ntmps28
    go_wp2_with fail
    refine HI.out.mono ?_
    rintro e w1 ⟨rfl, hw⟩
    obtain rfl : w = w1 := hw.symm
    go_wp2_with fail
    refine HL.out.mono ?_
    rintro e w2 ⟨v, rfl, ho, hb⟩
    obtain ⟨A', c', rfl, -⟩ := ho.rowV
    clear ho
    by_cases he : l.length = m.length
    · have e1 : ((l.length : Int) == (m.length : Int)) = true := by rw [he]; exact beq_self_eq_true _
      rw [decide_eq_true he]
      have HE := Lib.hid he
      clear he
      go_wp2
      go_ret
      exact ⟨by simp [HE.out], hb⟩
    · have e1 : ((l.length : Int) == (m.length : Int)) = false := by
        cases e : ((l.length : Int) == (m.length : Int)) with
        | false => rfl
        | true => have := eq_of_beq e; omega
      rw [decide_eq_false he]
      go_wp2
      go_ret
      exact ⟨by simp [he], hb⟩

/-! ### Some rows and columns only -/

def partF (m : List (List Int)) (l : List Int) : Nat → Nat → Int := fun i j => cellOf m (l.getD i 0).toNat (l.getD j 0).toNat
theorem partM_as (m : List (List Int)) (l : List Int) : partM m l = tabOf l.length l.length (partF m l) := rfl
def partRow (m : List (List Int)) (l : List Int) (i t : Nat) : List Int := (List.range t).map (partF m l i)
theorem partRow_next (m : List (List Int)) (l : List Int) (i t : Nat) : partRow m l i (t + 1) = partRow m l i t ++ [partF m l i t] := by
  unfold partRow; rw [List.range_succ, List.map_append]; rfl
theorem partRow_length (m : List (List Int)) (l : List Int) (i t : Nat) : (partRow m l i t).length = t := by unfold partRow; simp
theorem cell_more {w1 w2 : World} {B g cap k : Nat} {v : Value} {xs : List Int} {x : Int} {W0 : World} (hb : Below B W0 w1) (h0 : B ≤ w1.heap.size) (hO : w1.ownsRow B 3 1 v xs.length (xs.map (Value.int .i64))) (o : Obj) (hk : k = xs.length + 1)
    (ho2 : w2.ownsRow B 3 1 (.slice (some ⟨g, 0, none⟩) k cap) k (xs.map (Value.int .i64) ++ [.int .i64 x])) (hg : (w1.alloc o).grownBy w2 v.ownBlock) :
    w2.ownsRow B 3 1 (.slice (some ⟨g, 0, none⟩) k cap) (xs ++ [x]).length ((xs ++ [x]).map (Value.int .i64)) ∧ Below B W0 w2 := by
  subst hk
  exact ⟨by rw [List.length_append, List.map_append]; exact ho2, (hb.alloc h0 o).grown hg (by simp; omega) fun q hq => (hO.lt q hq).1⟩
theorem part_more {B : Nat} {wr w4 w5 : World} {gg cap : Nat} {v u : Value} {vs : List Value} {G : List (List Int)} {xs : List Int} (hO : wr.ownsRow B 56 1 v G.length vs) (hR : RowsOwn wr B v.ownBlock vs G) (hb : Below wr.heap.size wr w4) (hB : B ≤ wr.heap.size)
    (hu : w4.ownsRow wr.heap.size 3 1 u xs.length (xs.map (Value.int .i64))) (o : Obj)
    (ho3 : w5.ownsRow B 56 1 (.slice (some ⟨gg, 0, none⟩) (G.length + 1) cap) (G.length + 1) (vs ++ [u])) (hg3 : (w4.alloc o).grownBy w5 v.ownBlock) (hat : v.ownBlock = some gg ∨ gg = w4.heap.size + 1) :
    w5.ownsRow B 56 1 (.slice (some ⟨gg, 0, none⟩) (G.length + 1) cap) (G ++ [xs]).length (vs ++ [u]) ∧ RowsOwn w5 B (Value.slice (some ⟨gg, 0, none⟩) (G.length + 1) cap).ownBlock (vs ++ [u]) (G ++ [xs]) ∧ (∀ W : World, B = W.heap.size → Below B W wr → Below B W w5) := by
  have hb1 : Below wr.heap.size wr (w4.alloc o) := hb.alloc hb.size o
  have hs4 := hb.size
  refine ⟨by rw [List.length_append]; exact ho3, own_append (w := w4.alloc o) (cap := cap) hO hR hb1 (World.ownsRow.alloc (World.ownsRow.mono hu hB) o) (fun g hg => (hu.lt g hg).1) ho3 hg3 (by rw [World.size_alloc]; exact hat), fun W hW hbW => ?_⟩
  exact (hbW.trans (hb1.mono hB)).grown hg3 (by simp; omega) fun q hq => (hO.lt q hq).1

theorem livelyM_in {m : List (List Int)} {k : Nat} (hk : k < (livelyM m).length) : 0 ≤ (livelyM m).getD k 0 ∧ (livelyM m).getD k 0 < (m.length : Int) := by
  unfold livelyM at hk ⊢
  by_cases hm : isMat m = true
  · rw [if_pos hm] at hk ⊢
    have e : (liveList m m.length).getD k 0 = (liveList m m.length)[k] := by simp [List.getD, hk]
    rw [e]
    obtain ⟨i, hi, h1, _⟩ := liveList_mem (List.getElem_mem hk)
    rw [hi]
    omega
  · rw [if_neg hm] at hk
    simp at hk
theorem livelyM_le (m : List (List Int)) : (livelyM m).length ≤ 9 := by
  unfold livelyM
  split
  · next h =>
    have := liveList_le m m.length
    have := (isMat_facts h).le
    omega
  · simp

end Go.Proofs.YtalclebehbdliaaGreat
