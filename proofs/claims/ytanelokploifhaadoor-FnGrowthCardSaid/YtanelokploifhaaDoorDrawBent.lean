/-
  The model's bent matrices (l4Bent): whatever the bytes, a small table in memory of the draw's own; it changes nothing below its block.
-/
import Derived.Test.YtanelokploifhaaDoorDrawGrid
import Derived.Test.YtanelokploifhaaDoorGraphFill
namespace Go.Proofs.YtanelokploifhaaDoor
open Go Go.RowKit

theorem Cur.grown {B : Nat} {a : Option Addr} {n c g : Nat} {W0 w w' : World} (h : Cur B a n c g W0 w) {r : Option Nat} (hg : w.grownBy w' r) (hr : ∀ k, r = some k → g + 1 ≤ k) : Cur B a n c g W0 w' := by
  have hl := h.lt
  obtain ⟨h1, h2, h3, i, x, h4, h5⟩ := h
  refine ⟨h1.grown hg h2 fun k hk => by have := hr k hk; omega, Nat.le_trans h2 hg.size, h3, i, x, h4, ?_⟩
  rw [hg.block g hl fun e => by have := hr g e.symm; omega]; exact h5

/-- A table that is not much. -/
structure Drawn (M : List (List Int)) : Prop where
  len : M.length ≤ 11
  tot : tot M ≤ 201
theorem small_drawn {M : List (List Int)} (h : Small M) : Drawn M := ⟨by have := h.len; omega, by have := h.tot; omega⟩
theorem small_set {M : List (List Int)} (h : Small M) (x : Int) : Drawn (M.set 0 ((M.getD 0 []).set 0 x)) := by
  refine ⟨by rw [List.length_set]; have := h.len; omega, ?_⟩
  have h1 := h.tot
  cases M with
  | nil => exact Nat.le_trans h1 (by omega)
  | cons r M =>
    have : tot ((r :: M).set 0 (((r :: M).getD 0 []).set 0 x)) = tot (r :: M) := by simp [tot, List.getD]
    omega
theorem small_app {M : List (List Int)} (h : Small M) : Drawn (M ++ [[1]]) := by
  refine ⟨by rw [List.length_append]; have := h.len; simp; omega, ?_⟩
  have h1 := h.tot
  have : tot (M ++ [[1]]) = tot M + 1 := by simp [tot]
  omega

def BentPost (B : Nat) (a : Option Addr) (n c g : Nat) (W0 : World) (e : Ending) (w' : World) : Prop := ∃ v M, e = .returned v ∧ OwnG w' (g + 1) v M ∧ Drawn M ∧ Cur B a n c g W0 w'
/-- The same, and the table is new: what lay above the cursor is as it was. -/
def BentNew (B : Nat) (a : Option Addr) (n c g : Nat) (W0 W : World) (e : Ending) (w' : World) : Prop := ∃ v M, e = .returned v ∧ OwnG w' W.heap.size v M ∧ Drawn M ∧ Cur B a n c g W0 w' ∧ From (g + 1) W w'
theorem From.grownBy {b : Nat} {W w w' : World} (h : From b W w) {r : Option Nat} (hg : w.grownBy w' r) (hr : ∀ k, r = some k → W.heap.size ≤ k) : From b W w' :=
  ⟨Nat.le_trans h.size hg.size, fun k h1 h2 => by rw [hg.block k (Nat.lt_of_lt_of_le h2 h.size) fun e => by have := hr k e.symm; omega]; exact h.block k h1 h2⟩
def bends : List Int := [-1, 1000000, 1000001, 9]

/-- The row of the one number 1 is put behind the others. -/
theorem bent_next {w w3 : World} {B gg cap : Nat} {v : Value} {vs : List Value} {M : List (List Int)} (ho : w.ownsRow B 48 1 v M.length vs) (hr : RowsOwn w B v.ownBlock vs M) (hg1 : B ≤ w.heap.size) (o o2 : Obj)
    (hu : (w.alloc o).ownsRow w.heap.size 3 1 (.slice (some ⟨w.heap.size, 0, none⟩) 1 1) 1 [.int .i64 1])
    (ho3 : w3.ownsRow B 48 1 (.slice (some ⟨gg, 0, none⟩) (M.length + 1) cap) (M.length + 1) (vs ++ [.slice (some ⟨w.heap.size, 0, none⟩) 1 1])) (hg3 : ((w.alloc o).alloc o2).grownBy w3 v.ownBlock) (hat : v.ownBlock = some gg ∨ gg = w.heap.size + 2) :
    OwnG w3 B (.slice (some ⟨gg, 0, none⟩) (M.length + 1) cap) (M ++ [[1]]) ∧ w.grownBy w3 v.ownBlock := by
  have h0 : Below w.heap.size w (w.alloc o) := (Below.refl _ _).alloc (Nat.le_refl _) o
  obtain ⟨h1, h2, h3, _⟩ := fill_next (head := [1]) ho hr h0 hg1 hu o2 ho3 hg3 (by rw [World.size_alloc]; exact hat)
  rw [List.length_append] at h1
  refine ⟨⟨_, ?_, h2⟩, grown_trans (below_grown h0 _) h3 (Or.inl rfl)⟩
  rw [List.length_append]; exact h1

/-- A new block that is full of its cells. -/
theorem owns_block (w : World) {B : Nat} (hB : B ≤ w.heap.size) (e : TypeId) (xs : List Value) (hm : xs.length ≤ maxLen) : (w.alloc (.cells xs.toArray e)).ownsRow B e 1 (.slice (some ⟨w.heap.size, 0, none⟩) xs.length xs.length) xs.length xs :=
  ⟨by simp, .inr ⟨w.heap.size, xs.length, xs.toArray, rfl, hB, heap_alloc_new w _, Nat.le_refl _, hm, by simp, by simp⟩⟩
theorem block_two (w : World) (o : Obj) (o2 : Obj) : ((w.alloc o).alloc o2).heap[w.heap.size + 1]? = some o2 := by
  have h := heap_alloc_new (w.alloc o) o2
  rw [World.size_alloc] at h; exact h

set_option maxRecDepth 100000 in
set_option maxHeartbeats 3200000 in
theorem spec_bentF (B : Nat) (a : Option Addr) (n c g : Nat) (W0 w : World) (hcode : CodeAt W0 B a n) (hn : n ≤ 1048576) (hcur : Cur B a n c g W0 w) :
    Calls Tryd.prog 31 #[.pointer (some ⟨g, 0, none⟩)] w (BentNew B a n c g W0 w) := by
  have hg0 := hcur.lt
  obtain ⟨i0, hi, hz0, hz1, hz2⟩ := info_parts infoSl
  have HG := Lib.hid (draw_gridF 4 (by decide) (by decide) B a n c g W0 w hcode hn hcur)
  have HBW := Lib.hid (fun w' => l1Below 16 (by decide) B a n c g W0 w' hcode hn)
  have HPI := Lib.hid (fun b w' (hc : Cur B a n c g W0 w') (hs : NumsAt w' b bends) (hbg : b ≠ g) => l1PickInt b 4 bends (by decide) (by decide) B a n c g W0 w' hcode hn hc hs hbg)
  clear hcode hcur
  go_enter Tryd.func31, Tryd.ntmps31
  go_wp2_with fail
  refine HG.out.mono ?_
  rintro e w1 ⟨v, M, rfl, ho1, hs1, hc1, hf1⟩
  have HBW1 := Lib.hid (HBW.out w1 hc1)
  have HO1 := Lib.hid ho1
  have HS1 := Lib.hid hs1
  have HF1 := Lib.hid hf1
  clear ho1 hs1 hc1 hf1
  go_wp2_with fail
  refine HBW1.out.mono ?_
  rintro e w2 ⟨x, x0, x1, rfl, hc2, ho2⟩
  have HO2 := Lib.hid (HO1.out.from ((from_only ho2).low (show g + 1 ≤ w.heap.size by omega)))
  have HF2 := Lib.hid (HF1.out.trans (from_only ho2))
  have hs2 := HF2.out.size
  have hg2 := hc2.lt
  have HC2 := Lib.hid hc2
  clear hc2 ho2
  obtain ⟨xn, rfl⟩ : ∃ xn : Nat, x = (xn : Int) := ⟨x.toNat, by omega⟩
  by_cases hx0 : xn = 0
  · subst hx0
    obtain ⟨gm, cap, gi, ci, rfl, gb, gib, gne, hat⟩ := HO2.out.ats (i := 0) (j := 0) HS1.out.pos HS1.out.first
    have k1 := (hat w2 (From.refl _ _)).1
    have HAT := Lib.hid hat
    have hlp := HS1.out.pos
    have hlf := HS1.out.first
    clear hat
    generalize hml : M.length = ml at *
    generalize hfl : (M.getD 0 []).length = fl at *
    have HML := Lib.hid hml
    have HFL := Lib.hid hfl
    clear hml hfl
    go_wp2
    go_region_held3 (fun w' => w'.cell? ⟨gm, 0, none⟩ = some (.slice (some ⟨gi, 0, none⟩) fl ci)) (first | exact y0 | exact cell_far_set gne y0 | go_keep) (first | (go_at_call 32; refine (HPI.out w2.heap.size _ ((HC2.out.alloc _).drewN 1) (intsAt_new w2 bends 3) (by omega)).mono ?_; rintro e w5 ⟨kk, hkk, rfl, hc5, ho5⟩; have hfr0 : From (g + 1) w2 w5 := (From.of_below (below_drewN ((Below.refl w2.heap.size w2).alloc (Nat.le_refl _) _) 1)).trans (from_only ho5); have hfr := hfr0.low (show g + 1 ≤ w.heap.size by omega); obtain ⟨y0, y1, y2, y3, y4⟩ := HAT.out w5 hfr; have HSET := Lib.hid y4; have HC5 := Lib.hid hc5; have HF5 := Lib.hid (HF2.out.trans hfr0); clear y4 hc5 ho5 hfr hfr0))
    go_wp2
    go_ret
    exact ⟨_, _, rfl, HSET.out _, small_set HS1.out _, HC5.out.setOther (b := gi) (by have := HC2.out.2.2.1; omega) (by omega) _ _, HF5.out.put gib _ _⟩
  · have hb0 : ((xn : Int) == 0) = false := by simp; omega
    by_cases hx1 : xn = 1
    · subst hx1
      obtain ⟨vs, ho, hr⟩ := HO2.out
      obtain ⟨Av, cv, rfl⟩ := slice_of_owns ho
      have HOK := Lib.hid ho
      have HOR := Lib.hid hr
      have hl10 := HS1.out.len
      clear ho hr
      have HU : Hid (((w2.alloc (.cells #[.int .i64 1] 3)).ownsRow w2.heap.size 3 1 (.slice (some ⟨w2.heap.size, 0, none⟩) 1 1) 1 [.int .i64 1])) := Lib.hid (owns_block w2 (Nat.le_refl _) 3 [.int .i64 1] (by decide))
      go_wp2_with (at_builtin; refine wpList_append_lies _ rfl (.tmp 19) (.tmp 21) 24 rfl w.heap.size 48 i0 (.slice none 0 0) 1 24 Tryd.underlying24 hi hz0 hz1 hz2 rfl (by decide) _ _ _ rfl ((HOK.out.alloc _).alloc _) ⟨w2.heap.size + 1, 0, none⟩ 1 1 [.slice (some ⟨w2.heap.size, 0, none⟩) 1 1] rfl rfl (World.news_of_block (cs := #[.slice (some ⟨w2.heap.size, 0, none⟩) 1 1]) (t := 48) (fr := (0, 0)) (block_two w2 _ _)) (by simp [Value.oneCell']) (by decide) (by unfold maxLen; omega) (by omega) (by simp; omega) (w2.heap.size + 2) (by simp) ?_; intro gg cap w3 ho3 hg3 hat hlt3; have HN := Lib.hid (bent_next HOK.out HOR.out (by omega) _ _ HU.out ho3 hg3 hat); clear ho3 hg3 hat)
      go_ret
      exact ⟨_, _, rfl, HN.out.1, small_app HS1.out, HC2.out.grown HN.out.2 fun k hk => by have := (HOK.out.lt k hk).1; omega, HF2.out.grownBy HN.out.2 fun k hk => (HOK.out.lt k hk).1⟩
    · have hb1 : ((xn : Int) == 1) = false := by simp; omega
      go_wp2
      go_ret
      exact ⟨_, M, rfl, HO2.out, small_drawn HS1.out, HC2.out, HF2.out⟩
theorem spec_bent (B : Nat) (a : Option Addr) (n c g : Nat) (W0 w : World) (hcode : CodeAt W0 B a n) (hn : n ≤ 1048576) (hcur : Cur B a n c g W0 w) :
    Calls Tryd.prog 31 #[.pointer (some ⟨g, 0, none⟩)] w (BentPost B a n c g W0) := by
  refine (spec_bentF B a n c g W0 w hcode hn hcur).mono ?_
  rintro e w' ⟨v, M, he, ho, hd, hc, _⟩
  exact ⟨v, M, he, ho.mono hcur.lt, hd, hc⟩
end Go.Proofs.YtanelokploifhaaDoor
