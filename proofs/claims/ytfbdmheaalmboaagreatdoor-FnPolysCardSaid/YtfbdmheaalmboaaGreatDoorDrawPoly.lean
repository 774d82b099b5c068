/-
  The model's draw of a polynomial: a list of one's own that is not long; of what was there only the cursor has turned.
-/
import Derived.Test.YtfbdmheaalmboaaGreatDoorMidTexts
import Derived.Test.YtfbdmheaalmboaaGreatDoorPolySpec
namespace Go.Proofs.YtfbdmheaalmboaaGreatDoor
open Go Go.RowKit

theorem from_grown {B : Nat} {w1 w w' : World} {r : Option Nat} (h : From B w1 w) (hg : w.grownBy w' r) (hr : ∀ g, r = some g → g < B ∨ w1.heap.size ≤ g) : From B w1 w' :=
  ⟨Nat.le_trans h.size hg.size, fun k h1 h2 => (hg.block k (Nat.lt_of_lt_of_le h2 h.size) (fun e => by
    have := hr k e.symm
    omega)).trans (h.block k h1 h2)⟩
theorem from_below {B : Nat} {w1 w w' : World} (h : From B w1 w) (hb : Below w.heap.size w w') : From B w1 w' :=
  ⟨Nat.le_trans h.size hb.size, fun k h1 h2 => (hb.block k (Nat.lt_of_lt_of_le h2 h.size)).trans (h.block k h1 h2)⟩
theorem from_up {B B' : Nat} {w w' : World} (h : From B w w') (hB : B ≤ B') : From B' w w' := ⟨h.size, fun k h1 h2 => h.block k (by omega) h2⟩
/-- Each number is one that an int holds, and not great. -/
def LowL (l : List Int) : Prop := ∀ x ∈ l, -1000001 ≤ x ∧ x ≤ 1000000
theorem LowL.push {l : List Int} {y : Int} (h : LowL l) (hy : -1000001 ≤ y ∧ y ≤ 1000000) : LowL (l ++ [y]) := by
  intro x hx
  rcases List.mem_append.1 hx with h2 | h2
  · exact h x h2
  · rw [List.mem_singleton] at h2; subst h2; exact hy
theorem LowL.nil : LowL [] := fun x hx => by cases hx
def PolyDrawn (B : Nat) (a : Option Addr) (n c g : Nat) (W0 w : World) (e : Ending) (w' : World) : Prop := ∃ v l, e = .returned v ∧ OwnA w' (g + 1) v l ∧ l.length ≤ 5 ∧ LowL l ∧ Cur B a n c g W0 w' ∧ From (g + 1) w w'
def polyEnds : List Int := [1000000, -1000001, 0]
theorem polyEnds_low (k : Nat) : -1000001 ≤ polyEnds.getD k 0 ∧ polyEnds.getD k 0 ≤ 1000000 := by
  match k with
  | 0 => decide
  | 1 => decide
  | 2 => decide
  | k + 3 => exact ⟨by simp [polyEnds], by simp [polyEnds]⟩
/-- One number is put behind a list of one's own. -/
theorem poly_more {w w1 w2 : World} {B g n c gg cap : Nat} {a : Option Addr} {W0 : World} {u : Value} {l : List Int} {x : Int} (hc : Cur B a n c g W0 w1) (hf : From (g + 1) w w1) (hO : w1.ownsRow w.heap.size 3 1 u l.length (l.map (Value.int .i64))) (hg : g + 1 ≤ w.heap.size) (o : Obj)
    (ho2 : w2.ownsRow w.heap.size 3 1 (.slice (some ⟨gg, 0, none⟩) (l.length + 1) cap) (l.length + 1) (l.map (Value.int .i64) ++ [.int .i64 x])) (hg2 : (w1.alloc o).grownBy w2 u.ownBlock) :
    w2.ownsRow w.heap.size 3 1 (.slice (some ⟨gg, 0, none⟩) (l.length + 1) cap) (l ++ [x]).length ((l ++ [x]).map (Value.int .i64)) ∧ Cur B a n c g W0 w2 ∧ From (g + 1) w w2 :=
  ⟨by rw [List.length_append, List.map_append]; exact ho2, (hc.alloc o).grown hg2 fun k hk => by have := (hO.lt k hk).1; omega, from_grown (from_below hf below_new) hg2 fun q hq => Or.inr (hO.lt q hq).1⟩

set_option maxRecDepth 100000 in
set_option maxHeartbeats 1600000 in
theorem draw_poly (B : Nat) (a : Option Addr) (n c g : Nat) (W0 w : World) (hcode : CodeAt W0 B a n) (hn : n ≤ 1048576) (hcur : Cur B a n c g W0 w) :
    Calls Tryz.prog 41 #[.pointer (some ⟨g, 0, none⟩)] w (PolyDrawn B a n c g W0 w) := by
  obtain ⟨j0, hj0, hy0, hy1, hy2⟩ := info_parts infoInt
  have HBW := Lib.hid (fun m (hm : m ≤ 1000000000) w' => l1Below m hm B a n c g W0 w' hcode hn)
  have HON := Lib.hid (fun w' => l1Once 16 (by decide) B a n c g W0 w' hcode hn)
  have HPI := Lib.hid (fun b w' (hc : Cur B a n c g W0 w') (hs : NumsAt w' b polyEnds) (hbg : b ≠ g) => l1PickInt b 3 polyEnds (by decide) (by decide) B a n c g W0 w' hcode hn hc hs hbg)
  have hg := hcur.lt
  have HE := Lib.hid (emptyA (B := w.heap.size) (w := w) (Nat.le_refl _))
  have HB5 := Lib.hid (HBW.out 5 (by decide) _ (hcur.alloc (.cells #[] 3)))
  have HF0 : Hid (From (g + 1) w (w.alloc (.cells #[] 3))) := Lib.hid (from_below (From.refl _ _) below_new)
  clear hcode hcur
  go_enter Tryz.func41, Tryz.ntmps41
  go_wp2_with fail
  refine HB5.out.mono ?_
  rintro e w1 ⟨x, x0, x1, rfl, hc1, ho1⟩
  obtain ⟨xn, rfl⟩ : ∃ xn : Nat, x = (xn : Int) := ⟨x.toNat, by omega⟩
  have HF1 : Hid (From (g + 1) w w1) := Lib.hid (HF0.out.trans (from_only ho1))
  have HO1 : Hid (w1.ownsRow w.heap.size 3 1 (.slice (some ⟨w.heap.size, 0, none⟩) 0 0) 0 []) := Lib.hid (From.owns (B := w.heap.size) HE.out (from_up (from_only ho1) (by omega)))
  have HC1 := Lib.hid hc1
  clear hc1 ho1
  go_wp2
  go_loopw [3, 4] (fun u nv wr => ∃ (k : Nat) (l : List Int), k ≤ 4 ∧ nv = .int .i64 (k : Int) ∧ l.length + k ≤ 4 ∧ Hid (LowL l) ∧ wr.ownsRow w.heap.size 3 1 u l.length (l.map (Value.int .i64)) ∧ Hid (Cur B a n c g W0 wr) ∧ Hid (From (g + 1) w wr)) (fun _ nv _ => (intOf nv).toNat)
  case atStart => exact ⟨xn, [], by omega, rfl, by simp; omega, Lib.hid LowL.nil, HO1.out, HC1, HF1⟩
  case round =>
    obtain ⟨k, l, hk, rfl, hl, hlow, hO, hc, hf⟩ := hrel
    cases k with
    | zero =>
      have HO := Lib.hid hO
      have HOO := Lib.hid (HON.out wr hc.out)
      have hsz := hf.out.size
      clear hO
      go_wp2_with fail
      refine HOO.out.mono ?_
      rintro e w2 ⟨b, rfl, hc2, ho2⟩
      have HC2 := Lib.hid hc2
      have HF2 : Hid (From (g + 1) w w2) := Lib.hid (hf.out.trans (from_only ho2))
      have HO2 : Hid (w2.ownsRow w.heap.size 3 1 _ l.length (l.map (Value.int .i64))) := Lib.hid (From.owns (B := w.heap.size) HO.out (from_up (from_only ho2) (by omega)))
      clear hc2 ho2
      cases b with
      | false =>
        go_wp2
        go_ret
        exact ⟨_, l, rfl, World.ownsRow.mono HO2.out hg, by omega, hlow.out, HC2.out, HF2.out⟩
      | true =>
        have HPP := Lib.hid (HPI.out w2.heap.size _ (HC2.out.alloc _) (intsAt_new w2 polyEnds 3) (by have := HC2.out.lt; omega))
        have hs2 := HF2.out.size
        go_wp2_with fail
        refine HPP.out.mono ?_
        rintro e w3 ⟨kk, hkk, rfl, hc3, ho3⟩
        have HC3 := Lib.hid hc3
        have HF3 : Hid (From (g + 1) w w3) := Lib.hid ((from_below HF2.out below_new).trans (from_only ho3))
        have HO3 : Hid (w3.ownsRow w.heap.size 3 1 _ l.length (l.map (Value.int .i64))) := Lib.hid (From.owns (B := w.heap.size) (HO2.out.alloc _) (from_up (from_only ho3) (by omega)))
        have hs3 := HF3.out.size
        clear hc3 ho3
        have HLOW := Lib.hid (hlow.out.push (polyEnds_low kk))
        generalize polyEnds.getD kk 0 = y at *
        go_wp2_with (at_builtin; refine wpList_append_lies _ rfl (.tmp 20) (.tmp 24) 26 rfl w.heap.size 3 j0 (.int .i64 0) 1 8 Tryz.underlying26 hj0 hy0 hy1 hy2 rfl (by decide) _ _ _ rfl (HO3.out.alloc _) ⟨w3.heap.size, 0, none⟩ 1 1 [.int .i64 y] rfl rfl (World.news_of_block (cs := #[.int .i64 y]) (t := 3) (fr := (0, 0)) (heap_alloc_new w3 _)) (by simp [Value.oneCell']) (by decide) (by unfold maxLen; omega) (by omega) (by simp; omega) (w3.heap.size + 1) (by simp) ?_; intro gg cap w4 ho4 hg4 hat4 hlt4; have HM := Lib.hid (poly_more HC3.out HF3.out HO3.out hg _ ho4 hg4); clear ho4 hg4 hat4)
        go_ret
        exact ⟨_, l ++ [y], rfl, World.ownsRow.mono HM.out.1 hg, by simp; omega, HLOW.out, HM.out.2.1, HM.out.2.2⟩
    | succ k =>
      have HO := Lib.hid hO
      have HBB := Lib.hid (HBW.out 9 (by decide) wr hc.out)
      have hsz := hf.out.size
      clear hO
      go_wp2_with fail
      refine HBB.out.mono ?_
      rintro e w2 ⟨x, x2, x3, rfl, hc2, ho2⟩
      have HC2 := Lib.hid hc2
      have HF2 : Hid (From (g + 1) w w2) := Lib.hid (hf.out.trans (from_only ho2))
      have HO2 : Hid (w2.ownsRow w.heap.size 3 1 _ l.length (l.map (Value.int .i64))) := Lib.hid (From.owns (B := w.heap.size) HO.out (from_up (from_only ho2) (by omega)))
      have hs2 := HF2.out.size
      have HLOW := Lib.hid (hlow.out.push (y := x - 4) (by omega))
      clear hc2 ho2
      go_wp2_with (at_builtin; refine wpList_append_lies _ rfl (.tmp 12) (.tmp 16) 26 rfl w.heap.size 3 j0 (.int .i64 0) 1 8 Tryz.underlying26 hj0 hy0 hy1 hy2 rfl (by decide) _ _ _ rfl (HO2.out.alloc _) ⟨w2.heap.size, 0, none⟩ 1 1 [.int .i64 (x - 4)] rfl rfl (World.news_of_block (cs := #[.int .i64 (x - 4)]) (t := 3) (fr := (0, 0)) (heap_alloc_new w2 _)) (by simp [Value.oneCell']) (by decide) (by unfold maxLen; omega) (by omega) (by simp; omega) (w2.heap.size + 1) (by simp) ?_; intro gg cap w4 ho4 hg4 hat4 hlt4; have HM := Lib.hid (poly_more HC2.out HF2.out HO2.out hg _ ho4 hg4); clear ho4 hg4 hat4)
      go_roundw
      case rel => exact ⟨k, l ++ [x - 4], by omega, by go_num, by simp; omega, HLOW, HM.out.1, Lib.hid HM.out.2.1, Lib.hid HM.out.2.2⟩
      case measure => simp [intOf]
end Go.Proofs.YtfbdmheaalmboaaGreatDoor
