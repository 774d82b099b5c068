/-
  PLAIN FACTS ON MEMORY THAT A LOOP'S BODY MAY NOT TURN, a copy of a slice of ints by the library, and steps of a region that draws its order in a round of a loop over an iterator.
-/
import Derived.Test.YthljogoggiejmaaFoot
import Derived.Test.YthljogoggiejmaaGraphFill
import Derived.Test.YthljogoggiejmaaIntsLaw
import Derived.Test.YthljogoggiejmaaGraphI
import Derived.Test.YthljogoggiejmaaSquareRows
import Derived.OrdersIn
import Derived.TacticsIn
import Derived.Deep.AppendLies
namespace Go.Proofs.Ythljogoggiejmaa
open Go Go.RowKit

/-- The slice A holds the table m, no block of it in O. -/
def GridOut (O : Nat → Prop) (w : World) (A : Option Addr) (m : List (List Int)) : Prop :=
  0 < m.length → ∃ b off, A = some ⟨b, off, none⟩ ∧ ¬ O b ∧ b < w.heap.size ∧ ∀ k, k < m.length → ∃ A' c, w.cell? ⟨b, off + k, none⟩ = some (.slice A' (m.getD k []).length c) ∧
    (0 < (m.getD k []).length → ∃ b' off', A' = some ⟨b', off', none⟩ ∧ ¬ O b' ∧ b' < w.heap.size ∧ IntsAt w b' off' (m.getD k []))
namespace GridOut
variable {O O' : Nat → Prop} {w w' : World} {A : Option Addr} {m : List (List Int)}
theorem gridS (h : GridOut O w A m) : GridS w A m := by
  intro hp
  obtain ⟨b, off, hA, _, hl, hk⟩ := h hp
  refine ⟨b, off, hA, fun k hkl => ?_, hl⟩
  obtain ⟨A', c, hc, hr⟩ := hk k hkl
  refine ⟨A', c, hc, fun hp' => ?_⟩
  obtain ⟨b', off', hA', _, hl', hat⟩ := hr hp'
  exact ⟨b', off', hA', hat, hl'⟩
theorem turn (h : GridOut O w A m) (ht : Turn O w w') : GridOut O w' A m := by
  intro hp
  obtain ⟨b, off, hA, hn, hl, hk⟩ := h hp
  refine ⟨b, off, hA, hn, Nat.lt_of_lt_of_le hl ht.size, fun k hkl => ?_⟩
  obtain ⟨A', c, hc, hr⟩ := hk k hkl
  refine ⟨A', c, (ht.cell (p := ⟨b, off + k, none⟩) hn hl).trans hc, fun hp' => ?_⟩
  obtain ⟨b', off', hA', hn', hl', hat⟩ := hr hp'
  exact ⟨b', off', hA', hn', Nat.lt_of_lt_of_le hl' ht.size, fun j hj => (ht.cell (p := ⟨b', off' + j, none⟩) hn' hl').trans (hat j hj)⟩
theorem grow (h : GridOut O w A m) (hO : ∀ k, k < w.heap.size → O' k → O k) : GridOut O' w A m := by
  intro hp
  obtain ⟨b, off, hA, hn, hl, hk⟩ := h hp
  refine ⟨b, off, hA, fun e => hn (hO _ hl e), hl, fun k hkl => ?_⟩
  obtain ⟨A', c, hc, hr⟩ := hk k hkl
  refine ⟨A', c, hc, fun hp' => ?_⟩
  obtain ⟨b', off', hA', hn', hl', hat⟩ := hr hp'
  exact ⟨b', off', hA', fun e => hn' (hO _ hl' e), hl', hat⟩
end GridOut
theorem rowOut_of_owns {O : Nat → Prop} {w : World} {B : Nat} {r : Value} {xs : List Int} (h : w.ownsRow B 3 1 r xs.length (xs.map (Value.int .i64))) (hO : ∀ k, O k → k < B) :
    ∃ A c, r = .slice A xs.length c ∧ (0 < xs.length → ∃ b' off', A = some ⟨b', off', none⟩ ∧ ¬ O b' ∧ b' < w.heap.size ∧ IntsAt w b' off' xs) := by
  rcases h.2 with ⟨rfl, h0⟩ | ⟨g, cap, cur, rfl, hg, _, _⟩
  · exact ⟨none, 0, by rw [h0], fun hp => by omega⟩
  · exact ⟨some ⟨g, 0, none⟩, cap, rfl, fun _ => ⟨g, 0, rfl, fun e => by have := hO g e; omega, (h.lt g rfl).2, IntsAt.of_owns h rfl⟩⟩
theorem OwnG.gridOut {O : Nat → Prop} {w : World} {B : Nat} {v : Value} {m : List (List Int)} (h : OwnG w B v m) (hO : ∀ k, O k → k < B) : ∃ A c, v = .slice A m.length c ∧ GridOut O w A m := by
  obtain ⟨vs, ho, hr⟩ := h
  rcases ho.2 with ⟨rfl, h0⟩ | ⟨g, cap, cur, rfl, hg, _, _⟩
  · exact ⟨none, 0, by rw [h0], fun hp => by omega⟩
  · refine ⟨some ⟨g, 0, none⟩, cap, rfl, fun _ => ⟨g, 0, rfl, fun e => by have := hO g e; omega, (ho.lt g rfl).2, fun k hk => ?_⟩⟩
    have hl := hr.len
    have hk' : vs[k]? = some vs[k] := List.getElem?_eq_getElem (by omega)
    obtain ⟨A, c, e, hs⟩ := rowOut_of_owns (O := O) (hr.row k _ hk').1 hO
    refine ⟨A, c, ?_, hs⟩
    rw [Nat.zero_add, ho.cellAt k (by omega), hk', e]

/-- A row of its own that is handed to a round. -/
def RowO (B : Nat) (O : Nat → Prop) (W : World) (v : Value) (x : List Int) : Prop := OwnA W B v x ∧ ∀ k, v.ownBlock = some k → ¬ O k
theorem rowO_like (B : Nat) : RowLike (RowO B) where
  kept := fun h hO ht => ⟨ht.row h.1 h.2, fun k hk e => h.2 k hk (hO k e)⟩
  apart := fun h => h.2

/-- What the iterator over paths has captured: the number of arcs, and the arcs. -/
structure EachMem (O : Nat → Prop) (w : World) (bn ba : Nat) (n : Int) (A : Option Addr) (c : Nat) (arcs : List (List Int)) : Prop where
  num : w.cell? ⟨bn, 0, none⟩ = some (.int .i64 n)
  numOut : ¬ O bn
  tab : w.cell? ⟨ba, 0, none⟩ = some (.slice A arcs.length c)
  tabOut : ¬ O ba
  grid : GridOut O w A arcs
theorem cell_lt {w : World} {p : Addr} {v : Value} (h : w.cell? p = some v) : p.block < w.heap.size := World.block_lt_of_cell? w p h
theorem EachMem.turn {O : Nat → Prop} {w w' : World} {bn ba : Nat} {n : Int} {A : Option Addr} {c : Nat} {arcs : List (List Int)} (h : EachMem O w bn ba n A c arcs) (ht : Turn O w w') : EachMem O w' bn ba n A c arcs :=
  ⟨(ht.cell (p := ⟨bn, 0, none⟩) h.numOut (cell_lt h.num)).trans h.num, h.numOut, (ht.cell (p := ⟨ba, 0, none⟩) h.tabOut (cell_lt h.tab)).trans h.tab, h.tabOut, h.grid.turn ht⟩
theorem EachMem.grow {O O' : Nat → Prop} {w : World} {bn ba : Nat} {n : Int} {A : Option Addr} {c : Nat} {arcs : List (List Int)} (h : EachMem O w bn ba n A c arcs) (hO : ∀ k, k < w.heap.size → O' k → O k) : EachMem O' w bn ba n A c arcs :=
  ⟨h.num, fun e => h.numOut (hO _ (cell_lt h.num) e), h.tab, fun e => h.tabOut (hO _ (cell_lt h.tab) e), h.grid.grow hO⟩

/-! ### A copy by the library -/

set_option maxRecDepth 100000 in
set_option maxHeartbeats 800000 in
theorem clone_ints (B : Nat) (v : Value) (xs : List Int) (hn : xs.length ≤ 1000000) (w : World) (h : OwnA w B v xs) :
    Calls Try.prog 67 #[v] w (NewA xs w) := by
  obtain ⟨i0, hi, hz0, hz1, hz2⟩ := info_parts infoInt
  have he := slice_nil_eq
  rcases h.2 with ⟨rfl, h0⟩ | ⟨g, cap, cur, rfl, _, _, hcap, _⟩
  · obtain rfl : xs = [] := List.length_eq_zero_iff.1 h0
    go_enter Try.func67, Try.ntmps67
    go_wp2
    go_ret
    exact ⟨_, rfl, World.ownsRow_nil _ _ _ _, Below.refl _ _⟩
  · have hsz := (h.lt g rfl).2
    have HAT := Lib.hid (IntsAt.of_owns h rfl)
    clear h
    by_cases h0 : xs.length = 0
    · obtain rfl : xs = [] := List.length_eq_zero_iff.1 h0
      have HE : Hid ((w.alloc (.cells #[] 3)).ownsRow w.heap.size 3 1 (.slice (some ⟨w.heap.size, 0, none⟩) 0 0) 0 []) := Lib.hid (World.ownsRow_made (base := w.heap.size) (e := 3) (size := 1) w #[] 0 (Nat.le_refl _) (by unfold maxLen; omega) rfl)
      go_enter Try.func67, Try.ntmps67
      go_wp2_with (at_builtin; refine wpList_append_zero rfl _ _ 28 rfl 3 i0 Try.underlying28 hi w.heap.size 0 0 (Nat.le_refl _) ⟨g, 0, none⟩ cap rfl rfl ?_)
      go_ret
      exact ⟨_, rfl, HE.out, below_new⟩
    · have HE : Hid ((w.alloc (.cells #[] 3)).ownsRow w.heap.size 3 1 (.slice (some ⟨w.heap.size, 0, none⟩) 0 0) 0 []) := Lib.hid (World.ownsRow_made (base := w.heap.size) (e := 3) (size := 1) w #[] 0 (Nat.le_refl _) (by unfold maxLen; omega) rfl)
      have u1 := ints_cells (HAT.out.below ((Below.refl w.heap.size w).alloc (Nat.le_refl _) (.cells #[] 3)) hsz)
      have u2 := ints_one xs
      have hb1 : Below w.heap.size w (w.alloc (.cells #[] 3)) := below_new
      go_enter Try.func67, Try.ntmps67
      go_wp2_with (at_builtin; refine wpList_append_lies _ rfl _ _ 28 rfl w.heap.size 3 i0 (.int .i64 0) 1 8 Try.underlying28 hi hz0 hz1 hz2 rfl (by decide) _ _ _ rfl HE.out ⟨g, 0, none⟩ xs.length cap (xs.map (Value.int .i64)) rfl (by rw [List.length_map, Nat.mul_one]) u1 u2 (by omega) (by unfold maxLen; omega) (by omega) (by simp) (w.heap.size + 1) (by simp) ?_; intro gg1 cap1 w2 ho2 hg2 hat2 hlt2; have HT1 := Lib.hid (first_part hb1 HE.out ho2 hg2); clear ho2 hg2 hat2)
      go_ret
      exact ⟨_, rfl, HT1.out.1, HT1.out.2⟩

/-! ### A region that draws its order, in a round -/

def noDefer (ops : Array Oper) : Bool := ops.all fun o => match o.op with
  | .defer _ => false
  | _ => true
section
variable {F : Fence} {n : Nat} {P : Program} {ops : Array Oper} {Q : Exit → Act → World → Prop} {md : Region.Mode} {l : Nat}
theorem noDefer_at (h : noDefer ops = true) {i : Nat} {o : Oper} (ho : ops[i]? = some o) : ∀ c, o.op ≠ .defer c := by
  intro c hc
  unfold noDefer at h
  obtain ⟨hi, rfl⟩ := Array.getElem?_eq_some_iff.1 ho
  have h1 := Array.all_eq_true.1 h i hi
  rw [hc] at h1
  cases h1
theorem wpIn_inRound {o : Oper} (hd : ∀ c, o.op ≠ .defer c) {a : Act} {w : World} {K : Act → World → Prop} (h : o.wpIn F n P a w K Q) : o.wpIn (F.inRound l) n P a w K Q := by
  unfold Oper.wpIn at h ⊢
  rw [Oper.semAt_eq _ _ _ hd] at h ⊢
  refine ⟨h.1, ?_⟩
  have h2 := h.2
  clear h
  generalize (execOp a.eval o).run P w = r at *
  cases r with
  | ok x w' => cases x <;> exact h2
  | halt x w' => cases x <;> exact h2
theorem wpAnyIn_inRound (hd : noDefer ops = true) : ∀ (fuel : Nat) (listed : Array Bool) (a : Act) (w : World), wpAnyIn F n P md ops Q fuel listed a w → wpAnyIn (F.inRound l) n P md ops Q fuel listed a w
  | 0, _, _, _, h => h
  | fuel + 1, listed, a, w, h => by
    refine ⟨h.1, fun i hi => ?_⟩
    have h1 := wpOpIn_mono (fun a' w' h' => wpAnyIn_inRound hd fuel _ a' w' h') (h.2 i hi)
    unfold wpOpIn at h1 ⊢
    cases ho : ops[i]? with
    | none => rw [ho] at h1; exact h1
    | some o =>
      rw [ho] at h1
      simp only [] at h1 ⊢
      split
      · next hw => rw [if_pos hw] at h1; exact wpIn_inRound (noDefer_at hd ho) h1
      · next hw => rw [if_neg hw] at h1; exact h1
theorem wpIn_region_round {id : Nat} {a : Act} {w : World} (hm : P.follows .mixedOrders = true) (hd : noDefer ops = true)
    (h : wpAnyIn F n P .any ops Q ops.size (Array.replicate ops.size false) a w.drew) : (Code.region id ops true).wpIn (F.inRound l) n P Q a w :=
  wpIn_region_any hm (wpAnyIn_inRound hd _ _ _ _ h)
/-- An operation that hands back a value. -/
theorem wpIn_of_value {o : Oper} {a : Act} {w w' : World} {v : Value} {K : Act → World → Prop} (hd : ∀ c, o.op ≠ .defer c) (hr : (execOp a.eval o).run P w = .ok (.value v) w') (h : K (a.put o.dst v) w') : o.wpIn Fence.wide n P a w K Q := by
  refine ⟨fun _ _ => trivial, ?_⟩
  rw [Oper.semAt_eq _ _ _ hd, hr]
  exact h
theorem stepIn_append_lies {o : Oper} {a : Act} {w : World} {K : Act → World → Prop} {E : Prop} (hw : Region.wanted o (yielded ops a.tmps) = true) (s x : Operand) (t : TypeId)
    (ho : o.op = .call { callee := .builtin .append, args := #[s, x], argTypes := #[t, t] })
    (base : Nat) (e : TypeId) (i : TypeInfo) (z : Value) (size bytes : Nat) (ht : P.underlying t = some (.slice e)) (hi : P.info? e = some i) (hz : i.zero = some z)
    (hsize : i.size = size) (hby : i.bytes = bytes) (hzs : z.cells.size = size) (hsz : 0 < size)
    (v : Value) (n' : Nat) (xs : List Value) (hs : a.eval s = v) (hown : w.ownsRow base e size v n' xs)
    (ad : Addr) (m c : Nat) (news : List Value) (hx : a.eval x = .slice (some ad) m c) (hl : news.length = m * size) (hnews : ∀ j u, news[j]? = some u → w.cell? (ad.add j) = some u) (h1 : ∀ u ∈ news, u.oneCell' = true)
    (hm : 0 < m) (h63 : n' + m ≤ maxLen) (hbytes : (n' + m) * bytes ≤ 140737488355328) (hbase : base ≤ w.heap.size) (H : Nat) (hH : w.heap.size = H)
    (h : ∀ g cap w', w'.ownsRow base e size (.slice (some ⟨g, 0, none⟩) (n' + m) cap) (n' + m) (xs ++ news) → w.grownBy w' v.ownBlock → (v.ownBlock = some g ∨ g = H) → g < w'.heap.size → K (a.put o.dst (.slice (some ⟨g, 0, none⟩) (n' + m) cap)) w') :
    if Region.wanted o (yielded ops a.tmps) = true then Oper.wpIn Fence.wide n P o a w K Q else E := by
  rw [if_pos hw]
  obtain ⟨g, cap, w', hr, h2, h3, h4, h5⟩ := run_append_lies (P := P) w t o.type base e i z size bytes ht hi hz hsize hby hzs hsz v n' xs hown ad m c news hl hnews h1 hm h63 hbytes hbase H hH
  refine wpIn_of_value (v := .slice (some ⟨g, 0, none⟩) (n' + m) cap) (w' := w') (fun c e => by rw [ho] at e; cases e) ?_ (h g cap w' h2 h3 h4 h5)
  unfold execOp
  simp only [ho, resolve, invoke, builtin, Sem.run_bind, Sem.run_pure, Result.andThen_ok, List.map_toArray, List.map_cons, List.map_nil, hs, hx, hr]
/-- A round that is called for. -/
theorem stepIn_yield {o : Oper} {a : Act} {w : World} {K : Act → World → Prop} {E : Prop} (hw : Region.wanted o (yielded ops a.tmps) = true) (s x : Operand) (t : TypeId)
    (ho : o.op = .call { callee := .value s, args := #[x], argTypes := #[t] }) (hs : a.eval s = .func (.yield l) #[] #[]) (v : Value) (hx : a.eval x = v) {R : Ending → World → Prop} (hy : YieldAt Fence.wide 0 P l #[v] w R)
    (h : ∀ b w', R (.returned (.bool b)) w' → K (a.put o.dst (.bool b)) w') (hR : ∀ e w', R e w' → ∃ b, e = .returned (.bool b)) :
    if Region.wanted o (yielded ops a.tmps) = true then Oper.wpIn Fence.wide n P o a w K Q else E := by
  rw [if_pos hw]
  obtain ⟨fn, tmps, assign, body, hyr, hrd⟩ := hy
  refine ⟨fun _ _ => trivial, ?_⟩
  rw [Oper.semAt_eq _ _ _ (fun c e => by rw [ho] at e; cases e)]
  have hrun : (execOp a.eval o).run P w = .ok (.round l fn tmps assign body) w := by
    unfold execOp
    simp only [ho, resolve, invoke, Sem.run_bind, List.map_toArray, List.map_cons, List.map_nil, hs, hx]
    simp [go_sem, hyr]
  rw [hrun]
  refine ⟨(fun e => by cases e), roundIn_wide_any (hrd.mono ?_)⟩
  intro e w' hq
  obtain ⟨b, rfl⟩ := hR e w' hq
  exact h b w' hq
end
end Go.Proofs.Ythljogoggiejmaa
