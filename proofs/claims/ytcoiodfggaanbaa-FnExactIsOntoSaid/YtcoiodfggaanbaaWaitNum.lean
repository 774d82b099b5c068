/-
  FACTS ON THE PROGRAM'S LIST OF SETS THAT WAIT: its boxes lie in memory, each leading to the next, and the map beside it holds exactly the sets of its words; what a store, a new box and other memory leave of it.
-/
import Derived.Test.YtcoiodfggaanbaaOrphSpec
import Derived.Maps.Own
import Derived.Deep.WholeRow
import Derived.Maps.OwnSet
import Derived.Maps.Views
namespace Go.Proofs.Ytcoiodfggaanbaa
open Go Go.RowKit Go.Maps

/-- The cells of a box of the list. -/
def waitC (v : ByteArray) (s : Nat) (p : Option Addr) : Obj := .cells #[.string v, .int .u16 (s : Int), .pointer p] 104 (0, 0)
def nextA (G : Nat → Nat) (n j : Nat) : Option Addr := if j + 1 < n then some ⟨G (j + 1), 0, none⟩ else none
structure WaitIn (w : World) (B k q : Nat) (out : Nat → Nat) (ws : List (List Nat)) (G : Nat → Nat) (bm : Nat) : Prop where
  box : ∀ j, j < ws.length → w.heap[G j]? = some (waitC (bytesW (ws.getD j [])) (setW k q out (ws.getD j [])) (nextA G ws.length j))
  ge : ∀ j, j < ws.length → B ≤ G j
  inj : ∀ i j, i < ws.length → j < ws.length → G i = G j → i = j
  ne : ∀ j, j < ws.length → G j ≠ bm
section
variable {w w' : World} {B k q : Nat} {out : Nat → Nat} {ws : List (List Nat)} {G : Nat → Nat} {bm : Nat}
theorem WaitIn.lt (h : WaitIn w B k q out ws G bm) {j : Nat} (hj : j < ws.length) : G j < w.heap.size := (Array.getElem?_eq_some_iff.1 (h.box j hj)).1
theorem WaitIn.later (h : WaitIn w B k q out ws G bm) (hb : Below w.heap.size w w') : WaitIn w' B k q out ws G bm := ⟨fun j hj => (hb.block _ (h.lt hj)).trans (h.box j hj), h.ge, h.inj, h.ne⟩
theorem WaitIn.grown (h : WaitIn w B k q out ws G bm) (hg : w.grownBy w' (some bm)) : WaitIn w' B k q out ws G bm :=
  ⟨fun j hj => (hg.block _ (h.lt hj) (fun e => h.ne j hj (Option.some.inj e))).trans (h.box j hj), h.ge, h.inj, h.ne⟩
theorem WaitIn.c0 (h : WaitIn w B k q out ws G bm) {j : Nat} (hj : j < ws.length) : w.cell? ⟨G j, 0, none⟩ = some (.string (bytesW (ws.getD j []))) := by simp [World.cell?, h.box j hj, waitC]
theorem WaitIn.c1 (h : WaitIn w B k q out ws G bm) {j : Nat} (hj : j < ws.length) : w.cell? ⟨G j, 1, none⟩ = some (.int .u16 ((setW k q out (ws.getD j []) : Nat) : Int)) := by simp [World.cell?, h.box j hj, waitC]
theorem WaitIn.c2 (h : WaitIn w B k q out ws G bm) {j : Nat} (hj : j < ws.length) : w.cell? ⟨G j, 2, none⟩ = some (.pointer (nextA G ws.length j)) := by simp [World.cell?, h.box j hj, waitC]
theorem WaitIn.f (h : WaitIn w B k q out ws G bm) {j : Nat} (hj : j < ws.length) (i : Nat) : w.frozen? ⟨G j, i, none⟩ = false := by simp [World.frozen?, h.box j hj, waitC]
theorem wait_start (w : World) (bm : Nat) (hbm : w.heap.size < bm) : WaitIn (w.alloc (waitC ⟨#[]⟩ (2 ^ q - 1) none)) w.heap.size k q out [[]] (fun _ => w.heap.size) bm where
  box := fun j hj => by
    obtain rfl : j = 0 := by simpa using hj
    exact heap_alloc_new w _
  ge := fun _ _ => Nat.le_refl _
  inj := fun i j hi hj _ => by
    have h1 : i = 0 := by simpa using hi
    have h2 : j = 0 := by simpa using hj
    rw [h1, h2]
  ne := fun _ _ => Nat.ne_of_lt hbm
/-- A box behind the last one. -/
theorem WaitIn.snoc (h : WaitIn w B k q out ws G bm) (h0 : 0 < ws.length) (u : List Nat) (hm : bm < w.heap.size) (hB : B ≤ w.heap.size) :
    WaitIn ((w.setCell ⟨G (ws.length - 1), 2, none⟩ (.pointer (some ⟨w.heap.size, 0, none⟩))).alloc (waitC (bytesW u) (setW k q out u) none)) B k q out (ws ++ [u]) (fun j => if j = ws.length then w.heap.size else G j) bm where
  box := fun j hj => by
    rw [List.length_append, List.length_singleton] at hj
    have hsz : (w.setCell ⟨G (ws.length - 1), 2, none⟩ (.pointer (some ⟨w.heap.size, 0, none⟩))).heap.size = w.heap.size := by simp
    by_cases e : j = ws.length
    · subst e
      have e1 : nextA (fun j => if j = ws.length then w.heap.size else G j) (ws ++ [u]).length ws.length = none := by
        unfold nextA; rw [if_neg (by simp)]
      have h1 := heap_alloc_new (w.setCell ⟨G (ws.length - 1), 2, none⟩ (.pointer (some ⟨w.heap.size, 0, none⟩))) (waitC (bytesW u) (setW k q out u) none)
      rw [hsz] at h1
      rw [if_pos rfl, getD_last, e1]
      exact h1
    · have hjl : j < ws.length := by omega
      have hlt := h.lt hjl
      rw [if_neg e, getD_old hjl, heap_alloc_old _ _ (by rw [hsz]; exact hlt)]
      by_cases e2 : j = ws.length - 1
      · subst e2
        have e1 : nextA (fun j => if j = ws.length then w.heap.size else G j) (ws ++ [u]).length (ws.length - 1) = some ⟨w.heap.size, 0, none⟩ := by
          unfold nextA; rw [if_pos (by rw [List.length_append, List.length_singleton]; omega)]; dsimp only; rw [if_pos (by omega)]
        rw [e1]
        exact heap_setCell_same w _ 2 _ _ _ (h.box _ hjl)
      · have e1 : nextA (fun j => if j = ws.length then w.heap.size else G j) (ws ++ [u]).length j = nextA G ws.length j := by
          unfold nextA; rw [if_pos (by rw [List.length_append, List.length_singleton]; omega), if_pos (by omega)]; dsimp only; rw [if_neg (by omega)]
        rw [e1, heap_setCell_other w _ _ _ (fun e3 => e2 (h.inj _ _ hjl (by omega) e3))]
        exact h.box j hjl
  ge := fun j hj => by
    rw [List.length_append, List.length_singleton] at hj
    by_cases e : j = ws.length
    · rw [if_pos e]; exact hB
    · rw [if_neg e]; exact h.ge j (by omega)
  inj := fun i j hi hj e => by
    rw [List.length_append, List.length_singleton] at hi hj
    by_cases e1 : i = ws.length
    · by_cases e2 : j = ws.length
      · rw [e1, e2]
      · rw [if_pos e1, if_neg e2] at e
        have := h.lt (j := j) (by omega)
        omega
    · by_cases e2 : j = ws.length
      · rw [if_neg e1, if_pos e2] at e
        have := h.lt (j := i) (by omega)
        omega
      · rw [if_neg e1, if_neg e2] at e
        exact h.inj i j (by omega) (by omega) e
  ne := fun j hj => by
    rw [List.length_append, List.length_singleton] at hj
    by_cases e : j = ws.length
    · rw [if_pos e]; omega
    · rw [if_neg e]; exact h.ne j (by omega)
end
/-! ### The map of the sets -/
theorem keyedSet : Keyed Try.prog 101 := int_keyed Try.underlying101
def MapIn (w : World) (k q : Nat) (out : Nat → Nat) (ws : List (List Nat)) (bm : Nat) : Prop := ∃ D : DataW Unit, w.ownsMap Try.prog 101 (plainElem Try.prog 4) bm ws.length D ∧ ∀ s : Nat, s < 512 → D.atKey (.int .u16 (s : Int)) (.lit (.bool false)) = .lit (.bool (metTo k q out ws s ws.length))
theorem owns_blockM {H : Type} {P : Program} {k : TypeId} {R : Value → Option (DataW H × List MemPlace)} {w w' : World} {b n : Nat} {D : DataW H} (h : w.ownsMap P k R b n D) (e : w'.heap[b]? = w.heap[b]?) : w'.ownsMap P k R b n D := by
  obtain ⟨es, clock, hb, F, hs, hD⟩ := h
  exact ⟨es, clock, e.trans hb, F, hs, hD⟩
section
variable {w w' : World} {k q : Nat} {out : Nat → Nat} {ws : List (List Nat)} {bm : Nat}
theorem MapIn.lt (h : MapIn w k q out ws bm) : bm < w.heap.size := by
  obtain ⟨D, h, _⟩ := h
  exact h.lt
theorem MapIn.block (h : MapIn w k q out ws bm) (e : w'.heap[bm]? = w.heap[bm]?) : MapIn w' k q out ws bm := by
  obtain ⟨D, h1, h2⟩ := h
  exact ⟨D, owns_blockM h1 e, h2⟩
theorem MapIn.later (h : MapIn w k q out ws bm) (hb : Below w.heap.size w w') : MapIn w' k q out ws bm := h.block (hb.block _ h.lt)
theorem key_u16 {s : Nat} (hs : s < 512) : keyOf Try.prog 101 (.int .u16 (s : Int)) = some (.int .u16 (s : Int)) := keyOf_int_mk Try.underlying101 (WalkArith.wf_u16 (by omega))
theorem zero_bool (w : World) : (zeroValue 4).run Try.prog w = .ok (.bool false) w := (zero_of_info (n := 1) (by kernel_rfl)).1 w
set_option maxRecDepth 100000 in
theorem bool_inv {H : Type} {v : Value} {z : DataW H × List MemPlace} (h : plainElem Try.prog 4 v = some z) : ∃ x, v = .bool x ∧ z = (.lit (.bool x), []) := by
  unfold plainElem at h
  rw [Try.underlying4] at h
  cases v <;> simp at h
  obtain rfl := h
  exact ⟨_, rfl, rfl⟩
set_option maxRecDepth 100000 in
theorem MapIn.look (h : MapIn w k q out ws bm) {s : Nat} (hs : s < 512) : (Instr.lookup 105 (.map (some bm)) (.int .u16 (s : Int)) false).run Try.prog w = .ok (.bool (metTo k q out ws s ws.length)) w := by
  obtain ⟨D, h1, h2⟩ := h
  obtain ⟨v, ps, hrun, hv⟩ := h1.lookup keyedSet Try.underlying105 (zero_bool w) (plainElem_bool Try.underlying4 false) (key_u16 hs)
  rw [h2 s hs] at hv
  obtain ⟨x, rfl, hx⟩ := bool_inv hv
  simp only [Prod.mk.injEq, DataW.lit.injEq, Lit.bool.injEq] at hx
  rw [hrun, hx.1]
theorem met_snoc (u : List Nat) (s : Nat) : metTo k q out (ws ++ [u]) s (ws ++ [u]).length = (metTo k q out ws s ws.length || decide (setW k q out u = s)) := by
  rw [List.length_append, List.length_singleton, metTo_next, getD_last]
  congr 1
  unfold metTo
  rw [Bool.eq_iff_iff, List.any_eq_true, List.any_eq_true]
  constructor <;> rintro ⟨m, hm, h⟩ <;> refine ⟨m, hm, ?_⟩ <;> rw [List.mem_range] at hm
  · rw [getD_old hm] at h; exact h
  · rw [getD_old hm]; exact h
set_option maxRecDepth 100000 in
theorem MapIn.put (h : MapIn w k q out ws bm) {T : Nat} (u : List Nat) (hu : setW k q out u = T) (hT : T < 512) (hl : ws.length ≤ 512) :
    ∃ w', (Instr.mapUpdate 105 (.map (some bm)) (.int .u16 (T : Int)) (.bool true)).run Try.prog w = .ok () w' ∧ MapIn w' k q out (ws ++ [u]) bm ∧ w.grownBy w' (some bm) := by
  obtain ⟨D, h1, h2⟩ := h
  obtain ⟨w', hrun, hown, hg⟩ := h1.update keyedSet Try.underlying105 (by unfold maxLen; omega) (key_u16 hT) (plainElem_bool Try.underlying4 true)
  refine ⟨w', hrun, ⟨_, by rw [List.length_append, List.length_singleton]; exact hown, fun s hs => ?_⟩, hg⟩
  rw [met_snoc, hu]
  by_cases e : T = s
  · subst e
    rw [atKey_put_same h1.isMap (show WideAt.IsKeyLit (.int .u16 (T : Int)) from trivial), decide_eq_true rfl, Bool.or_true]
  · rw [atKey_put_other (fun e2 => e (by injection e2 with _ e3; exact (Int.ofNat_inj.1 e3).symm)), h2 s hs, decide_eq_false e, Bool.or_false]
end
theorem map_start (w : World) {q : Nat} {k : Nat} {out : Nat → Nat} : MapIn (w.alloc (.map #[] 0)) k q out [] w.heap.size := ⟨.map [], World.ownsMap_made _ _ _ _, fun s _ => by
  show DataW.atKey (.map []) _ _ = _
  rfl⟩
end Go.Proofs.Ytcoiodfggaanbaa
