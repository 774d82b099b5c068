/-
  FACTS ON THE PROGRAM's MAPS OF PAIRS OF WORDS: what a pair reads as, as a key; what such a map holds; what a look and a store leave.
-/
import Derived.Test.YtcoiodfggaanbaaCodeI
import Derived.Maps.Own
import Derived.Deep.WholeRow
import Derived.Maps.OwnSet
import Derived.Maps.Views
import Derived.Maps.Keyed
import Derived.DeepKeys4
namespace Go.Proofs.Ytcoiodfggaanbaa
open Go Go.RowKit Go.Maps

theorem laidP : laidOutB Try.prog = true := by kernel_rfl
theorem rowP : (83 : TypeId) < Try.prog.types.size := of_decide_eq_true (by kernel_rfl)
theorem wideP : (match Try.prog.underlying 83 with | some (.array _ _) | some (.struct _) => true | _ => false) = true := by rw [Try.underlying83]
set_option maxRecDepth 100000 in
theorem lawP : WideMaps.KeyLaw Try.prog 83 := deep_law_laid laidP (m := 2) (by omega) rowP (by kernel_rfl) wideP
theorem keyedP : Keyed Try.prog 83 := Keyed.of_law lawP
theorem cellsP : Try.prog.cellsOf 83 = 2 := by kernel_rfl
def keyL (x y : ByteArray) : Lit := .string (keyBytes [.string x.data.toList, .string y.data.toList])
set_option maxRecDepth 100000 in
theorem key_is {x y : ByteArray} (hx : x.size ≤ 1000) (hy : y.size ≤ 1000) : keyOf Try.prog 83 (.agg #[.string x, .string y]) = some (keyL x y) := by
  have h1 : x.size ≤ maxLen := by unfold maxLen; omega
  have h2 : y.size ≤ maxLen := by unfold maxLen; omega
  have hk : Try.prog.keyType 83 = true := by kernel_rfl
  have hs : ∃ m, Try.prog.types.size = m + 1 := ⟨_, (Nat.succ_pred_eq_of_pos (Nat.lt_of_le_of_lt (Nat.zero_le _) rowP)).symm⟩
  have h9 : Try.prog.cellsOf 9 = 1 := by kernel_rfl
  obtain ⟨m, hm⟩ := hs
  unfold keyOf
  rw [Try.underlying83]
  simp only []
  rw [if_pos (by rw [hk]; simp [Value.formed, Try.underlying83, cellsP]), hm]
  simp [Program.keyLits, Try.underlying83, Try.underlying9, cellsP, h9, Value.cells, h1, h2, keyL]
theorem key_inj {x y x' y' : ByteArray} (hx : x.size ≤ 1000) (hy : y.size ≤ 1000) (hx' : x'.size ≤ 1000) (hy' : y'.size ≤ 1000) (h : keyL x y = keyL x' y') : x = x' ∧ y = y' := by
  have h1 := key_is hx hy
  rw [h] at h1
  have h2 := keyedP.inj h1 (key_is hx' hy')
  simp at h2
  exact h2
/-- A map of at most n pairs, which says of each pair whether it is in it. -/
def MapP (w : World) (bm n : Nat) (S : ByteArray → ByteArray → Bool) : Prop := ∃ D : DataW Unit, w.ownsMap Try.prog 83 (plainElem Try.prog 4) bm n D ∧ ∀ x y : ByteArray, x.size ≤ 1000 → y.size ≤ 1000 → D.atKey (keyL x y) (.lit (.bool false)) = .lit (.bool (S x y))
section
variable {w w' : World} {bm n : Nat} {S S' : ByteArray → ByteArray → Bool}
theorem MapP.lt (h : MapP w bm n S) : bm < w.heap.size := by
  obtain ⟨D, h, _⟩ := h
  exact h.lt
theorem MapP.block (h : MapP w bm n S) (e : w'.heap[bm]? = w.heap[bm]?) : MapP w' bm n S := by
  obtain ⟨D, ⟨es, clock, hb, Ft, hs, hD⟩, h2⟩ := h
  exact ⟨D, ⟨es, clock, e.trans hb, Ft, hs, hD⟩, h2⟩
theorem MapP.later (h : MapP w bm n S) (hb : Below w.heap.size w w') : MapP w' bm n S := h.block (hb.block _ h.lt)
theorem mapP_start (w : World) : MapP (w.alloc (.map #[] 0)) w.heap.size 0 (fun _ _ => false) := ⟨.map [], World.ownsMap_made _ _ _ _, fun _ _ _ _ => rfl⟩
theorem zero_bool (w : World) : (zeroValue 4).run Try.prog w = .ok (.bool false) w := (zero_of_info (n := 1) (by kernel_rfl)).1 w
set_option maxRecDepth 100000 in
theorem bool_inv {H : Type} {v : Value} {z : DataW H × List MemPlace} (h : plainElem Try.prog 4 v = some z) : ∃ b : Bool, v = .bool b ∧ z = (.lit (.bool b), []) := by
  unfold plainElem at h
  rw [Try.underlying4] at h
  cases v <;> simp at h
  subst h
  exact ⟨_, rfl, rfl⟩
set_option maxRecDepth 100000 in
theorem MapP.look (h : MapP w bm n S) {x y : ByteArray} (hx : x.size ≤ 1000) (hy : y.size ≤ 1000) : (Instr.lookup 139 (.map (some bm)) (.agg #[.string x, .string y]) false).run Try.prog w = .ok (.bool (S x y)) w := by
  obtain ⟨D, h1, h2⟩ := h
  obtain ⟨v, ps, hrun, hv⟩ := h1.lookup keyedP Try.underlying139 (zero_bool w) (zd := .lit (.bool false)) (zp := []) (plainElem_bool Try.underlying4 false) (key_is hx hy)
  rw [h2 x y hx hy] at hv
  obtain ⟨b, rfl, hb⟩ := bool_inv hv
  simp only [Prod.mk.injEq, DataW.lit.injEq, Lit.bool.injEq] at hb
  rw [hrun, hb.1]
set_option maxRecDepth 100000 in
theorem MapP.put (h : MapP w bm n S) (hn : n ≤ 1000) {x y : ByteArray} (hx : x.size ≤ 1000) (hy : y.size ≤ 1000) (h1 : S' x y = true) (h2 : ∀ a b, ¬ (a = x ∧ b = y) → S' a b = S a b) :
    ∃ w', (Instr.mapUpdate 139 (.map (some bm)) (.agg #[.string x, .string y]) (.bool true)).run Try.prog w = .ok () w' ∧ MapP w' bm (n + 1) S' ∧ w.grownBy w' (some bm) := by
  obtain ⟨D, g1, g2⟩ := h
  obtain ⟨w', hrun, hown, hg⟩ := g1.update keyedP Try.underlying139 (by unfold maxLen; omega) (key_is hx hy) (plainElem_bool Try.underlying4 true)
  refine ⟨w', hrun, ⟨_, hown, fun a b ha hb => ?_⟩, hg⟩
  by_cases e : a = x ∧ b = y
  · obtain ⟨rfl, rfl⟩ := e
    rw [atKey_put_same g1.isMap (show WideAt.IsKeyLit (keyL a b) from trivial), h1]
  · rw [atKey_put_other (fun e2 => e (key_inj ha hb hx hy e2)), g2 a b ha hb, h2 a b e]
end
end Go.Proofs.Ytcoiodfggaanbaa
