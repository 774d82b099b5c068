/-
  FACTS ON THE MAP OF THE LETTERS AND ON cmp.Or OF TWO STRINGS: what the map of the first j words' letters holds; what a look and a store leave; the first of two strings that is not empty.
-/
import Derived.Test.YtcoiodfggaanbaaUndoSpec
import Derived.Maps.Own
import Derived.Deep.WholeRow
import Derived.Maps.OwnSet
import Derived.Maps.Views
import Derived.StringKeys
namespace Go.Proofs.Ytcoiodfggaanbaa
open Go Go.RowKit Go.Maps

def optL (r : Option UInt8) : List UInt8 := match r with
  | none => []
  | some b => [b]
def optB (r : Option UInt8) : ByteArray := match r with
  | none => ⟨#[]⟩
  | some b => oneB b
theorem optB_data (r : Option UInt8) : (optB r).data.toList = optL r := by cases r <;> rfl
def MapU (w : World) (F : ByteArray → ByteArray) (A : ByteArray → UInt8) (ws : List ByteArray) (j bm : Nat) : Prop := ∃ D : DataW Unit, w.ownsMap Try.prog 9 (plainElem Try.prog 9) bm j D ∧ ∀ part : ByteArray, D.atKey (.string part.data.toList) (.lit (.string [])) = .lit (.string (optL (letTo F A ws j part)))
section
variable {w w' : World} {F : ByteArray → ByteArray} {A : ByteArray → UInt8} {ws : List ByteArray} {j bm : Nat}
theorem MapU.lt (h : MapU w F A ws j bm) : bm < w.heap.size := by
  obtain ⟨D, h, _⟩ := h
  exact h.lt
theorem MapU.block (h : MapU w F A ws j bm) (e : w'.heap[bm]? = w.heap[bm]?) : MapU w' F A ws j bm := by
  obtain ⟨D, ⟨es, clock, hb, Ft, hs, hD⟩, h2⟩ := h
  exact ⟨D, ⟨es, clock, e.trans hb, Ft, hs, hD⟩, h2⟩
theorem MapU.later (h : MapU w F A ws j bm) (hb : Below w.heap.size w w') : MapU w' F A ws j bm := h.block (hb.block _ h.lt)
theorem mapU_start (w : World) : MapU (w.alloc (.map #[] 0)) F A ws 0 w.heap.size := ⟨.map [], World.ownsMap_made _ _ _ _, fun _ => rfl⟩
theorem zero_str (w : World) : (zeroValue 9).run Try.prog w = .ok (.string ⟨#[]⟩) w := (zero_of_info (n := 1) (by kernel_rfl)).1 w
set_option maxRecDepth 100000 in
theorem str_inv {H : Type} {v : Value} {z : DataW H × List MemPlace} (h : plainElem Try.prog 9 v = some z) : ∃ x : ByteArray, v = .string x ∧ z = (.lit (.string x.data.toList), []) := by
  unfold plainElem at h
  rw [Try.underlying9] at h
  cases v <;> simp at h
  obtain ⟨_, rfl⟩ := h
  exact ⟨_, rfl, rfl⟩
set_option maxRecDepth 100000 in
theorem MapU.look (h : MapU w F A ws j bm) {part : ByteArray} (hp : part.size ≤ 1000) : (Instr.lookup 125 (.map (some bm)) (.string part) false).run Try.prog w = .ok (.string (optB (letTo F A ws j part))) w := by
  obtain ⟨D, h1, h2⟩ := h
  obtain ⟨v, ps, hrun, hv⟩ := h1.lookup (string_keyed Try.underlying9) Try.underlying125 (zero_str w) (zd := .lit (.string [])) (zp := []) (plainElem_string Try.underlying9 (s := ⟨#[]⟩) (by decide)) (Go.WideMaps.keyOf_string_mk Try.underlying9 (s := part) (by unfold maxLen; omega))
  rw [h2 part] at hv
  obtain ⟨x, rfl, hx⟩ := str_inv hv
  simp only [Prod.mk.injEq, DataW.lit.injEq, Lit.string.injEq] at hx
  have e : x = optB (letTo F A ws j part) := ba_ext (by rw [optB_data]; exact hx.1.symm)
  rw [hrun, e]
set_option maxRecDepth 100000 in
theorem MapU.put (h : MapU w F A ws j bm) (hj : j < ws.length) (hl : ws.length ≤ 1000) {part : ByteArray} (hF : F (ws.getD j ByteArray.empty) = part) (hp : part.size ≤ 1000) {b : UInt8} (hA : A (ws.getD j ByteArray.empty) = b) (ha : ∀ c, letTo F A ws j part = some c → c = b) :
    ∃ w', (Instr.mapUpdate 125 (.map (some bm)) (.string part) (.string (oneB b))).run Try.prog w = .ok () w' ∧ MapU w' F A ws (j + 1) bm ∧ w.grownBy w' (some bm) := by
  obtain ⟨D, h1, h2⟩ := h
  obtain ⟨w', hrun, hown, hg⟩ := h1.update (string_keyed Try.underlying9) Try.underlying125 (by unfold maxLen; omega) (Go.WideMaps.keyOf_string_mk Try.underlying9 (s := part) (by unfold maxLen; omega)) (plainElem_string Try.underlying9 (s := oneB b) (by rw [oneB_size]; decide))
  refine ⟨w', hrun, ⟨_, hown, fun part' => ?_⟩, hg⟩
  subst hF hA
  by_cases e : part' = F (ws.getD j ByteArray.empty)
  · subst e
    rw [atKey_put_same h1.isMap (show WideAt.IsKeyLit (.string (F (ws.getD j ByteArray.empty)).data.toList) from trivial), let_at hj ha]; rfl
  · rw [atKey_put_other (fun e2 => e (ba_ext (by injection e2))), h2 part', let_else hj e]
end

set_option maxRecDepth 100000 in
set_option maxHeartbeats 1600000 in
/-- The first of two strings, if it is not empty. -/
theorem or_some (g : Nat) (b : UInt8) (y : ByteArray) (w : World) (hs : StrsAt w g 0 [oneB b, y]) :
    Calls Try.prog 109 #[.slice (some ⟨g, 0, none⟩) 2 2] w fun e w' => e = .returned (.string (oneB b)) ∧ w' = w := by
  have k0 := hs 0 (by simp)
  rw [Nat.zero_add] at k0
  have k0' : w.cell? ⟨g, 0, none⟩ = some (.string (oneB b)) := k0
  have hne : ((oneB b).toList == (⟨#[]⟩ : ByteArray).toList) = false := by rw [beq_eq_false_iff_ne, ByteArray.toList_eq, ByteArray.toList_eq]; simp [oneB]
  have hne2 : ¬ (oneB b).toList = [] := by rw [ByteArray.toList_eq]; simp [oneB]
  have hne3 : (oneB b).toList.isEmpty = false := by rw [ByteArray.toList_eq]; simp [oneB]
  clear hs k0
  generalize oneB b = x at *
  go_enter Try.func109, Try.ntmps109
  go_wp2
  go_loop [8] (fun iv => iv = .int .i64 0) (fun _ => 0)
  case atStart => rfl
  case round =>
    subst hrel
    go_wp2
    go_ret
    exact ⟨rfl, rfl⟩
set_option maxRecDepth 100000 in
set_option maxHeartbeats 1600000 in
/-- The second one, if the first is empty. -/
theorem or_none (g : Nat) (b : UInt8) (w : World) (hs : StrsAt w g 0 [⟨#[]⟩, oneB b]) :
    Calls Try.prog 109 #[.slice (some ⟨g, 0, none⟩) 2 2] w fun e w' => e = .returned (.string (oneB b)) ∧ w' = w := by
  have k0 : w.cell? ⟨g, 0, none⟩ = some (.string ⟨#[]⟩) := by have h := hs 0 (by simp); rwa [Nat.zero_add] at h
  have k1 : w.cell? ⟨g, 1, none⟩ = some (.string (oneB b)) := by have h := hs 1 (by simp); rwa [Nat.zero_add] at h
  have hne : ((oneB b).toList == (⟨#[]⟩ : ByteArray).toList) = false := by rw [beq_eq_false_iff_ne, ByteArray.toList_eq, ByteArray.toList_eq]; simp [oneB]
  have hne2 : ¬ (oneB b).toList = [] := by rw [ByteArray.toList_eq]; simp [oneB]
  have hne3 : (oneB b).toList.isEmpty = false := by rw [ByteArray.toList_eq]; simp [oneB]
  clear hs
  generalize oneB b = x at *
  go_enter Try.func109, Try.ntmps109
  go_wp2
  go_loop [8] (fun iv => iv = .int .i64 0 ∨ iv = .int .i64 1) (fun iv => 2 - (intOf iv).toNat)
  case atStart => exact Or.inl rfl
  case round =>
    rcases hrel with rfl | rfl
    · go_wp2
      go_round
      case rel => exact Or.inr (by go_num)
      case measure => simp [intOf]
    · go_wp2
      go_ret
      exact ⟨rfl, rfl⟩
end Go.Proofs.Ytcoiodfggaanbaa
