/-
  An argument of a row that is a slice of integers: it holds a list, wherever it lies.
-/
import Derived.Test.YtfbdmheaalmboaaDoorGridArg
namespace Go.Proofs.YtfbdmheaalmboaaDoor
open Go Go.ChangeShapes Go.WideShapes Go.ChangeAt Go.RowKit Go.Deep

theorem ints_arg {H : Type} {enc : TypeId × Value → H} {W : World} {held : Bool} {V : Value} {d : DataW H} {p : List MemPlace} (hv : ∃ a l c, V = .slice a l c) (h : DataW.Trod enc Tryd.prog W 0 (fun _ => true) held 28 V d p) :
    ∃ A c xs, V = .slice A xs.length c ∧ RowS W A xs ∧ xs.length ≤ 9223372036854775807 := by
  obtain ⟨a0, l0, c0, rfl⟩ := hv
  obtain ⟨fuel, hf⟩ := h
  rcases open_ints Tryd.underlying28 Tryd.underlying3 cells_int hf with ⟨hcs, _⟩ | ⟨a, len, cap, zs, hcs, _, hl, hm, hz, _, hcell, _⟩
  · simp [Value.cells] at hcs
    obtain ⟨rfl, rfl, rfl⟩ := hcs
    exact ⟨none, 0, [], rfl, fun h => by simp at h, by simp⟩
  · simp [Value.cells] at hcs
    obtain ⟨rfl, rfl, rfl⟩ := hcs
    have hzl : l0 ≤ zs.length := by
      simp only [if_true] at hz
      omega
    have hlen : (zs.take l0).length = l0 := by rw [List.length_take]; omega
    unfold maxLen at hm
    refine ⟨some a, c0, zs.take l0, by rw [hlen], fun hp => ?_, by omega⟩
    rw [hlen] at hp
    obtain ⟨b, off, spot⟩ := a
    have hc0 := hcell 0 (by omega)
    have hspot : spot = none := by simpa [Addr.add] using World.cell?_spot hc0
    subst hspot
    refine ⟨b, off, rfl, fun t ht => ?_, Lib.lt_of_cell hc0⟩
    rw [hlen] at ht
    have := hcell t (by omega)
    rw [add_plain] at this
    rw [this]
    have e : (zs.take l0).getD t 0 = zs.getD t 0 := by simp [List.getD, ht]
    rw [e]
theorem bounds_num {n : Int} (h : (Lit.int .i64 n).wf = true) : -9223372036854775808 ≤ n ∧ n ≤ 9223372036854775807 := by
  have e1 : IntKind.i64.min = -9223372036854775808 := rfl
  have e2 : IntKind.i64.max = 9223372036854775807 := rfl
  simp only [Lit.wf, e1, e2, Bool.and_eq_true, decide_eq_true_eq] at h
  exact h
/-- The same, and each of the integers is one that a variable holds. -/
theorem ints_argR {H : Type} {enc : TypeId × Value → H} {W : World} {held : Bool} {V : Value} {d : DataW H} {p : List MemPlace} (hv : ∃ a l c, V = .slice a l c) (h : DataW.Trod enc Tryd.prog W 0 (fun _ => true) held 28 V d p) :
    ∃ A c xs, V = .slice A xs.length c ∧ RowS W A xs ∧ xs.length ≤ 9223372036854775807 ∧ ∀ x ∈ xs, -9223372036854775808 ≤ x ∧ x ≤ 9223372036854775807 := by
  obtain ⟨a0, l0, c0, rfl⟩ := hv
  obtain ⟨fuel, hf⟩ := h
  rcases open_ints Tryd.underlying28 Tryd.underlying3 cells_int hf with ⟨hcs, _⟩ | ⟨a, len, cap, zs, hcs, _, hl, hm, hz, _, hcell, hwf⟩
  · simp [Value.cells] at hcs
    obtain ⟨rfl, rfl, rfl⟩ := hcs
    exact ⟨none, 0, [], rfl, fun h => by simp at h, by simp, fun x h => by simp at h⟩
  · simp [Value.cells] at hcs
    obtain ⟨rfl, rfl, rfl⟩ := hcs
    have hzl : l0 ≤ zs.length := by
      simp only [if_true] at hz
      omega
    have hlen : (zs.take l0).length = l0 := by rw [List.length_take]; omega
    unfold maxLen at hm
    refine ⟨some a, c0, zs.take l0, by rw [hlen], fun hp => ?_, by omega, fun x hx => bounds_num (hwf x (List.mem_of_mem_take hx))⟩
    rw [hlen] at hp
    obtain ⟨b, off, spot⟩ := a
    have hc0 := hcell 0 (by omega)
    have hspot : spot = none := by simpa [Addr.add] using World.cell?_spot hc0
    subst hspot
    refine ⟨b, off, rfl, fun t ht => ?_, Lib.lt_of_cell hc0⟩
    rw [hlen] at ht
    have := hcell t (by omega)
    rw [add_plain] at this
    rw [this]
    have e : (zs.take l0).getD t 0 = zs.getD t 0 := by simp [List.getD, ht]
    rw [e]
end Go.Proofs.YtfbdmheaalmboaaDoor
