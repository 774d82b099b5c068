/-
  An argument of a row that is a slice of slices of numbers: it holds a table, wherever it lies and whatever its rows share.
-/
import Derived.Test.YtfgjlpnmjfekhaaGridLaw
import Derived.Deep.Matrix
import Derived.Lib.AtoiErrMem
import Derived.ProofKit
namespace Go.Proofs.Ytfgjlpnmjfekhaa
open Go Go.ChangeShapes Go.WideShapes Go.ChangeAt Go.RowKit Go.Deep

theorem cells_sl : Try.prog.cellsOf 33 = 1 := by kernel_rfl
theorem cells_int : Try.prog.cellsOf 3 = 1 := by kernel_rfl

theorem gridV_arg {H : Type} {enc : TypeId × Value → H} {W : World} {held : Bool} {V : Value} {d : DataW H} {p : List MemPlace} (hv : ∃ a l c, V = .slice a l c) (h : DataW.Trod enc Try.prog W 0 (fun _ => true) held 22 V d p) :
    ∃ m, GridV W V m ∧ SizeA m := by
  obtain ⟨a0, l0, c0, rfl⟩ := hv
  obtain ⟨fuel, hf⟩ := h
  rcases open_int_rows Try.underlying22 Try.underlying33 Try.underlying3 cells_sl cells_int hf with ⟨hcs, _⟩ | ⟨a, len, cap, A, L, C, Z, hcs, _, hl, hm, _, hx⟩
  · simp [Value.cells] at hcs
    obtain ⟨rfl, rfl, rfl⟩ := hcs
    exact ⟨[], ⟨none, 0, rfl, GridS.nil _ _⟩, by simp, fun k hk => by simp at hk⟩
  · simp [Value.cells] at hcs
    obtain ⟨rfl, rfl, rfl⟩ := hcs
    have hlen : ((List.range l0).map fun r => (Z r).take (L r)).length = l0 := by simp
    have hrow : ∀ k, k < l0 → ((List.range l0).map fun r => (Z r).take (L r)).getD k [] = (Z k).take (L k) := fun k hk => by simp [List.getD, hk]
    have hrl : ∀ k, k < l0 → ((Z k).take (L k)).length = L k := fun k hk => by
      obtain ⟨_, h1, _, h3, _⟩ := hx k (by omega)
      rw [List.length_take]; omega
    refine ⟨(List.range l0).map fun r => (Z r).take (L r), ⟨some a, c0, by rw [hlen], fun hp => ?_⟩, by rw [hlen]; unfold maxLen at hm; omega, fun k hk => ?_⟩
    · rw [hlen] at hp
      obtain ⟨b, off, spot⟩ := a
      have hc0 := (hx 0 (by omega)).1
      have hspot : spot = none := by simpa [Addr.add] using World.cell?_spot hc0
      subst hspot
      have hbW : b < W.heap.size := Lib.lt_of_cell hc0
      refine ⟨b, off, rfl, fun k hk => ?_, hbW⟩
      rw [hlen] at hk
      rw [hrow k hk, hrl k hk]
      obtain ⟨h0, h1, _, h3, _, h5, h6⟩ := hx k (by omega)
      rw [add_plain] at h0
      refine ⟨A k, C k, h0, fun hpk => ?_⟩
      rw [hrl k hk] at hpk
      cases ha : A k with
      | none =>
        have := h5 ha
        omega
      | some a' =>
        obtain ⟨_, hcell⟩ := h6 a' ha
        obtain ⟨b', off', spot'⟩ := a'
        have hs0 := hcell 0 (by omega)
        have hspot' : spot' = none := by simpa [Addr.add] using World.cell?_spot hs0
        subst hspot'
        refine ⟨b', off', rfl, fun t ht => ?_, Lib.lt_of_cell hs0⟩
        rw [hrl k hk] at ht
        have := hcell t (by omega)
        rw [add_plain] at this
        rw [this]
        have e : ((Z k).take (L k)).getD t 0 = (Z k).getD t 0 := by simp [List.getD, ht]
        rw [e]
    · rw [hlen] at hk
      rw [hrow k hk, hrl k hk]
      obtain ⟨_, h1, h2, _⟩ := hx k (by omega)
      unfold maxLen at h2
      omega
end Go.Proofs.Ytfgjlpnmjfekhaa
