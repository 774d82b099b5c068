/-
  A shift that comes into a law from outside: its number, and its words, whatever slice holds them.
-/
import Derived.Test.YtalclebehbdliaaGreatPresArg
import Derived.ProofKit
import Derived.OpenShut
import Derived.ChangeSame
import Derived.Lib.SmallJoins
import Derived.Lib.AtoiErrMem
namespace Go.Proofs.YtalclebehbdliaaGreat
open Go Go.ChangeShapes Go.WideShapes Go.ChangeAt Go.RowKit
open Go.Joins (open_agg2)

theorem shift_cellsStr : Tryz.prog.cellsOf 9 = 1 := by kernel_rfl
theorem shift_cellsSh : Tryz.prog.cellsOf 47 = 2 := by kernel_rfl
theorem open_strs {H : Type} {enc : TypeId × Value → H} {W : World} {base fuel : Nat} {held : Bool} {e1 : Value} {y : DataW H × List MemPlace} (hy1 : DataW.trod enc Tryz.prog W base (fun _ => true) held fuel 24 [e1] = some y) : ∃ xs, SliceArgQ W e1 xs := by
  rcases open_strings Tryz.underlying24 Tryz.underlying9 shift_cellsStr hy1 with ⟨hcs, _⟩ | ⟨a, len, cap, ss, hcs, _, hl, hm, hz, _, hcell, hws⟩
  · simp at hcs
    subst hcs
    exact ⟨[], sliceArgQ_none none 0 W⟩
  · simp at hcs
    subst hcs
    simp only [if_true] at hz
    by_cases hl0 : len = 0
    · subst hl0
      exact ⟨[], sliceArgQ_none _ cap W⟩
    · obtain ⟨b, off, spot⟩ := a
      have hspot : spot = none := by simpa [Addr.add] using World.cell?_spot (hcell 0 (by omega))
      subst hspot
      have hbW : b < W.heap.size := Lib.lt_of_cell (hcell 0 (by omega))
      have hn : (ss.take len).length = len := by rw [List.length_take]; omega
      have hst : StrsAt W b off (ss.take len) := by
        intro k hk
        rw [hn] at hk
        rw [← add_plain, hcell k (by omega)]
        simp [List.getD, hk]
      have hmx : len ≤ 9223372036854775807 := by unfold maxLen at hm; omega
      have hsz : ∀ k, k < (ss.take len).length → ((ss.take len).getD k ByteArray.empty).size ≤ 9223372036854775807 := by
        intro k hk
        have hmem : (ss.take len).getD k ByteArray.empty ∈ ss := by
          simp only [List.getD, List.getElem?_eq_getElem hk, Option.getD_some]
          exact List.mem_of_mem_take (List.getElem_mem hk)
        have := hws _ hmem
        unfold maxLen at this; omega
      have hS := sliceArgQ_some b off cap (ss.take len) (by omega) hsz W hst hbW
      rw [hn] at hS
      exact ⟨_, hS⟩
set_option maxRecDepth 100000 in
theorem open_shift {H : Type} {enc : TypeId × Value → H} {W : World} {r : Reach} {b0 base : Nat} {held : Bool} {v : Value} {d : DataW H} {p : List MemPlace} (hv : Value.okWide Tryz.prog W r b0 47 v) (h : DataW.Trod enc Tryz.prog W base (fun _ => true) held 47 v d p) :
    ∃ (L : Int) (V : Value) (xs : List ByteArray), v = .agg #[.int .i64 L, V] ∧ SliceArgQ W V xs := by
  obtain ⟨e0, e1, y0, y1, m, rfl, _, _, hy0, hy1⟩ := open_agg2 Tryz.underlying47 (by kernel_rfl) shift_cellsSh hv h
  obtain ⟨L, hL, _, _⟩ := DataW.trod_int Tryz.underlying3 hy0
  simp at hL
  subst hL
  obtain ⟨xs, hx⟩ := open_strs hy1
  exact ⟨L, e1, xs, rfl, hx⟩
end Go.Proofs.YtalclebehbdliaaGreat
