/-
  The program's lists put in order, each word once (ascendingOnce), at every list of strings that the call owns: it is sorted in its place, and what comes again is left out; nothing that was there before is changed.
-/
import Derived.Test.YtalclebehbdliaaGreatPresINum
import Derived.Test.YtalclebehbdliaaGreatBaseTexts
import Derived.Test.YtalclebehbdliaaGreatShelfO
import Derived.Test.YtalclebehbdliaaGreatShelfSo
import Derived.Lib.OwnBridge
import Derived.Shelf.SlSortCmp.NoneTotal
namespace Go.Proofs.YtalclebehbdliaaGreat
open Go Go.RowKit

theorem cmp_lt : ∀ a b : List UInt8, Lib.compareBytes a b < 0 ↔ a < b
  | [], [] => by simp [Lib.compareBytes]
  | [], _ :: _ => by simp [Lib.compareBytes]
  | _ :: _, [] => by simp [Lib.compareBytes]
  | a :: p, b :: q => by
    rw [List.cons_lt_cons_iff]
    unfold Lib.compareBytes
    by_cases h1 : a < b
    · rw [if_pos h1]; simp [h1]
    · rw [if_neg h1]
      by_cases h2 : b < a
      · rw [if_pos h2]
        have hne : ¬ a = b := fun e => by subst e; exact h1 h2
        simp [h1, hne]
      · rw [if_neg h2, cmp_lt p q]
        have e : a = b := UInt8.toNat_inj.1 (by rw [UInt8.lt_iff_toNat_lt] at h1 h2; omega)
        simp [e]
theorem ltL (x y : List UInt8) : ltOf Lib.compareBytes x y = decide (x < y) := by
  unfold ltOf
  exact decide_eq_decide.2 (cmp_lt x y)
theorem swoL : Sort.SWO (ltOf Lib.compareBytes) where
  irrefl x := by rw [ltL]; exact decide_eq_false (List.lt_irrefl x)
  trans x y z h1 h2 := by rw [ltL, decide_eq_true_iff] at *; exact List.lt_trans h1 h2
  ntrans x y z h1 h2 := by rw [ltL, decide_eq_false_iff_not, List.not_lt] at *; exact List.le_trans h2 h1
theorem totL (x y : List UInt8) (h1 : ltOf Lib.compareBytes x y = false) (h2 : ltOf Lib.compareBytes y x = false) : x = y := by
  rw [ltL, decide_eq_false_iff_not, List.not_lt] at h1 h2
  exact List.le_antisymm h2 h1
theorem geL : (fun x y : List UInt8 => !ltOf Lib.compareBytes y x) = leB := by
  funext x y
  rw [ltL]
  unfold leB
  by_cases h : x ≤ y
  · rw [decide_eq_true h, decide_eq_false (List.not_lt.2 h)]; rfl
  · rw [decide_eq_false h, decide_eq_true (List.not_le.1 h)]; rfl
theorem cmpReads (blk off size : Nat) (w : World) : CmpReads Tryz.prog 98 #[] encStr Lib.compareBytes blk off size w := fun _ _ _ _ x y =>
  (Tryz.strings_Compare ⟨x.toArray⟩ ⟨y.toArray⟩ _).mono fun _ _ ⟨he, hw⟩ => ⟨he, 0, hw⟩
theorem grown_grow (w : World) (os : Array Obj) (r : Option Nat) : w.grownBy (Sort.grow w os) r :=
  ⟨rfl, rfl, rfl, by rw [Sort.size_grow]; omega, fun k hk _ => Sort.heap_grow_old w os hk⟩
theorem grown_put {α : Type} [Inhabited α] (enc : α → Value) (w : World) (q g : Nat) (d : Array α) : w.grownBy (Sort.putRow enc (Sort.ahead w q) g 0 d) (some g) :=
  ⟨rfl, rfl, rfl, by simp [Sort.putRow, Sort.mapBlock, Sort.ahead], fun k _ hne => by
    have : ¬ g = k := fun e => hne (by rw [e])
    simp [Sort.putRow, Sort.mapBlock, Sort.ahead, Array.getElem?_modify, this]⟩
theorem grown_trans {a b c : World} {r : Option Nat} (h : a.grownBy b r) (k : b.grownBy c r) : a.grownBy c r :=
  ⟨k.os.trans h.os, k.tape.trans h.tape, k.output.trans h.output, Nat.le_trans h.size k.size, fun j hj hn => (k.block j (Nat.lt_of_lt_of_le hj h.size) hn).trans (h.block j hj hn)⟩
theorem owns_grown {B e n : Nat} {v : Value} {xs : List Value} {w : World} (h : w.ownsRow B e 1 v n xs) (os : Array Obj) : (Sort.grow w os).ownsRow B e 1 v n xs :=
  owns_below h ((Below.refl _ _).grown (grown_grow w os none) (Nat.le_refl _) (fun k h => by cases h))

/-- What is left of a list that the call owns: it lies where the list lay; no other block is changed. -/
def AscPost (H0 : Nat) (w : World) (v : Value) (ps : List ByteArray) (e : Ending) (w' : World) : Prop :=
  ∃ A c, e = .returned (.slice A (ascW ps).length c) ∧ w'.ownsRow H0 9 1 (.slice A (ascW ps).length c) (ascW ps).length ((ascW ps).map Value.string) ∧ w.grownBy w' v.ownBlock ∧ (Value.slice A (ascW ps).length c).ownBlock = v.ownBlock

set_option maxRecDepth 100000 in
set_option maxHeartbeats 1600000 in
theorem asc_some (H0 : Nat) (g c : Nat) (ps : List ByteArray) (hp : 0 < ps.length) (hn : ps.length ≤ 1000000) (w : World)
    (ho : w.ownsRow H0 9 1 (.slice (some ⟨g, 0, none⟩) ps.length c) ps.length (ps.map Value.string)) :
    Calls Tryz.prog 66 #[.slice (some ⟨g, 0, none⟩) ps.length c] w (AscPost H0 w (.slice (some ⟨g, 0, none⟩) ps.length c) ps) := by
  have eg : ∀ args w, (callFunc 98 args).run Tryz.prog w = .ok (.enter 98 args) w := enters_of Tryz.func98 (by kernel_rfl) rfl
  have hdl : (datas ps).length = ps.length := by simp [datas]
  have ho' : w.ownsRow H0 9 1 (.slice (some ⟨g, 0, none⟩) ps.length c) ps.length ((datas ps).map encStr) := by unfold datas; rw [Lib.map_encStr]; exact ho
  obtain ⟨g', c', he, hBg, hlt, hnc, hcm, _, hH⟩ := Lib.holds_of_ownsRow ho' (by simp)
  simp only [Value.slice.injEq, Option.some.injEq, Addr.mk.injEq, and_true, true_and] at he
  obtain ⟨rfl, rfl⟩ := he
  have hsz : (datas ps).toArray.size = ps.length := by simpa using hdl
  have hS := Any.slices_SortFunc_total Tryz.sortL encStr (fun _ => rfl) Lib.compareBytes swoL 98 #[] g 0 c (datas ps).toArray w eg (cmpReads g 0 _ w).lays hH hlt (by rw [hsz]; omega) totL
  rw [geL, hsz] at hS
  change Calls Tryz.prog 97 _ _ _ at hS
  have HS : Hid (∀ n os, (Sort.grow (Sort.putRow encStr (Sort.ahead w n) g 0 (sortL ps).toArray) os).ownsRow H0 9 1 (.slice (some ⟨g, 0, none⟩) ps.length c) ps.length ((sortL ps).map encStr) ∧ w.grownBy (Sort.grow (Sort.putRow encStr (Sort.ahead w n) g 0 (sortL ps).toArray) os) (some g)) := Lib.hid fun n os => by
    have h1 := Lib.ownsRow_putRow (q := n) ho' (ys := sortL ps) (sortL_len ps) (Nat.le_refl _)
    rw [List.take_of_length_le (by rw [sortL_len]; exact Nat.le_refl _)] at h1
    exact ⟨owns_grown h1 os, grown_trans (grown_put encStr w n g _) (grown_grow _ os _)⟩
  have HC : Hid (∀ w1 : World, w1.ownsRow H0 9 1 (.slice (some ⟨g, 0, none⟩) ps.length c) ps.length ((sortL ps).map encStr) → w.grownBy w1 (some g) → Calls Tryz.prog 99 #[.slice (some ⟨g, 0, none⟩) ps.length c] w1 (AscPost H0 w (.slice (some ⟨g, 0, none⟩) ps.length c) ps)) := Lib.hid fun w1 h1 hb1 => by
    obtain ⟨g2, c2, he2, _, _, _, _, _, hH1⟩ := Lib.holds_of_ownsRow h1 (by simp)
    simp only [Value.slice.injEq, Option.some.injEq, Addr.mk.injEq, and_true, true_and] at he2
    obtain ⟨rfl, rfl⟩ := he2
    have hl := ascW_le ps
    have hcm2 : c ≤ 9223372036854775807 := by unfold maxLen at hcm; omega
    have h := Tryz.slices_Compact_string g 0 c (sortL ps) w1 hH1 (by rw [sortL_len]; omega) (by rw [sortL_len]; omega)
    rw [sortL_len, compact_sort] at h
    have hdl2 : (datas (ascW ps)).length = (ascW ps).length := by simp [datas]
    rw [hdl2] at h
    refine h.mono ?_
    rintro e w2 ⟨rfl, q, rfl⟩
    have h3 := Lib.ownsRow_putRow (q := q) (k := (ascW ps).length) h1 (ys := datas (ascW ps) ++ List.replicate (ps.length - (ascW ps).length) []) (by rw [List.length_append, hdl2, List.length_replicate]; omega) hl
    rw [List.take_left' hdl2] at h3
    have e3 : (datas (ascW ps)).map encStr = (ascW ps).map Value.string := by unfold datas; exact Lib.map_encStr _
    rw [e3] at h3
    exact ⟨_, _, rfl, h3, grown_trans hb1 (grown_put encStr w1 q g _), rfl⟩
  have HSS := Lib.hid hS
  clear hS hH ho ho'
  go_enter Tryz.func66, Tryz.ntmps66
  go_wp2_with fail
  refine HSS.out.mono ?_
  rintro e w1 ⟨rfl, n, os, hw1⟩
  obtain ⟨h1, h2⟩ := HS.out n os
  have e1 : w1 = Sort.grow (Sort.putRow encStr (Sort.ahead w n) g 0 (sortL ps).toArray) os := hw1
  rw [← e1] at h1 h2
  have HC1 := Lib.hid (HC.out w1 h1 h2)
  clear hw1 e1 h1 h2
  go_wp2_with fail
  refine HC1.out.mono ?_
  rintro e w2 ⟨A, c2, rfl, ho2, hb2, hab⟩
  have HO := Lib.hid ho2
  have HB := Lib.hid hb2
  have HAB := Lib.hid hab
  clear ho2 hb2 hab
  go_wp2
  go_ret
  exact ⟨A, c2, rfl, HO.out, HB.out, HAB.out⟩

set_option maxRecDepth 100000 in
set_option maxHeartbeats 1600000 in
theorem asc_none (H0 : Nat) (A : Option Addr) (c : Nat) (w : World) (ho : w.ownsRow H0 9 1 (.slice A 0 c) 0 []) :
    Calls Tryz.prog 66 #[.slice A 0 c] w (AscPost H0 w (.slice A 0 c) []) := by
  have hS := AnyF.slices_SortFunc_none (P := Tryz.prog) (ρ := Tryz.sortL_ren) { Tryz.sortL with } A c (.func (.func 98) #[] #[]) w
  change Calls Tryz.prog 97 _ _ _ at hS
  have HS := Lib.hid hS
  have HC := Lib.hid (Tryz.slices_Compact_string_empty A c w)
  have HO := Lib.hid ho
  clear hS ho
  go_enter Tryz.func66, Tryz.ntmps66
  go_wp2_with fail
  refine HS.out.mono ?_
  rintro e w1 ⟨rfl, hw1⟩
  obtain rfl : w = w1 := hw1.symm
  clear hw1
  go_wp2_with fail
  refine HC.out.mono ?_
  rintro e w1 ⟨rfl, hw1⟩
  obtain rfl : w = w1 := hw1.symm
  clear hw1
  go_wp2
  go_ret
  exact ⟨A, c, rfl, HO.out, World.grownBy.refl _ _, rfl⟩

theorem impl_asc (H0 : Nat) (v : Value) (ps : List ByteArray) (hn : ps.length ≤ 1000000) (w : World)
    (ho : w.ownsRow H0 9 1 v ps.length (ps.map Value.string)) :
    Calls Tryz.prog 66 #[v] w (AscPost H0 w v ps) := by
  by_cases hp : 0 < ps.length
  · obtain ⟨g, c, rfl, _, _⟩ := World.ownsRow.form ho hp
    exact asc_some H0 g c ps hp hn w ho
  · obtain rfl : ps = [] := List.eq_nil_of_length_eq_zero (by omega)
    rcases ho.2 with ⟨rfl, _⟩ | ⟨g, c, cur, rfl, _⟩
    · exact asc_none H0 none 0 w ho
    · exact asc_none H0 _ c w ho
end Go.Proofs.YtalclebehbdliaaGreat
