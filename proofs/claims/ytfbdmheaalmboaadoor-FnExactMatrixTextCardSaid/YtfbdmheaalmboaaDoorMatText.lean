/-
  The model's MatrixText: at every table the text that the plain words say; nothing that was there before is changed.
-/
import Derived.Test.YtfbdmheaalmboaaDoorMatSpec
import Derived.Test.YtfbdmheaalmboaaDoorGridLaw
import Derived.Test.YtfbdmheaalmboaaDoorFmtSpec
import Derived.Test.YtfbdmheaalmboaaDoorJoinSpec
import Derived.Deep.AppendLies
import Derived.Lib.ItoaLen
namespace Go.Proofs.YtfbdmheaalmboaaDoor
open Go Go.RowKit

def itoaB (n : Int) : ByteArray := ⟨(Lib.itoa n).toArray⟩
theorem itoaB_size {n : Int} (h0 : -9223372036854775808 ≤ n) (h1 : n ≤ 9223372036854775807) : (itoaB n).size ≤ 21 := Lib.itoa_length_le n h0 h1
/-- Numbers in decimal, with a string between them; a table's rows, with one between them. -/
def numsB (xs : List Int) (sep : ByteArray) : ByteArray := ⟨(joinOf (xs.map itoaB) sep).toArray⟩
def gridB (m : List (List Int)) : ByteArray := ⟨(joinOf (m.map fun r => numsB r ⟨#[44]⟩) ⟨#[47]⟩).toArray⟩
def textM (m : List (List Int)) : ByteArray := if isMat m = true then gridB m else ByteArray.empty
theorem total_itoaB {xs : List Int} (h : ∀ x ∈ xs, -9223372036854775808 ≤ x ∧ x ≤ 9223372036854775807) : total (xs.map itoaB) ≤ 21 * xs.length := by
  induction xs with
  | nil => simp [total]
  | cons x xs ih =>
    have h1 := itoaB_size (h x (by simp)).1 (h x (by simp)).2
    have h2 := ih fun y hy => h y (by simp [hy])
    have e : total ((x :: xs).map itoaB) = (itoaB x).size + total (xs.map itoaB) := by simp [total]
    rw [e, List.length_cons]; omega
theorem numsB_size {xs : List Int} {sep : ByteArray} (h : ∀ x ∈ xs, -9223372036854775808 ≤ x ∧ x ≤ 9223372036854775807) (hs : sep.size = 1) : (numsB xs sep).size ≤ 22 * xs.length := by
  have h1 := joinOf_length (xs.map itoaB) sep
  have h2 := total_itoaB h
  rw [hs, List.length_map, Nat.one_mul] at h1
  show (joinOf (xs.map itoaB) sep).length ≤ _
  omega
theorem take_strs (ps : List ByteArray) (k : Nat) (h : k < ps.length) : (ps.take k).map Value.string ++ [.string (ps.getD k ByteArray.empty)] = (ps.take (k + 1)).map Value.string := by
  rw [take_next ps k h, List.map_append]; rfl
theorem strs_made {w : World} : (w.alloc (.cells #[] 9)).ownsRow w.heap.size 9 1 (.slice (some ⟨w.heap.size, 0, none⟩) 0 0) 0 [] :=
  World.ownsRow_made (base := w.heap.size) (e := 9) (size := 1) w #[] 0 (Nat.le_refl _) (by unfold maxLen; omega) rfl
theorem strs_more {w w1 w2 : World} {g cap : Nat} {v : Value} {k n : Nat} {ps : List ByteArray} (hB : Below w.heap.size w w1) (hO : w1.ownsRow w.heap.size 9 1 v k ((ps.take k).map Value.string)) (hk : k < ps.length) (o : Obj)
    (ho2 : w2.ownsRow w.heap.size 9 1 (.slice (some ⟨g, 0, none⟩) n cap) n ((ps.take k).map Value.string ++ [.string (ps.getD k ByteArray.empty)])) (hg : (w1.alloc o).grownBy w2 v.ownBlock) :
    w2.ownsRow w.heap.size 9 1 (.slice (some ⟨g, 0, none⟩) n cap) n ((ps.take (k + 1)).map Value.string) ∧ Below w.heap.size w w2 := by
  rw [take_strs ps k hk] at ho2
  refine ⟨ho2, (hB.alloc hB.size o).grown hg (by have := hB.size; simp; omega) fun q hq => (hO.lt q hq).1⟩

set_option maxRecDepth 100000 in
set_option maxHeartbeats 1600000 in
theorem spec_numbers (A : Option Addr) (c : Nat) (xs : List Int) (sep : ByteArray) (hs : sep.size = 1) (h0 : 0 < xs.length) (hn : xs.length ≤ 1048576) (hx : ∀ x ∈ xs, -9223372036854775808 ≤ x ∧ x ≤ 9223372036854775807) (w : World) (hr : RowS w A xs) :
    Calls Tryd.prog 16 #[.slice A xs.length c, .string sep] w (Scalar (.string (numsB xs sep)) w) := by
  obtain ⟨i0, hi, hz0, hz1, hz2⟩ := info_parts infoStr
  obtain ⟨b, off, rfl, hat, hb⟩ := hr h0
  have hpl : (xs.map itoaB).length = xs.length := by simp
  have HAT : Hid (∀ w', Below w.heap.size w w' → IntsAt w' b off xs) := Lib.hid fun w' hbl => hat.below hbl hb
  have HGET : Hid (∀ k, k < xs.length → (xs.map itoaB).getD k ByteArray.empty = itoaB (xs.getD k 0) ∧ -9223372036854775808 ≤ xs.getD k 0 ∧ xs.getD k 0 ≤ 9223372036854775807) := Lib.hid fun k hk => by
    refine ⟨by simp [List.getD, hk], ?_⟩
    have := hx xs[k] (List.getElem_mem hk)
    simpa [List.getD, hk] using this
  have htot := total_itoaB hx
  have HJ : Hid (∀ gg cc w', w'.ownsRow w.heap.size 9 1 (.slice (some ⟨gg, 0, none⟩) xs.length cc) xs.length ((xs.map itoaB).map Value.string) → Calls Tryd.prog 17 #[.slice (some ⟨gg, 0, none⟩) xs.length cc, .string sep] w' (StrPost (joinOf (xs.map itoaB) sep) w')) :=
    Lib.hid (fun gg cc w' ho => by
      have h := spec_join gg 0 cc (xs.map itoaB) sep (by rw [hpl]; omega) (by rw [hs, hpl, Nat.one_mul]; omega) w' (StrsAt.of_owns ho (by rw [hpl])) (ho.lt gg rfl).2
      rw [hpl] at h
      exact h)
  have HALL : Hid ((xs.map itoaB).take xs.length = xs.map itoaB) := Lib.hid (List.take_of_length_le (by rw [hpl]; exact Nat.le_refl _))
  have HPL := Lib.hid hpl
  unfold numsB
  generalize xs.map itoaB = ps at *
  clear hr hat hx htot hpl
  go_enter Tryd.func16, Tryd.ntmps16
  go_wp2
  go_loopw [5, 6] (fun v i wr => ∃ k : Nat, k ≤ xs.length ∧ i = .int .i64 k ∧ wr.ownsRow w.heap.size 9 1 v k ((ps.take k).map Value.string) ∧ Below w.heap.size w wr) (fun _ i _ => xs.length - (intOf i).toNat)
  case atStart => exact ⟨0, Nat.zero_le _, rfl, strs_made, (Below.refl _ _).alloc (Nat.le_refl _) _⟩
  case round =>
    obtain ⟨k, hk, rfl, hO, hbl⟩ := hrel
    by_cases hlt : k < xs.length
    · have hc := HAT.out wr hbl k hlt
      obtain ⟨hget, hx0, hx1⟩ := HGET.out k hlt
      have HG := Lib.hid hget
      have HO := Lib.hid hO
      have HB := Lib.hid hbl
      have hsz := hbl.size
      clear hO hbl hget
      generalize xs.getD k 0 = x at *
      have HF := Lib.hid (fun w' => spec_fmt x hx0 hx1 w')
      go_wp2_with fail
      refine (HF.out _).mono ?_
      rintro e w1 ⟨rfl, hb1⟩
      have HB1 := Lib.hid (HB.out.trans (hb1.mono hsz))
      have HO1 := Lib.hid (kept_below HO.out hb1)
      have hs1 := HB1.out.size
      clear hb1
      go_wp2_with (at_builtin; refine wpList_append_lies _ rfl (.tmp 14) (.tmp 20) 34 rfl w.heap.size 9 i0 (.string ByteArray.empty) 1 16 Tryd.underlying34 hi hz0 hz1 hz2 rfl (by decide) _ _ _ rfl (HO1.out.alloc _) ⟨w1.heap.size, 0, none⟩ 1 1 [.string ⟨(Lib.itoa x).toArray⟩] rfl rfl (World.news_of_block (cs := #[.string ⟨(Lib.itoa x).toArray⟩]) (t := 9) (fr := (0, 0)) (heap_alloc_new w1 _)) (by simp [Value.oneCell']) (by decide) (by unfold maxLen; omega) (by omega) (by simp; omega) (w1.heap.size + 1) (by simp) ?_; intro gg cap w3 ho3 hg3 hat3 hlt3; have HN := Lib.hid (strs_more HB1.out HO1.out (by rw [HPL.out]; exact hlt) _ (by rw [HG.out]; exact ho3) hg3); clear ho3 hg3 hat3)
      go_roundw
      case rel => exact ⟨k + 1, by omega, by go_num, HN.out.1, HN.out.2⟩
      case measure => simp [intOf]; omega
    · obtain rfl : k = xs.length := by omega
      rw [HALL.out] at hO
      obtain ⟨g, cap, rfl, _, _⟩ := hO.form h0
      have HJ1 := Lib.hid (HJ.out g cap wr hO)
      have HB := Lib.hid hbl
      clear hO hbl
      go_wp2_with fail
      refine HJ1.out.mono ?_
      rintro e w1 ⟨rfl, hb1⟩
      have HB1 := Lib.hid (HB.out.trans (hb1.mono HB.out.size))
      clear hb1
      go_wp2
      go_ret
      exact ⟨rfl, HB1.out⟩

set_option maxRecDepth 100000 in
set_option maxHeartbeats 1600000 in
theorem spec_matrixText (A : Option Addr) (c : Nat) (m : List (List Int)) (hn : m.length ≤ 1048576) (ht : ∀ k, k < m.length → (m.getD k []).length ≤ 1099511627776) (w : World) (hg : GridS w A m) :
    Calls Tryd.prog 6 #[.slice A m.length c] w (Scalar (.string (textM m)) w) := by
  have HI := Lib.hid (spec_isMatrix A c m (by omega) ht w hg)
  unfold textM
  cases hm : isMat m with
  | false =>
    rw [hm] at HI
    clear hg ht
    go_enter Tryd.func6, Tryd.ntmps6
    go_wp2_with fail
    refine HI.out.mono ?_
    rintro e w1 ⟨rfl, rfl⟩
    go_wp2
    go_ret
    exact ⟨rfl, Below.refl _ _⟩
  | true =>
    rw [hm] at HI
    rw [if_pos rfl]
    obtain ⟨i0, hi, hz0, hz1, hz2⟩ := info_parts infoStr
    have hf := isMat_facts hm
    have hle := hf.le
    have hpos := hf.pos
    have hrowx : ∀ k, k < m.length → ∀ x ∈ m.getD k [], -9223372036854775808 ≤ x ∧ x ≤ 9223372036854775807 := fun k hk x hx => by
      obtain ⟨j, hj, rfl⟩ := List.getElem_of_mem hx
      have hc := hf.cell k j hk (by rw [← hf.row k hk]; exact hj)
      unfold cellOf at hc
      have e : (m.getD k []).getD j 0 = (m.getD k [])[j] := by rw [List.getD_eq_getElem?_getD, List.getElem?_eq_getElem hj]; rfl
      rw [e] at hc
      omega
    have HG : Hid (∀ w', Below w.heap.size w w' → GridS w' A m) := Lib.hid fun w' hb => hg.below hb
    have HN : Hid (∀ k, k < m.length → ∀ A' c' w', RowS w' A' (m.getD k []) → Calls Tryd.prog 16 #[.slice A' (m.getD k []).length c', .string ⟨#[44]⟩] w' (Scalar (.string (numsB (m.getD k []) ⟨#[44]⟩)) w')) :=
      Lib.hid fun k hk A' c' w' hr => spec_numbers A' c' (m.getD k []) ⟨#[44]⟩ rfl (by rw [hf.row k hk]; omega) (by rw [hf.row k hk]; omega) (hrowx k hk) w' hr
    have hpl : (m.map fun r => numsB r ⟨#[44]⟩).length = m.length := by simp
    have htot : total (m.map fun r => numsB r ⟨#[44]⟩) ≤ 198 * m.length := by
      have hall : ∀ r ∈ m, (numsB r ⟨#[44]⟩).size ≤ 198 := fun r hr => by
        obtain ⟨k, hk, rfl⟩ := List.getElem_of_mem hr
        have e : m.getD k [] = m[k] := by simp [List.getD, hk]
        have h1 := numsB_size (sep := ⟨#[44]⟩) (hrowx k hk) rfl
        rw [hf.row k hk, e] at h1
        omega
      clear HI hf hle hpos hrowx HG HN hpl hm hg ht hn
      induction m with
      | nil => simp [total]
      | cons r m ih =>
        have h1 := hall r (by simp)
        have h2 := ih fun s hs => hall s (by simp [hs])
        have e : total ((r :: m).map fun r => numsB r ⟨#[44]⟩) = (numsB r ⟨#[44]⟩).size + total (m.map fun r => numsB r ⟨#[44]⟩) := by simp [total]
        rw [e, List.length_cons]; omega
    have HJ : Hid (∀ gg cc w', w'.ownsRow w.heap.size 9 1 (.slice (some ⟨gg, 0, none⟩) m.length cc) m.length ((m.map fun r => numsB r ⟨#[44]⟩).map Value.string) → Calls Tryd.prog 17 #[.slice (some ⟨gg, 0, none⟩) m.length cc, .string ⟨#[47]⟩] w' (StrPost (joinOf (m.map fun r => numsB r ⟨#[44]⟩) ⟨#[47]⟩) w')) :=
      Lib.hid (fun gg cc w' ho => by
        have h := spec_join gg 0 cc (m.map fun r => numsB r ⟨#[44]⟩) ⟨#[47]⟩ (by rw [hpl]; omega) (by
          have e : (⟨#[47]⟩ : ByteArray).size = 1 := rfl
          rw [e, hpl, Nat.one_mul]; omega) w' (StrsAt.of_owns ho (by rw [hpl])) (ho.lt gg rfl).2
        rw [hpl] at h
        exact h)
    have HGET : Hid (∀ k, k < m.length → (m.map fun r => numsB r ⟨#[44]⟩).getD k ByteArray.empty = numsB (m.getD k []) ⟨#[44]⟩) := Lib.hid fun k hk => by simp [List.getD, hk]
    have HALL : Hid ((m.map fun r => numsB r ⟨#[44]⟩).take m.length = m.map fun r => numsB r ⟨#[44]⟩) := Lib.hid (List.take_of_length_le (by rw [hpl]; exact Nat.le_refl _))
    have HPL := Lib.hid hpl
    have HRL := Lib.hid hf.row
    unfold gridB
    generalize (m.map fun r => numsB r ⟨#[44]⟩) = ps at *
    clear hf hrowx hg ht htot hpl hm
    go_enter Tryd.func6, Tryd.ntmps6
    go_wp2_with fail
    refine HI.out.mono ?_
    rintro e w1 ⟨rfl, hw⟩
    obtain rfl : w = w1 := hw.symm
    go_wp2
    go_loopw [3, 4] (fun v i wr => ∃ k : Nat, k ≤ m.length ∧ i = .int .i64 k ∧ wr.ownsRow w.heap.size 9 1 v k ((ps.take k).map Value.string) ∧ Below w.heap.size w wr) (fun _ i _ => m.length - (intOf i).toNat)
    case atStart => exact ⟨0, Nat.zero_le _, rfl, strs_made, (Below.refl _ _).alloc (Nat.le_refl _) _⟩
    case round =>
      obtain ⟨k, hk, rfl, hO, hbl⟩ := hrel
      by_cases hlt : k < m.length
      · obtain ⟨b, off, A', c', rfl, hc, hrow, _⟩ := (HG.out wr hbl).row hlt
        have HC := Lib.hid (HN.out k hlt A' c' wr hrow)
        have HGT := Lib.hid (HGET.out k hlt)
        have HO := Lib.hid hO
        have HB := Lib.hid hbl
        have hsz := hbl.size
        clear hO hbl hrow
        generalize numsB (m.getD k []) ⟨#[44]⟩ = s at HC HGT
        generalize (m.getD k []).length = n at hc HC
        go_wp2_with fail
        refine HC.out.mono ?_
        rintro e w1 ⟨rfl, hb1⟩
        have HB1 := Lib.hid (HB.out.trans (hb1.mono hsz))
        have HO1 := Lib.hid (kept_below HO.out hb1)
        have hs1 := HB1.out.size
        clear hb1
        go_wp2_with (at_builtin; refine wpList_append_lies _ rfl (.tmp 15) (.tmp 21) 34 rfl w.heap.size 9 i0 (.string ByteArray.empty) 1 16 Tryd.underlying34 hi hz0 hz1 hz2 rfl (by decide) _ _ _ rfl (HO1.out.alloc _) ⟨w1.heap.size, 0, none⟩ 1 1 [.string s] rfl rfl (World.news_of_block (cs := #[.string s]) (t := 9) (fr := (0, 0)) (heap_alloc_new w1 _)) (by simp [Value.oneCell']) (by decide) (by unfold maxLen; omega) (by omega) (by simp; omega) (w1.heap.size + 1) (by simp) ?_; intro gg cap w3 ho3 hg3 hat3 hlt3; have HNX := Lib.hid (strs_more HB1.out HO1.out (by rw [HPL.out]; exact hlt) _ (by rw [HGT.out]; exact ho3) hg3); clear ho3 hg3 hat3)
        go_roundw
        case rel => exact ⟨k + 1, by omega, by go_num, HNX.out.1, HNX.out.2⟩
        case measure => simp [intOf]; omega
      · obtain rfl : k = m.length := by omega
        rw [HALL.out] at hO
        obtain ⟨g, cap, rfl, _, _⟩ := hO.form (by omega)
        have HJ1 := Lib.hid (HJ.out g cap wr hO)
        have HB := Lib.hid hbl
        clear hO hbl
        go_wp2_with fail
        refine HJ1.out.mono ?_
        rintro e w1 ⟨rfl, hb1⟩
        have HB1 := Lib.hid (HB.out.trans (hb1.mono HB.out.size))
        clear hb1
        go_wp2
        go_ret
        exact ⟨rfl, HB1.out⟩
end Go.Proofs.YtfbdmheaalmboaaDoor
