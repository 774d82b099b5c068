/-
  PLAIN FACTS ON THE LANGUAGE OF A SHIFT (no program in this text): the pairs of letters that go on without end on both sides, once as a list of words and once as a set of bits. Both are the greatest set of its kind, so both decide alike which words are in the language.
-/
import Derived.Test.YtcoiodfggaanbaaShiftNum
import Derived.Lib.SlicesS
namespace Go.Proofs.Ytcoiodfggaanbaa
open Go Go.RowKit

/-! ### Parts of words -/
theorem contains_iff {s sub : List UInt8} : Lib.contains s sub = true ↔ sub <:+: s := by
  constructor
  · intro h
    by_cases hx : ∃ i, i + sub.length ≤ s.length ∧ Lib.occAt s sub i = true
    · obtain ⟨i, _, hi⟩ := hx
      unfold Lib.occAt at hi
      exact (List.isPrefixOf_iff_prefix.1 hi).isInfix.trans (List.drop_suffix i s).isInfix
    · have := contains_no (s := s) (sub := sub) (fun i hi => by
        rw [← Bool.not_eq_true]; exact fun ho => hx ⟨i, hi, ho⟩)
      rw [this] at h; cases h
  · rintro ⟨x, y, rfl⟩
    refine contains_yes (i := x.length) (by simp) ?_
    unfold Lib.occAt
    rw [List.isPrefixOf_iff_prefix, List.append_assoc, List.drop_left]
    exact List.prefix_append sub y
theorem avoids_part {ps : List ByteArray} {u v : ByteArray} (h : u.data.toList <:+: v.data.toList) (ha : avoids ps v = true) : avoids ps u = true := by
  unfold avoids at ha ⊢
  rw [List.all_eq_true] at ha ⊢
  intro f hf
  have := ha f hf
  cases hc : Lib.contains u.data.toList f.data.toList with
  | false => rfl
  | true => rw [contains_iff.2 ((contains_iff.1 hc).trans h)] at this; cases this
def pr (a b : UInt8) : ByteArray := ⟨#[a, b]⟩
def tri (a b c : UInt8) : ByteArray := ⟨#[a, b, c]⟩
/-- The byte at a place. -/
def ch (w : ByteArray) (i : Nat) : UInt8 := w.data.toList.getD i 0
theorem ch_lt (w : ByteArray) (i : Nat) (h : i < w.size) : ch w i = w[i] := by
  unfold ch
  rw [List.getD_eq_getElem?_getD, List.getElem?_eq_getElem (by exact h), Option.getD_some]; rfl
theorem list2 {l : List UInt8} (h : l.length = 2) : ∃ a b, l = [a, b] := by
  match l, h with
  | [a, b], _ => exact ⟨a, b, rfl⟩
theorem list3 {l : List UInt8} (h : l.length = 3) : ∃ a b c, l = [a, b, c] := by
  match l, h with
  | [a, b, c], _ => exact ⟨a, b, c, rfl⟩
theorem is_pr {w : ByteArray} (h : w.size = 2) : ∃ a b, w = pr a b := by
  obtain ⟨a, b, e⟩ := list2 (l := w.data.toList) h
  exact ⟨a, b, ba_ext e⟩
theorem is_tri {w : ByteArray} (h : w.size = 3) : ∃ a b c, w = tri a b c := by
  obtain ⟨a, b, c, e⟩ := list3 (l := w.data.toList) h
  exact ⟨a, b, c, ba_ext e⟩
theorem pr_inj {a b c d : UInt8} (h : pr a b = pr c d) : a = c ∧ b = d := by
  have : [a, b] = [c, d] := congrArg (fun w : ByteArray => w.data.toList) h
  simpa using this

theorem getD_mem {ps : List ByteArray} {k : Nat} (h : k < ps.length) : ps.getD k ByteArray.empty ∈ ps := by
  rw [List.getD_eq_getElem?_getD, List.getElem?_eq_getElem h]; exact List.getElem_mem h

/-! ### All words of a length -/
theorem isL_letter {k j : Nat} (hk : k ≤ 3) (hj : j < k) : isL (k : Int) (UInt8.ofNat (97 + j)) = true := by
  have e : (UInt8.ofNat (97 + j)).toNat = 97 + j := by rw [UInt8.toNat_ofNat']; omega
  unfold isL
  rw [e, Bool.and_eq_true, decide_eq_true_eq, decide_eq_true_eq]
  exact ⟨by omega, by omega⟩
theorem isL_is {k : Nat} {b : UInt8} (h : isL (k : Int) b = true) : ∃ j, j < k ∧ b = UInt8.ofNat (97 + j) := by
  unfold isL at h
  rw [Bool.and_eq_true, decide_eq_true_eq, decide_eq_true_eq] at h
  refine ⟨b.toNat - 97, by omega, ?_⟩
  rw [show 97 + (b.toNat - 97) = b.toNat by omega, UInt8.ofNat_toNat]
theorem mem_allW (k : Nat) (hk : k ≤ 3) : ∀ (n : Nat) (w : ByteArray), w ∈ allW k n ↔ w.size = n ∧ w.data.toList.all (isL (k : Int)) = true
  | 0, w => by
    show w ∈ [ByteArray.empty] ↔ _
    rw [List.mem_singleton]
    constructor
    · rintro rfl; exact ⟨rfl, rfl⟩
    · rintro ⟨h, _⟩
      exact ba_ext (List.eq_nil_of_length_eq_zero h)
  | n + 1, w => by
    show w ∈ longer (allW k n) k ↔ _
    unfold longer
    rw [List.mem_flatMap]
    constructor
    · rintro ⟨u, hu, hw⟩
      obtain ⟨j, hj, rfl⟩ := List.mem_map.1 hw
      obtain ⟨h1, h2⟩ := (mem_allW k hk n u).1 hu
      refine ⟨by rw [ByteArray.size_append, letterB_size, h1], ?_⟩
      rw [ba_append, List.all_append, h2]
      show (true && ([UInt8.ofNat (97 + j)].all (isL (k : Int)))) = true
      simp only [List.all_cons, List.all_nil, Bool.and_true, Bool.true_and]
      exact isL_letter hk (List.mem_range.1 hj)
    · rintro ⟨h1, h2⟩
      have hl : w.data.toList.length = n + 1 := h1
      have hne : w.data.toList ≠ [] := by intro e; rw [e] at hl; cases hl
      have hsplit := List.dropLast_concat_getLast hne
      rw [← hsplit, List.all_append, Bool.and_eq_true] at h2
      obtain ⟨j, hj, hb⟩ := isL_is (b := w.data.toList.getLast hne) (by have := h2.2; simp only [List.all_cons, List.all_nil, Bool.and_true] at this; exact this)
      refine ⟨⟨w.data.toList.dropLast.toArray⟩, (mem_allW k hk n _).2 ⟨?_, by simpa using h2.1⟩, List.mem_map.2 ⟨j, List.mem_range.2 hj, ?_⟩⟩
      · show w.data.toList.dropLast.toArray.size = n
        rw [List.size_toArray, List.length_dropLast, hl]; rfl
      · refine ba_ext ?_
        rw [ba_append]
        show w.data.toList.dropLast ++ [UInt8.ofNat (97 + j)] = w.data.toList
        rw [← hb]
        exact hsplit

/-! ### The pairs that go on -/
def Closed (L : Int) (ps : List ByteArray) (S : UInt8 → UInt8 → Prop) : Prop :=
  ∀ a b, S a b → isL L a = true ∧ isL L b = true ∧ (∃ c, isL L c = true ∧ avoids ps (tri a b c) = true ∧ S b c) ∧ (∃ c, isL L c = true ∧ avoids ps (tri c a b) = true ∧ S c a)
def Lively (L : Int) (ps : List ByteArray) (a b : UInt8) : Prop := ∃ S, Closed L ps S ∧ S a b
theorem Lively.closed (L : Int) (ps : List ByteArray) : Closed L ps (Lively L ps) := by
  rintro a b ⟨S, hS, hab⟩
  obtain ⟨h1, h2, ⟨c, hc, ht, hs⟩, d, hd, ht', hs'⟩ := hS a b hab
  exact ⟨h1, h2, ⟨c, hc, ht, S, hS, hs⟩, d, hd, ht', S, hS, hs'⟩

/-! ### As a list -/
def goesB (ps list : List ByteArray) (w : ByteArray) : Bool := list.any fun q => decide (ch q 0 = ch w 1) && avoids ps (w ++ q.extract 1 q.size)
def goesA (ps list : List ByteArray) (w : ByteArray) : Bool := list.any fun q => decide (ch q 1 = ch w 0) && avoids ps (q ++ w.extract 1 w.size)
def stepW (ps l : List ByteArray) : List ByteArray := l.filter fun w => goesB ps l w && goesA ps l w
def fixW (ps : List ByteArray) : Nat → List ByteArray → List ByteArray
  | 0, l => l
  | n + 1, l => if (stepW ps l).length = l.length then l else fixW ps n (stepW ps l)
theorem stepW_length (ps l : List ByteArray) : (stepW ps l).length ≤ l.length := List.length_filter_le _ _
theorem stepW_same {ps l : List ByteArray} (h : (stepW ps l).length = l.length) : stepW ps l = l := by
  unfold stepW at h ⊢
  exact List.filter_eq_self.2 (List.length_filter_eq_length_iff.1 h)
theorem fixW_fixed (ps : List ByteArray) : ∀ (n : Nat) (l : List ByteArray), l.length ≤ n → stepW ps (fixW ps n l) = fixW ps n l
  | 0, l, h => by
    obtain rfl : l = [] := List.eq_nil_of_length_eq_zero (by omega)
    rfl
  | n + 1, l, h => by
    unfold fixW
    split
    · next e => exact stepW_same e
    · next e =>
      have := stepW_length ps l
      exact fixW_fixed ps n _ (by omega)
theorem fixW_sub (ps : List ByteArray) : ∀ (n : Nat) (l : List ByteArray), ∀ x ∈ fixW ps n l, x ∈ l
  | 0, l, x, h => h
  | n + 1, l, x, h => by
    unfold fixW at h
    split at h
    · exact h
    · exact (List.mem_filter.1 (fixW_sub ps n _ x h)).1
theorem pr_tail (a b c d : UInt8) : pr a b ++ (pr c d).extract 1 (pr c d).size = tri a b d := ba_ext (by rw [ba_append, ba_extract]; rfl)
theorem lively_step {L : Int} {ps l : List ByteArray} (h : ∀ a b, Lively L ps a b → pr a b ∈ l) : ∀ a b, Lively L ps a b → pr a b ∈ stepW ps l := by
  intro a b hab
  obtain ⟨_, _, ⟨c, _, hc, hbc⟩, d, _, hd, hda⟩ := Lively.closed L ps a b hab
  unfold stepW
  refine List.mem_filter.2 ⟨h a b hab, ?_⟩
  rw [Bool.and_eq_true]
  refine ⟨List.any_eq_true.2 ⟨pr b c, h b c hbc, ?_⟩, List.any_eq_true.2 ⟨pr d a, h d a hda, ?_⟩⟩
  · rw [Bool.and_eq_true, decide_eq_true_eq, pr_tail]; exact ⟨rfl, hc⟩
  · rw [Bool.and_eq_true, decide_eq_true_eq, pr_tail]; exact ⟨rfl, hd⟩
theorem lively_fix {L : Int} {ps : List ByteArray} : ∀ (n : Nat) (l : List ByteArray), (∀ a b, Lively L ps a b → pr a b ∈ l) → ∀ a b, Lively L ps a b → pr a b ∈ fixW ps n l
  | 0, l, h => h
  | n + 1, l, h => by
    unfold fixW
    split
    · exact h
    · exact lively_fix n _ (lively_step h)
def keepW (ps ws : List ByteArray) : List ByteArray := ws.filter (avoids ps)
def pairsW (k : Nat) (ps : List ByteArray) : List ByteArray := fixW ps 9 (keepW ps (allW k 2))
theorem two_le {k : Nat} (hk : k ≤ 3) : k ^ 2 ≤ 9 := Nat.le_trans (Nat.pow_le_pow_left hk 2) (by decide)
theorem keepW_two (ps : List ByteArray) {k : Nat} (hk : k ≤ 3) : (keepW ps (allW k 2)).length ≤ 9 :=
  Nat.le_trans (List.length_filter_le _ _) (by rw [allW_length]; exact two_le hk)
theorem pairsW_fixed (ps : List ByteArray) {k : Nat} (hk : k ≤ 3) : stepW ps (pairsW k ps) = pairsW k ps := fixW_fixed ps 9 _ (keepW_two ps hk)
theorem mem_pairsW' {ps : List ByteArray} {k : Nat} (hk : k ≤ 3) {w : ByteArray} (h : w ∈ pairsW k ps) : ∃ a b, w = pr a b ∧ isL (k : Int) a = true ∧ isL (k : Int) b = true := by
  have h1 := fixW_sub ps 9 _ w h
  obtain ⟨h2, h3⟩ := (mem_allW k hk 2 w).1 ((List.mem_filter.1 h1).1)
  obtain ⟨a, b, rfl⟩ := is_pr h2
  have h4 : ([a, b].all (isL (k : Int))) = true := h3
  simp at h4
  exact ⟨a, b, rfl, h4.1, h4.2⟩
theorem mem_pairsW {ps : List ByteArray} {k : Nat} (hk : k ≤ 3) (a b : UInt8) : pr a b ∈ pairsW k ps ↔ Lively (k : Int) ps a b := by
  constructor
  · intro h
    refine ⟨fun x y => pr x y ∈ pairsW k ps, ?_, h⟩
    intro x y hxy
    obtain ⟨x', y', e, hx, hy⟩ := mem_pairsW' hk hxy
    obtain ⟨rfl, rfl⟩ := pr_inj e
    have h2 := hxy
    rw [← pairsW_fixed ps hk] at h2
    have h3 := (List.mem_filter.1 h2).2
    rw [Bool.and_eq_true] at h3
    obtain ⟨q, hq, hq2⟩ := List.any_eq_true.1 h3.1
    obtain ⟨r, hr, hr2⟩ := List.any_eq_true.1 h3.2
    obtain ⟨a1, b1, rfl, _, hb1⟩ := mem_pairsW' hk hq
    obtain ⟨a2, b2, rfl, ha2, _⟩ := mem_pairsW' hk hr
    rw [Bool.and_eq_true, decide_eq_true_eq, pr_tail] at hq2 hr2
    have e1 : a1 = y := hq2.1
    have e2 : b2 = x := hr2.1
    subst e1 e2
    exact ⟨hx, hy, ⟨b1, hb1, hq2.2, hq⟩, a2, ha2, hr2.2, hr⟩
  · refine lively_fix 9 _ ?_ a b
    intro a b hab
    obtain ⟨h1, h2, ⟨c, _, hc, _⟩, _⟩ := Lively.closed _ _ a b hab
    refine List.mem_filter.2 ⟨(mem_allW k hk 2 _).2 ⟨rfl, ?_⟩, avoids_part ⟨[], [c], rfl⟩ hc⟩
    show ([a, b].all (isL (k : Int))) = true
    simp [h1, h2]

/-! ### As bits -/
def ix (b : UInt8) : Nat := b.toNat - 97
def bitOf (a b : UInt8) : Nat := 3 * ix a + ix b
def bitAt (w : ByteArray) (i : Nat) : Nat := bitOf (ch w i) (ch w (i + 1))
def hasP (p : Nat) (w : ByteArray) (i : Nat) : Bool := p.testBit (bitAt w i)
def stepF (p : Nat) (r : Nat × Nat) (w : ByteArray) : Nat × Nat :=
  if (hasP p w 0 && hasP p w 1) = true then (r.1 ||| 2 ^ bitAt w 0, r.2 ||| 2 ^ bitAt w 1) else r
def stepB (ws : List ByteArray) (p : Nat) : Nat := (ws.foldl (stepF p) (0, 0)).1 &&& (ws.foldl (stepF p) (0, 0)).2
theorem foldl_next (ws : List ByteArray) (p k : Nat) (r : Nat × Nat) (h : k < ws.length) : (ws.take (k + 1)).foldl (stepF p) r = stepF p ((ws.take k).foldl (stepF p) r) (ws.getD k ByteArray.empty) := by
  rw [List.take_succ_eq_append_getElem h, List.foldl_append, List.getD_eq_getElem?_getD, List.getElem?_eq_getElem h]; rfl
theorem foldl_ahead (p b : Nat) : ∀ (ws : List ByteArray) (r : Nat × Nat), (ws.foldl (stepF p) r).1.testBit b = true ↔ r.1.testBit b = true ∨ ∃ w ∈ ws, hasP p w 0 = true ∧ hasP p w 1 = true ∧ bitAt w 0 = b
  | [], r => by simp
  | w :: ws, r => by
    rw [List.foldl_cons, foldl_ahead p b ws]
    unfold stepF
    by_cases h : (hasP p w 0 && hasP p w 1) = true
    · rw [if_pos h]
      rw [Bool.and_eq_true] at h
      simp only [Nat.testBit_or, Bool.or_eq_true, Nat.testBit_two_pow, decide_eq_true_eq, List.mem_cons, exists_eq_or_imp, h, true_and, or_assoc]
    · rw [if_neg h]
      rw [Bool.and_eq_true] at h
      simp only [List.mem_cons, exists_eq_or_imp]
      constructor
      · rintro (h1 | h1)
        · exact .inl h1
        · exact .inr (.inr h1)
      · rintro (h1 | h1 | h1)
        · exact .inl h1
        · exact absurd ⟨h1.1, h1.2.1⟩ h
        · exact .inr h1
theorem foldl_behind (p b : Nat) : ∀ (ws : List ByteArray) (r : Nat × Nat), (ws.foldl (stepF p) r).2.testBit b = true ↔ r.2.testBit b = true ∨ ∃ w ∈ ws, hasP p w 0 = true ∧ hasP p w 1 = true ∧ bitAt w 1 = b
  | [], r => by simp
  | w :: ws, r => by
    rw [List.foldl_cons, foldl_behind p b ws]
    unfold stepF
    by_cases h : (hasP p w 0 && hasP p w 1) = true
    · rw [if_pos h]
      rw [Bool.and_eq_true] at h
      simp only [Nat.testBit_or, Bool.or_eq_true, Nat.testBit_two_pow, decide_eq_true_eq, List.mem_cons, exists_eq_or_imp, h, true_and, or_assoc]
    · rw [if_neg h]
      rw [Bool.and_eq_true] at h
      simp only [List.mem_cons, exists_eq_or_imp]
      constructor
      · rintro (h1 | h1)
        · exact .inl h1
        · exact .inr (.inr h1)
      · rintro (h1 | h1 | h1)
        · exact .inl h1
        · exact absurd ⟨h1.1, h1.2.1⟩ h
        · exact .inr h1
theorem stepB_iff (ws : List ByteArray) (p b : Nat) : (stepB ws p).testBit b = true ↔ (∃ w ∈ ws, hasP p w 0 = true ∧ hasP p w 1 = true ∧ bitAt w 0 = b) ∧ ∃ w ∈ ws, hasP p w 0 = true ∧ hasP p w 1 = true ∧ bitAt w 1 = b := by
  unfold stepB
  rw [Nat.testBit_and, Bool.and_eq_true, foldl_ahead, foldl_behind]
  simp
theorem stepB_le (ws : List ByteArray) (p : Nat) : stepB ws p ≤ p := by
  have : stepB ws p &&& p = stepB ws p := by
    apply Nat.eq_of_testBit_eq
    intro b
    rw [Nat.testBit_and]
    cases h : (stepB ws p).testBit b with
    | false => rfl
    | true =>
      obtain ⟨⟨w, _, h1, _, rfl⟩, _⟩ := (stepB_iff ws p b).1 h
      rw [Bool.true_and]; exact h1
  rw [← this]; exact Nat.and_le_right
def fixB (ws : List ByteArray) : Nat → Nat → Nat
  | 0, p => p
  | n + 1, p => if stepB ws p = p then p else fixB ws n (stepB ws p)
theorem fixB_fixed (ws : List ByteArray) : ∀ (n p : Nat), p ≤ n → stepB ws (fixB ws n p) = fixB ws n p
  | 0, p, h => by
    have := stepB_le ws p
    unfold fixB; omega
  | n + 1, p, h => by
    unfold fixB
    split
    · next e => exact e
    · next e =>
      have := stepB_le ws p
      exact fixB_fixed ws n _ (by omega)
def setB (ws : List ByteArray) : Nat := fixB ws 511 511
theorem setB_fixed (ws : List ByteArray) : stepB ws (setB ws) = setB ws := fixB_fixed ws 511 511 (Nat.le_refl _)
theorem fixB_le (ws : List ByteArray) : ∀ (n p : Nat), fixB ws n p ≤ p
  | 0, p => Nat.le_refl _
  | n + 1, p => by
    unfold fixB
    split
    · exact Nat.le_refl _
    · exact Nat.le_trans (fixB_le ws n _) (stepB_le ws p)
theorem ix_lt {L : Int} {a : UInt8} (hL : L ≤ 3) (h : isL L a = true) : 97 ≤ a.toNat ∧ ix a < 3 := by
  unfold isL at h
  rw [Bool.and_eq_true, decide_eq_true_eq, decide_eq_true_eq] at h
  unfold ix
  omega
theorem bitOf_inj {L : Int} {a b c d : UInt8} (hL : L ≤ 3) (ha : isL L a = true) (hb : isL L b = true) (hc : isL L c = true) (hd : isL L d = true) (h : bitOf a b = bitOf c d) : a = c ∧ b = d := by
  have h1 := ix_lt hL ha; have h2 := ix_lt hL hb; have h3 := ix_lt hL hc; have h4 := ix_lt hL hd
  unfold bitOf at h
  have e1 : a.toNat = c.toNat := by unfold ix at *; omega
  have e2 : b.toNat = d.toNat := by unfold ix at *; omega
  exact ⟨UInt8.toNat_inj.1 e1, UInt8.toNat_inj.1 e2⟩
/-- The avoiding words of three letters. -/
def trisW (k : Nat) (ps : List ByteArray) : List ByteArray := keepW ps (allW k 3)
theorem mem_trisW {ps : List ByteArray} {k : Nat} (hk : k ≤ 3) (w : ByteArray) : w ∈ trisW k ps ↔ ∃ a b c, w = tri a b c ∧ isL (k : Int) a = true ∧ isL (k : Int) b = true ∧ isL (k : Int) c = true ∧ avoids ps (tri a b c) = true := by
  unfold trisW keepW
  rw [List.mem_filter, mem_allW k hk]
  constructor
  · rintro ⟨⟨h1, h2⟩, h3⟩
    obtain ⟨a, b, c, rfl⟩ := is_tri h1
    have h4 : ([a, b, c].all (isL (k : Int))) = true := h2
    simp at h4
    exact ⟨a, b, c, rfl, h4.1, h4.2.1, h4.2.2, h3⟩
  · rintro ⟨a, b, c, rfl, h1, h2, h3, h4⟩
    refine ⟨⟨rfl, ?_⟩, h4⟩
    show ([a, b, c].all (isL (k : Int))) = true
    simp [h1, h2, h3]
theorem lively_stepB {ps : List ByteArray} {k : Nat} (hk : k ≤ 3) {p : Nat} (h : ∀ a b, Lively (k : Int) ps a b → p.testBit (bitOf a b) = true) : ∀ a b, Lively (k : Int) ps a b → (stepB (trisW k ps) p).testBit (bitOf a b) = true := by
  intro a b hab
  obtain ⟨ha, hb, ⟨c, hc, htc, hbc⟩, d, hd, htd, hda⟩ := Lively.closed (k : Int) ps a b hab
  rw [stepB_iff]
  exact ⟨⟨tri a b c, (mem_trisW hk _).2 ⟨a, b, c, rfl, ha, hb, hc, htc⟩, h a b hab, h b c hbc, rfl⟩, tri d a b, (mem_trisW hk _).2 ⟨d, a, b, rfl, hd, ha, hb, htd⟩, h d a hda, h a b hab, rfl⟩
theorem lively_fixB {ps : List ByteArray} {k : Nat} (hk : k ≤ 3) : ∀ (n p : Nat), (∀ a b, Lively (k : Int) ps a b → p.testBit (bitOf a b) = true) → ∀ a b, Lively (k : Int) ps a b → (fixB (trisW k ps) n p).testBit (bitOf a b) = true
  | 0, p, h => h
  | n + 1, p, h => by
    unfold fixB
    split
    · exact h
    · exact lively_fixB hk n _ (lively_stepB hk h)
theorem all_bits : ∀ b, b < 9 → (511 : Nat).testBit b = true := by decide
theorem setB_iff {ps : List ByteArray} {k : Nat} (hk : k ≤ 3) (n : Nat) : (setB (trisW k ps)).testBit n = true ↔ ∃ a b, Lively (k : Int) ps a b ∧ n = bitOf a b := by
  have hk3 : (k : Int) ≤ 3 := by omega
  constructor
  · intro h
    have h0 := h
    rw [← setB_fixed, stepB_iff] at h0
    obtain ⟨⟨w, hw, hw0, hw1, hwb⟩, _⟩ := h0
    obtain ⟨a, b, c, rfl, ha, hb, hc, ht⟩ := (mem_trisW hk _).1 hw
    refine ⟨a, b, ⟨fun x y => isL (k : Int) x = true ∧ isL (k : Int) y = true ∧ (setB (trisW k ps)).testBit (bitOf x y) = true, ?_, ha, hb, by rw [show bitOf a b = n from hwb]; exact h⟩, hwb.symm⟩
    rintro x y ⟨hx, hy, hxy⟩
    have h1 := hxy
    rw [← setB_fixed, stepB_iff] at h1
    obtain ⟨⟨u, hu, hu0, hu1, hub⟩, v, hv, hv0, hv1, hvb⟩ := h1
    obtain ⟨a1, b1, c1, rfl, ha1, hb1, hc1, ht1⟩ := (mem_trisW hk _).1 hu
    obtain ⟨a2, b2, c2, rfl, ha2, hb2, hc2, ht2⟩ := (mem_trisW hk _).1 hv
    obtain ⟨rfl, rfl⟩ := bitOf_inj hk3 ha1 hb1 hx hy hub
    obtain ⟨rfl, rfl⟩ := bitOf_inj hk3 hb2 hc2 hx hy hvb
    exact ⟨hx, hy, ⟨c1, hc1, ht1, hy, hc1, hu1⟩, a2, ha2, ht2, ha2, hx, hv0⟩
  · rintro ⟨a, b, hab, rfl⟩
    refine lively_fixB hk 511 511 ?_ a b hab
    intro a b hab
    obtain ⟨ha, hb, _⟩ := Lively.closed _ _ a b hab
    have h1 := ix_lt hk3 ha; have h2 := ix_lt hk3 hb
    exact all_bits _ (by unfold bitOf; omega)
theorem setB_at {ps : List ByteArray} {k : Nat} (hk : k ≤ 3) {a b : UInt8} (ha : isL (k : Int) a = true) (hb : isL (k : Int) b = true) : (setB (trisW k ps)).testBit (bitOf a b) = true ↔ Lively (k : Int) ps a b := by
  rw [setB_iff hk]
  constructor
  · rintro ⟨c, d, hcd, e⟩
    obtain ⟨hc, hd, _⟩ := Lively.closed _ _ c d hcd
    obtain ⟨rfl, rfl⟩ := bitOf_inj (by omega : (k : Int) ≤ 3) ha hb hc hd e
    exact hcd
  · exact fun h => ⟨a, b, h, rfl⟩
theorem setB_zero {ps : List ByteArray} {k : Nat} (hk : k ≤ 3) : setB (trisW k ps) = 0 ↔ pairsW k ps = [] := by
  constructor
  · intro h
    cases e : pairsW k ps with
    | nil => rfl
    | cons w r =>
      have hw : w ∈ pairsW k ps := by rw [e]; exact List.mem_cons_self ..
      obtain ⟨a, b, rfl, _, _⟩ := mem_pairsW' hk hw
      have := (setB_iff hk (bitOf a b)).2 ⟨a, b, (mem_pairsW hk a b).1 hw, rfl⟩
      rw [h] at this
      simp at this
  · intro h
    apply Nat.eq_of_testBit_eq
    intro n
    rw [Nat.zero_testBit]
    cases hn : (setB (trisW k ps)).testBit n with
    | false => rfl
    | true =>
      obtain ⟨a, b, hab, _⟩ := (setB_iff hk n).1 hn
      have := (mem_pairsW hk a b).2 hab
      rw [h] at this; cases this

/-! ### Which words are in the language -/
def coverB (p : Nat) (w : ByteArray) : Bool :=
  if w.size = 0 then decide (p ≠ 0) else if w.size = 1 then decide ((p >>> (3 * ix (ch w 0))) &&& 7 ≠ 0) else (List.range (w.size - 1)).all (hasP p w)
def inM (ps M : List ByteArray) (w : ByteArray) : Bool :=
  (!decide (M.length = 0) && avoids ps w) && (if 2 ≤ w.size then Lib.containsS M (w.extract 0 2) && Lib.containsS M (w.extract (w.size - 2) w.size) else M.any fun q => Lib.contains q.data.toList w.data.toList)
theorem ch_isL {k : Int} {w : ByteArray} (h : w.data.toList.all (isL k) = true) {i : Nat} (hi : i < w.size) : isL k (ch w i) = true := by
  rw [List.all_eq_true] at h
  unfold ch
  rw [List.getD_eq_getElem?_getD, List.getElem?_eq_getElem (by exact hi), Option.getD_some]
  exact h _ (List.getElem_mem _)
theorem pr_at {w : ByteArray} {i : Nat} (h : i + 2 ≤ w.size) : w.extract i (i + 2) = pr (ch w i) (ch w (i + 1)) := by
  refine ba_ext ?_
  rw [ba_extract, Nat.add_sub_cancel_left]
  show _ = [ch w i, ch w (i + 1)]
  have hl : w.data.toList.length = w.size := rfl
  rw [List.drop_eq_getElem_cons (by omega), List.drop_eq_getElem_cons (by omega)]
  unfold ch
  rw [List.getD_eq_getElem?_getD, List.getElem?_eq_getElem (by omega), List.getD_eq_getElem?_getD, List.getElem?_eq_getElem (by omega)]
  rfl
theorem tri_at {w : ByteArray} {i : Nat} (h : i + 3 ≤ w.size) : (tri (ch w i) (ch w (i + 1)) (ch w (i + 2))).data.toList <:+: w.data.toList := by
  have hl : w.data.toList.length = w.size := rfl
  refine ⟨w.data.toList.take i, w.data.toList.drop (i + 3), ?_⟩
  have e : w.data.toList.drop i = (tri (ch w i) (ch w (i + 1)) (ch w (i + 2))).data.toList ++ w.data.toList.drop (i + 3) := by
    rw [List.drop_eq_getElem_cons (by omega), List.drop_eq_getElem_cons (by omega), List.drop_eq_getElem_cons (by omega)]
    unfold ch
    rw [List.getD_eq_getElem?_getD, List.getElem?_eq_getElem (by omega), List.getD_eq_getElem?_getD, List.getElem?_eq_getElem (by omega), List.getD_eq_getElem?_getD, List.getElem?_eq_getElem (by omega)]
    rfl
  rw [List.append_assoc, ← e, List.take_append_drop]
/-- If the first pair and the last of a word that avoids go on, each of its pairs does. -/
theorem lively_inner {L : Int} {ps : List ByteArray} {w : ByteArray} (hw : w.data.toList.all (isL L) = true) (ha : avoids ps w = true) (h2 : 2 ≤ w.size) (hf : Lively L ps (ch w 0) (ch w 1)) (hl : Lively L ps (ch w (w.size - 2)) (ch w (w.size - 1))) :
    ∀ i, i + 2 ≤ w.size → Lively L ps (ch w i) (ch w (i + 1)) := by
  intro i hi
  refine ⟨fun a b => Lively L ps a b ∨ ∃ j, j + 2 ≤ w.size ∧ a = ch w j ∧ b = ch w (j + 1), ?_, .inr ⟨i, hi, rfl, rfl⟩⟩
  have hc := Lively.closed L ps
  rintro a b (hab | ⟨j, hj, rfl, rfl⟩)
  · obtain ⟨h1, h3, ⟨c, h4, h5, h6⟩, d, h7, h8, h9⟩ := hc a b hab
    exact ⟨h1, h3, ⟨c, h4, h5, .inl h6⟩, d, h7, h8, .inl h9⟩
  · refine ⟨ch_isL hw (by omega), ch_isL hw (by omega), ?_, ?_⟩
    · by_cases hj3 : j + 3 ≤ w.size
      · exact ⟨ch w (j + 2), ch_isL hw (by omega), avoids_part (tri_at hj3) ha, .inr ⟨j + 1, by omega, rfl, rfl⟩⟩
      · rw [show w.size - 2 = j by omega, show w.size - 1 = j + 1 by omega] at hl
        obtain ⟨_, _, ⟨c, h4, h5, h6⟩, _⟩ := hc _ _ hl
        exact ⟨c, h4, h5, .inl h6⟩
    · by_cases hj0 : j = 0
      · subst hj0
        obtain ⟨_, _, _, d, h7, h8, h9⟩ := hc _ _ hf
        exact ⟨d, h7, h8, .inl h9⟩
      · obtain ⟨m, rfl⟩ : ∃ m, j = m + 1 := ⟨j - 1, by omega⟩
        exact ⟨ch w m, ch_isL hw (by omega), avoids_part (tri_at (by omega)) ha, .inr ⟨m, by omega, rfl, rfl⟩⟩
theorem seven_bit : ∀ j, j < 3 → (7 : Nat).testBit j = true := by decide
theorem begin_iff (p n : Nat) : (p >>> n) &&& 7 ≠ 0 ↔ ∃ j, j < 3 ∧ p.testBit (n + j) = true := by
  constructor
  · intro h
    by_cases hx : ∃ j, j < 3 ∧ p.testBit (n + j) = true
    · exact hx
    · exfalso; apply h
      apply Nat.eq_of_testBit_eq
      intro j
      rw [Nat.testBit_and, Nat.testBit_shiftRight, Nat.zero_testBit]
      by_cases hj : j < 3
      · have : p.testBit (n + j) = false := by
          rw [← Bool.not_eq_true]; exact fun e => hx ⟨j, hj, e⟩
        rw [this, Bool.false_and]
      · have : (7 : Nat).testBit j = false := Nat.testBit_lt_two_pow (Nat.lt_of_lt_of_le (by decide : 7 < 2 ^ 3) (Nat.pow_le_pow_right (by decide) (by omega)))
        rw [this, Bool.and_false]
  · rintro ⟨j, hj, h⟩ e
    have := congrArg (fun x => Nat.testBit x j) e
    simp only [Nat.testBit_and, Nat.testBit_shiftRight, Nat.zero_testBit, h, seven_bit j hj] at this
    cases this
theorem in_same {ps : List ByteArray} {k : Nat} (hk : k ≤ 3) {w : ByteArray} (hw : w.data.toList.all (isL (k : Int)) = true) : inM ps (pairsW k ps) w = (avoids ps w && coverB (setB (trisW k ps)) w) := by
  have hk3 : (k : Int) ≤ 3 := by omega
  unfold inM
  cases ha : avoids ps w with
  | false => rw [Bool.and_false, Bool.false_and, Bool.false_and]
  | true =>
    rw [Bool.and_true, Bool.true_and]
    by_cases hM : pairsW k ps = []
    · have h0 := (setB_zero hk).2 hM
      rw [hM, h0]
      show false = coverB 0 w
      unfold coverB
      split
      · rfl
      · split
        · simp
        · next h1 h2 =>
          have : (List.range (w.size - 1)).all (hasP 0 w) = false := by
            rw [← Bool.not_eq_true, List.all_eq_true]
            intro h
            have := h 0 (List.mem_range.2 (by omega))
            unfold hasP at this
            rw [Nat.zero_testBit] at this
            cases this
          exact this.symm
    · have hne : setB (trisW k ps) ≠ 0 := fun e => hM ((setB_zero hk).1 e)
      have hlen : decide ((pairsW k ps).length = 0) = false := by
        rw [decide_eq_false_iff_not]; exact fun e => hM (List.eq_nil_of_length_eq_zero e)
      obtain ⟨q0, hq0⟩ : ∃ q, q ∈ pairsW k ps := by
        cases e : pairsW k ps with
        | nil => exact absurd e hM
        | cons a r => exact ⟨a, List.mem_cons_self ..⟩
      rw [hlen, Bool.not_false, Bool.true_and]
      by_cases h2 : 2 ≤ w.size
      · rw [if_pos h2]
        unfold coverB
        rw [if_neg (by omega), if_neg (by omega), Bool.eq_iff_iff, Bool.and_eq_true, Lib.containsS_iff, Lib.containsS_iff, List.all_eq_true]
        have e1 := pr_at (w := w) (i := 0) (by omega)
        have e2 := pr_at (w := w) (i := w.size - 2) (by omega)
        rw [show w.size - 2 + 2 = w.size by omega, show w.size - 2 + 1 = w.size - 1 by omega] at e2
        rw [e1, e2, mem_pairsW hk, mem_pairsW hk]
        constructor
        · rintro ⟨hf, hl⟩ i hi
          have hi2 : i + 2 ≤ w.size := by have := List.mem_range.1 hi; omega
          have := lively_inner hw ha h2 hf hl i hi2
          exact (setB_at hk (ch_isL hw (by omega)) (ch_isL hw (by omega))).2 this
        · intro h
          have at' : ∀ i, i + 2 ≤ w.size → Lively (k : Int) ps (ch w i) (ch w (i + 1)) := fun i hi =>
            (setB_at hk (ch_isL hw (by omega)) (ch_isL hw (by omega))).1 (h i (List.mem_range.2 (by omega)))
          have h3 := at' (w.size - 2) (by omega)
          rw [show w.size - 2 + 1 = w.size - 1 by omega] at h3
          exact ⟨at' 0 (by omega), h3⟩
      · rw [if_neg h2]
        by_cases h0 : w.size = 0
        · unfold coverB
          rw [if_pos h0, decide_eq_true hne, List.any_eq_true]
          have : w.data.toList = [] := List.eq_nil_of_length_eq_zero h0
          exact ⟨q0, hq0, by rw [this]; exact contains_iff.2 (List.nil_infix)⟩
        · have h1 : w.size = 1 := by omega
          unfold coverB
          rw [if_neg h0, if_pos h1, Bool.eq_iff_iff, decide_eq_true_eq, begin_iff, List.any_eq_true]
          have hwl : w.data.toList = [ch w 0] := by
            have hl : w.data.toList.length = w.size := rfl
            match e : w.data.toList with
            | [] => rw [e] at hl; simp at hl; omega
            | [a] => unfold ch; rw [e]; rfl
            | a :: b :: r => rw [e] at hl; simp at hl; omega
          have hca := ch_isL hw (i := 0) (by omega)
          rw [hwl]
          constructor
          · rintro ⟨q, hq, hc⟩
            obtain ⟨a, b, rfl, hla, hlb⟩ := mem_pairsW' hk hq
            have hab := (mem_pairsW hk a b).1 hq
            have hmem : ch w 0 ∈ [a, b] := by
              have := contains_iff.1 hc
              exact this.subset (List.mem_singleton.2 rfl)
            have : ∃ c, Lively (k : Int) ps (ch w 0) c := by
              simp at hmem
              rcases hmem with e | e
              · exact ⟨b, by rw [e]; exact hab⟩
              · obtain ⟨_, _, ⟨c, _, _, h6⟩, _⟩ := Lively.closed _ _ a b hab
                exact ⟨c, by rw [e]; exact h6⟩
            obtain ⟨c, hc⟩ := this
            obtain ⟨_, hlc, _⟩ := Lively.closed _ _ _ c hc
            exact ⟨ix c, (ix_lt hk3 hlc).2, (setB_at hk hca hlc).2 hc⟩
          · rintro ⟨j, hj, hb⟩
            obtain ⟨a, b, hab, e⟩ := (setB_iff hk _).1 hb
            obtain ⟨hla, hlb, _⟩ := Lively.closed _ _ a b hab
            have := ix_lt hk3 hla; have := ix_lt hk3 hlb; have := ix_lt hk3 hca
            have ea : ix a = ix (ch w 0) := by unfold bitOf at e; omega
            have ea2 : a = ch w 0 := UInt8.toNat_inj.1 (by unfold ix at ea; omega)
            refine ⟨pr a b, (mem_pairsW hk a b).2 hab, contains_iff.2 ?_⟩
            rw [← ea2]
            exact ⟨[], [b], rfl⟩
end Go.Proofs.Ytcoiodfggaanbaa
