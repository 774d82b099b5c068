/-
  PLAIN FACTS ON GRAPHS OF SHIFTS, for the program's way to them (no program's function in this text): a list that is sorted and of which what comes again is left out; the states are the ends of the words of three letters; the least words that are not in the language, got by lengthening; paths counted from their beginnings.
-/
import Derived.Test.YtalclebehbdliaaGreatFactTexts
import Derived.Test.YtalclebehbdliaaGreatPresLeast
import Derived.Test.YtalclebehbdliaaGreatLangTexts
import Derived.Test.YtalclebehbdliaaGreatLangSame
import Derived.Lib.SlicesCompact
namespace Go.Proofs.YtalclebehbdliaaGreat
open Go Go.RowKit

/-! ### Ascending lists -/
theorem asc_same : ∀ {a b : List ByteArray}, Asc a → Asc b → (∀ x, x ∈ a ↔ x ∈ b) → a = b
  | [], [], _, _, _ => rfl
  | [], y :: l, _, _, h => by have := (h y).2 (List.mem_cons_self ..); cases this
  | x :: l, [], _, _, h => by have := (h x).1 (List.mem_cons_self ..); cases this
  | x :: l, y :: m, ha, hb, h => by
    obtain ⟨a1, a2⟩ := List.pairwise_cons.1 ha
    obtain ⟨b1, b2⟩ := List.pairwise_cons.1 hb
    have e : x = y := by
      rcases List.mem_cons.1 ((h x).1 (List.mem_cons_self ..)) with e | hx
      · exact e
      · rcases List.mem_cons.1 ((h y).2 (List.mem_cons_self ..)) with e | hy
        · exact e.symm
        · exact absurd (List.lt_trans (b1 x hx) (a1 y hy)) (List.lt_irrefl _)
    subst e
    refine congrArg (x :: ·) (asc_same a2 b2 fun z => ?_)
    have hz := h z
    rw [List.mem_cons, List.mem_cons] at hz
    constructor
    · intro hm
      rcases hz.1 (.inr hm) with e | hm'
      · subst e; exact absurd (a1 _ hm) (List.lt_irrefl _)
      · exact hm'
    · intro hm
      rcases hz.2 (.inr hm) with e | hm'
      · subst e; exact absurd (b1 _ hm) (List.lt_irrefl _)
      · exact hm'
theorem asc_nodup {a : List ByteArray} (h : Asc a) : a.Nodup := by
  unfold Asc at h
  unfold List.Nodup
  refine h.imp ?_
  intro x y hab e
  subst e
  exact List.lt_irrefl _ hab
/-- A list is put in order, each once. -/
def ascW (xs : List ByteArray) : List ByteArray := putAll xs []
theorem ascW_asc (xs : List ByteArray) : Asc (ascW xs) := asc_putAll xs List.Pairwise.nil
theorem mem_ascW {x : ByteArray} {xs : List ByteArray} : x ∈ ascW xs ↔ x ∈ xs := by
  unfold ascW; rw [mem_putAll]; simp
theorem ascW_of {xs ys : List ByteArray} (h : Asc ys) (hm : ∀ x, x ∈ ys ↔ x ∈ xs) : ascW xs = ys := asc_same (ascW_asc xs) h fun x => mem_ascW.trans (hm x).symm
theorem ascW_le : ∀ xs : List ByteArray, (ascW xs).length ≤ xs.length := by
  have go : ∀ (xs l : List ByteArray), (putAll xs l).length ≤ xs.length + l.length := by
    intro xs
    induction xs with
    | nil => intro l; simp [putAll]
    | cons x xs ih =>
      intro l
      have h1 := ih (putW x l)
      have h2 := (putW_length x l).2
      show (putAll xs (putW x l)).length ≤ _
      rw [List.length_cons]; omega
  intro xs
  have := go xs []
  simpa [ascW] using this

/-! ### Sorted, and what comes again left out -/
def leB (x y : List UInt8) : Bool := decide (x ≤ y)
def sortL (ps : List ByteArray) : List (List UInt8) := (datas ps).mergeSort leB
theorem sortL_perm (ps : List ByteArray) : (sortL ps).Perm (datas ps) := List.mergeSort_perm _ _
theorem sortL_len (ps : List ByteArray) : (sortL ps).length = ps.length := by rw [(sortL_perm ps).length_eq]; simp [datas]
theorem sortL_sorted (ps : List ByteArray) : (sortL ps).Pairwise (fun a b => leB a b = true) :=
  List.pairwise_mergeSort (fun a b c h1 h2 => by unfold leB at *; simp only [decide_eq_true_eq] at *; exact List.le_trans h1 h2) (fun a b => by unfold leB; simp only [Bool.or_eq_true, decide_eq_true_eq]; exact List.le_total a b) _
theorem compact_facts (d : Array (List UInt8)) (hs : ∀ i j, i < j → j < d.size → d[i]! ≤ d[j]!) : ∀ m, m ≤ d.size → (Lib.compactUpTo d m).Pairwise (· < ·) ∧ ∀ x, x ∈ Lib.compactUpTo d m ↔ ∃ j, j < m ∧ d[j]! = x
  | 0, _ => by
    refine ⟨by simp [Lib.compactUpTo], fun x => ?_⟩
    simp [Lib.compactUpTo]
  | m + 1, hm => by
    obtain ⟨h1, h2⟩ := compact_facts d hs m (by omega)
    rw [Lib.compactUpTo_succ]
    by_cases hk : Lib.keeps d m = true
    · rw [if_pos hk]
      refine ⟨List.pairwise_append.2 ⟨h1, by simp, fun a ha b hb => ?_⟩, fun x => ?_⟩
      · obtain rfl : b = d[m]! := by simpa using hb
        obtain ⟨j, hj, rfl⟩ := (h2 a).1 ha
        have hne : d[m]! ≠ d[m - 1]! := by
          unfold Lib.keeps at hk
          rcases of_decide_eq_true hk with h | h
          · omega
          · exact h
        have hlt : d[m - 1]! < d[m]! := by
          rcases List.le_iff_lt_or_eq.1 (hs (m - 1) m (by omega) (by omega)) with h | h
          · exact h
          · exact absurd h.symm hne
        by_cases e : j = m - 1
        · subst e; exact hlt
        · exact List.lt_of_le_of_lt (hs j (m - 1) (by omega) (by omega)) hlt
      · rw [List.mem_append, h2, List.mem_singleton]
        constructor
        · rintro (⟨j, hj, e⟩ | e)
          · exact ⟨j, by omega, e⟩
          · exact ⟨m, by omega, e.symm⟩
        · rintro ⟨j, hj, e⟩
          by_cases e2 : j = m
          · subst e2; exact .inr e.symm
          · exact .inl ⟨j, by omega, e⟩
    · rw [if_neg hk, List.append_nil]
      refine ⟨h1, fun x => ?_⟩
      rw [h2]
      have h3 : m ≠ 0 ∧ d[m]! = d[m - 1]! := by
        unfold Lib.keeps at hk
        rw [decide_eq_true_iff] at hk
        refine ⟨fun e => hk (.inl e), ?_⟩
        exact Classical.byContradiction fun e => hk (.inr e)
      constructor
      · rintro ⟨j, hj, e⟩; exact ⟨j, by omega, e⟩
      · rintro ⟨j, hj, e⟩
        by_cases e2 : j = m
        · subst e2; exact ⟨j - 1, by omega, h3.2.symm.trans e⟩
        · exact ⟨j, by omega, e⟩
theorem datas_inj {a b : List ByteArray} (h : datas a = datas b) : a = b := by
  have e : ∀ l : List ByteArray, (datas l).map (fun x => (⟨x.toArray⟩ : ByteArray)) = l := fun l => by
    unfold datas
    rw [List.map_map]
    conv => rhs; rw [← List.map_id l]
    exact List.map_congr_left fun p _ => by simp
  rw [← e a, h, e b]
theorem asc_datas {a : List ByteArray} (h : (datas a).Pairwise (· < ·)) : Asc a := List.pairwise_map.1 h
/-- Sorted and compacted: put in order, each once. -/
theorem compact_sort (ps : List ByteArray) : Lib.compact (sortL ps) = datas (ascW ps) := by
  have hl := sortL_len ps
  have hs := List.pairwise_iff_getElem.1 (sortL_sorted ps)
  have hf := compact_facts (sortL ps).toArray (fun i j hij hj => by
    have hj' : j < (sortL ps).length := by simpa using hj
    have := hs i j (by omega) hj' hij
    unfold leB at this
    rw [getElem!_pos _ i (by simpa using (by omega : i < (sortL ps).length)), getElem!_pos _ j hj]
    simpa using this) (sortL ps).length (by simp)
  have e : ∃ q : List ByteArray, datas q = Lib.compact (sortL ps) := ⟨(Lib.compact (sortL ps)).map (fun x => ⟨x.toArray⟩), by
    unfold datas
    rw [List.map_map]
    conv => rhs; rw [← List.map_id (Lib.compact (sortL ps))]
    exact List.map_congr_left fun p _ => by simp⟩
  obtain ⟨q, hq⟩ := e
  rw [← hq]
  congr 1
  have hc : Lib.compact (sortL ps) = Lib.compactUpTo (sortL ps).toArray (sortL ps).length := rfl
  rw [hc] at hq
  refine (ascW_of (asc_datas (by rw [hq]; exact hf.1)) fun x => ?_).symm
  have h1 : x ∈ q ↔ x.data.toList ∈ datas q := by
    unfold datas
    rw [List.mem_map]
    exact ⟨fun h => ⟨x, h, rfl⟩, fun ⟨y, hy, e⟩ => ba_ext e ▸ hy⟩
  rw [h1, hq, hf.2]
  have h2 : x ∈ ps ↔ x.data.toList ∈ datas ps := by
    unfold datas
    rw [List.mem_map]
    exact ⟨fun h => ⟨x, h, rfl⟩, fun ⟨y, hy, e⟩ => ba_ext e ▸ hy⟩
  rw [h2, ← (sortL_perm ps).mem_iff]
  constructor
  · rintro ⟨j, hj, e⟩
    rw [getElem!_pos _ j (by simpa using hj)] at e
    rw [← e]
    simp
  · intro h
    obtain ⟨j, hj, e⟩ := List.getElem_of_mem h
    exact ⟨j, hj, by rw [getElem!_pos _ j (by simpa using hj)]; simpa using e⟩

/-! ### All words of a length ascend -/
theorem lex_app {a b x y : List UInt8} (hl : a.length = b.length) (h : a < b) : a ++ x < b ++ y := by
  induction a generalizing b with
  | nil =>
    match b, hl with
    | [], _ => exact absurd h (List.lt_irrefl _)
  | cons p a ih =>
    match b, hl with
    | q :: b, hl =>
      rcases List.cons_lt_cons_iff.1 h with h1 | ⟨rfl, h1⟩
      · exact List.cons_lt_cons_iff.2 (.inl h1)
      · exact List.cons_lt_cons_iff.2 (.inr ⟨rfl, ih (by simpa using hl) h1⟩)
theorem lex_end {a x y : List UInt8} (h : x < y) : a ++ x < a ++ y := by
  induction a with
  | nil => exact h
  | cons p a ih => exact List.cons_lt_cons_iff.2 (.inr ⟨rfl, ih⟩)
theorem lt_lt {i j : Nat} (hj : j < 3) (h : i < j) : [lt i] < [lt j] := by
  refine List.cons_lt_cons_iff.2 (.inl ?_)
  unfold lt
  rw [UInt8.lt_iff_toNat_lt, UInt8.toNat_ofNat', UInt8.toNat_ofNat']
  omega
theorem allW_asc {k : Nat} (hk : k ≤ 3) : ∀ n, Asc (allW k n)
  | 0 => by show Asc [ByteArray.empty]; simp [Asc]
  | n + 1 => by
    show Asc (longer (allW k n) k)
    unfold longer Asc
    rw [List.pairwise_flatMap]
    refine ⟨fun w _ => ?_, List.Pairwise.imp_of_mem ?_ (allW_asc hk n)⟩
    · rw [List.pairwise_map]
      refine List.pairwise_lt_range.imp_of_mem ?_
      intro i j hi hj hij
      have := List.mem_range.1 hj
      rw [app_list, app_list]
      exact lex_end (lt_lt (by omega) hij)
    · intro a b ha hb hab x hx y hy
      obtain ⟨i, hi, rfl⟩ := List.mem_map.1 hx
      obtain ⟨j, hj, rfl⟩ := List.mem_map.1 hy
      have h1 := ((mem_allW k hk n a).1 ha).1
      have h2 := ((mem_allW k hk n b).1 hb).1
      rw [app_list, app_list]
      exact lex_app (show a.data.toList.length = b.data.toList.length by show a.size = b.size; omega) hab
theorem langW_asc {k : Nat} (hk : k ≤ 3) (ps : List ByteArray) (n : Nat) : Asc (langW k ps n) := List.Pairwise.filter _ (allW_asc hk n)

/-! ### The states are the ends of the words of three letters -/
theorem tri_size (a b c : UInt8) : (tri a b c).size = 3 := rfl
theorem mem_lang3 {k : Nat} (hk : k ≤ 3) {ps : List ByteArray} {w : ByteArray} : w ∈ langW k ps 3 ↔ ∃ a b c, w = tri a b c ∧ avoids ps w = true ∧ Lively (k : Int) ps a b ∧ Lively (k : Int) ps b c := by
  rw [mem_langW hk]
  constructor
  · rintro ⟨⟨h1, h2⟩, h3⟩
    obtain ⟨a, b, c, rfl⟩ := is_tri h1
    obtain ⟨h4, h5⟩ := (in_iff hk h2 (by rw [tri_size]; omega)).1 h3
    exact ⟨a, b, c, rfl, h4, h5 0 (by rw [tri_size]; omega), h5 1 (by rw [tri_size]; omega)⟩
  · rintro ⟨a, b, c, rfl, h4, h5, h6⟩
    obtain ⟨q1, q2, _⟩ := Lively.closed _ _ a b h5
    obtain ⟨_, q3, _⟩ := Lively.closed _ _ b c h6
    have hl := tri_letters q1 q2 q3
    refine ⟨⟨rfl, hl⟩, (in_iff hk hl (by rw [tri_size]; omega)).2 ⟨h4, fun i hi => ?_⟩⟩
    have hi2 : i = 0 ∨ i = 1 := by rw [tri_size] at hi; omega
    rcases hi2 with rfl | rfl
    · exact h5
    · exact h6
theorem tri_back (a b c : UInt8) : (tri a b c).extract 1 3 = pr b c := ba_ext (by rw [ba_extract]; rfl)
theorem tri_front (a b c : UInt8) : (tri a b c).extract 0 2 = pr a b := ba_ext (by rw [ba_extract]; rfl)
theorem states_ends {k : Nat} (hk : k ≤ 3) (ps : List ByteArray) : ascW ((langW k ps 3).map fun w => w.extract 1 3) = statesW k ps := by
  refine ascW_of (langW_asc hk ps 2) fun x => ?_
  show x ∈ statesW k ps ↔ _
  rw [mem_states hk, List.mem_map]
  constructor
  · rintro ⟨a, b, rfl, hab⟩
    obtain ⟨_, _, _, d, _, hd, hda⟩ := Lively.closed _ _ a b hab
    exact ⟨tri d a b, (mem_lang3 hk).2 ⟨d, a, b, rfl, hd, hda, hab⟩, tri_back d a b⟩
  · rintro ⟨w, hw, rfl⟩
    obtain ⟨a, b, c, rfl, _, _, h⟩ := (mem_lang3 hk).1 hw
    exact ⟨b, c, tri_back a b c, h⟩

/-! ### The graph, by the words of three letters -/
def isArc (M : List ByteArray) (w : ByteArray) (i j : Nat) : Bool := decide (w.extract 0 2 = M.getD i ByteArray.empty) && decide (w.extract 1 3 = M.getD j ByteArray.empty)
def pArcF (M A : List ByteArray) (t : Nat) (i j : Nat) : Int := if (A.take t).any (fun w => isArc M w i j) = true then 1 else 0
theorem pArcF_zero (M A : List ByteArray) (i j : Nat) : pArcF M A 0 i j = 0 := by unfold pArcF; rw [if_neg (by simp)]
theorem at_only {M : List ByteArray} (hn : M.Nodup) {x : ByteArray} (hx : 0 < x.size) {i0 : Nat} (h0 : i0 < M.length) (e0 : M.getD i0 ByteArray.empty = x) {i : Nat} : x = M.getD i ByteArray.empty ↔ i = i0 := by
  constructor
  · intro h
    by_cases hi : i < M.length
    · rw [List.getD_eq_getElem?_getD, List.getElem?_eq_getElem hi, Option.getD_some] at h
      rw [List.getD_eq_getElem?_getD, List.getElem?_eq_getElem h0, Option.getD_some] at e0
      exact nodup_at hn hi h0 (h.symm.trans e0.symm)
    · rw [List.getD_eq_getElem?_getD, List.getElem?_eq_none (by omega)] at h
      rw [h] at hx; exact absurd hx (by decide)
  · rintro rfl; exact e0.symm
theorem pArcF_next {M A : List ByteArray} (hn : M.Nodup) {t i0 j0 : Nat} (ht : t < A.length) (hi : i0 < M.length) (hj : j0 < M.length) (hs : (A.getD t ByteArray.empty).size = 3)
    (ei : M.getD i0 ByteArray.empty = (A.getD t ByteArray.empty).extract 0 2) (ej : M.getD j0 ByteArray.empty = (A.getD t ByteArray.empty).extract 1 3) (i j : Nat) : putF (pArcF M A t) i0 j0 1 i j = pArcF M A (t + 1) i j := by
  have e : A.take (t + 1) = A.take t ++ [A.getD t ByteArray.empty] := by
    rw [List.take_succ_eq_append_getElem ht, List.getD_eq_getElem?_getD, List.getElem?_eq_getElem ht]; rfl
  have ha : isArc M (A.getD t ByteArray.empty) i j = decide (i = i0 ∧ j = j0) := by
    unfold isArc
    rw [← Bool.decide_and]
    exact decide_eq_decide.2 (and_congr (at_only hn (by rw [ByteArray.size_extract]; omega) hi ei) (at_only hn (by rw [ByteArray.size_extract]; omega) hj ej))
  unfold putF pArcF
  rw [e, List.any_append, List.any_cons, List.any_nil, ha, Bool.or_false]
  by_cases h : i = i0 ∧ j = j0
  · rw [if_pos h, decide_eq_true h, Bool.or_true, if_pos rfl]
  · rw [if_neg h, decide_eq_false h, Bool.or_false]
theorem arc_goes {k : Nat} (hk : k ≤ 3) {ps : List ByteArray} {i j : Nat} (hi : i < (statesW k ps).length) (hj : j < (statesW k ps).length) :
    (langW k ps 3).any (fun w => isArc (statesW k ps) w i j) = goesW ps (stW k ps i) (stW k ps j) := by
  obtain ⟨a, b, h1, hab⟩ := (mem_states hk).1 (st_mem hi)
  obtain ⟨c, d, h2, hcd⟩ := (mem_states hk).1 (st_mem hj)
  have e1 : (statesW k ps).getD i ByteArray.empty = pr a b := h1
  have e2 : (statesW k ps).getD j ByteArray.empty = pr c d := h2
  rw [h1, h2, Bool.eq_iff_iff, List.any_eq_true]
  unfold isArc goesW
  simp only [e1, e2, Bool.and_eq_true, decide_eq_true_eq]
  constructor
  · rintro ⟨w, hw, h3, h4⟩
    obtain ⟨x, y, z, rfl, hv, _, _⟩ := (mem_lang3 hk).1 hw
    rw [tri_front] at h3
    rw [tri_back] at h4
    obtain ⟨rfl, rfl⟩ := pr_inj h3
    obtain ⟨rfl, rfl⟩ := pr_inj h4
    exact ⟨rfl, hv⟩
  · rintro ⟨h3, h4⟩
    have e : b = c := h3
    subst e
    exact ⟨tri a b d, (mem_lang3 hk).2 ⟨a, b, d, rfl, h4, hab, hcd⟩, tri_front a b d, tri_back a b d⟩
theorem graph_arcs {k : Nat} (hk : k ≤ 3) (ps : List ByteArray) : tabOf (statesW k ps).length (statesW k ps).length (pArcF (statesW k ps) (langW k ps 3) (langW k ps 3).length) = graphW k ps := by
  unfold graphW
  refine tabOf_congr fun i j hi hj => ?_
  unfold pArcF
  rw [List.take_length, arc_goes hk hi hj]
theorem arc_ends {k : Nat} (hk : k ≤ 3) {ps : List ByteArray} {w : ByteArray} (h : w ∈ langW k ps 3) : w.size = 3 ∧ w.extract 0 2 ∈ statesW k ps ∧ w.extract 1 3 ∈ statesW k ps := by
  obtain ⟨a, b, c, rfl, _, h1, h2⟩ := (mem_lang3 hk).1 h
  exact ⟨rfl, by rw [tri_front]; exact (mem_states hk).2 ⟨_, _, rfl, h1⟩, by rw [tri_back]; exact (mem_states hk).2 ⟨_, _, rfl, h2⟩⟩
theorem lang3_le {k : Nat} (hk : k ≤ 3) (ps : List ByteArray) : (langW k ps 3).length ≤ 27 := Nat.le_trans (lang_le hk ps 3) (by decide)

/-! ### The least words that are not in the language, by lengthening -/
def missB (A B : List ByteArray) (w : ByteArray) : Bool := !Lib.containsS B w && Lib.containsS A (w.extract 1 w.size)
def missN (k : Nat) (ps : List ByteArray) (n : Nat) : List ByteArray := (longer (langW k ps n) k).filter (missB (langW k ps n) (langW k ps (n + 1)))
def missTo (k : Nat) (ps : List ByteArray) : Nat → List ByteArray
  | 0 => []
  | n + 1 => missTo k ps n ++ missN k ps n
theorem mem_missTo {k : Nat} {ps : List ByteArray} {x : ByteArray} : ∀ m, x ∈ missTo k ps m ↔ ∃ n, n < m ∧ x ∈ missN k ps n
  | 0 => by simp [missTo]
  | m + 1 => by
    unfold missTo
    rw [List.mem_append, mem_missTo m]
    constructor
    · rintro (⟨n, h, hx⟩ | hx)
      · exact ⟨n, by omega, hx⟩
      · exact ⟨m, by omega, hx⟩
    · rintro ⟨n, h, hx⟩
      by_cases e : n = m
      · subst e; exact .inr hx
      · exact .inl ⟨n, by omega, hx⟩
theorem mem_longer {k : Nat} {ws : List ByteArray} {x : ByteArray} : x ∈ longer ws k ↔ ∃ u ∈ ws, ∃ j, j < k ∧ x = u ++ letterB j := by
  unfold longer
  rw [List.mem_flatMap]
  constructor
  · rintro ⟨u, hu, hx⟩
    obtain ⟨j, hj, rfl⟩ := List.mem_map.1 hx
    exact ⟨u, hu, j, List.mem_range.1 hj, rfl⟩
  · rintro ⟨u, hu, j, hj, rfl⟩
    exact ⟨u, hu, List.mem_map.2 ⟨j, List.mem_range.2 hj, rfl⟩⟩
theorem app_front (u : ByteArray) (j : Nat) : (u ++ letterB j).extract 0 u.size = u := by
  refine ba_ext ?_
  rw [ba_extract, List.drop_zero, Nat.sub_zero, app_list]
  exact List.take_left' rfl
theorem mem_langI {k : Nat} (hk : k ≤ 3) {ps : List ByteArray} {n : Nat} {w : ByteArray} (hw : w.data.toList.all (isL (k : Int)) = true) (hn : w.size = n) : w ∈ langW k ps n ↔ InL k ps w := by
  rw [mem_langW hk, inM_iff hk hw]
  exact ⟨fun h => h.2, fun h => ⟨⟨hn, hw⟩, h⟩⟩
theorem miss_least {k : Nat} (hk : k ≤ 3) (ps : List ByteArray) : ascW (missTo k ps 3) = leastW k ps := by
  refine ascW_of (asc_putAll _ List.Pairwise.nil) fun x => ?_
  rw [leastW_out hk ps x, mem_missTo]
  have hin : ∀ n, x ∈ missN k ps n ↔ (∃ u ∈ langW k ps n, ∃ j, j < k ∧ x = u ++ letterB j) ∧ ¬ x ∈ langW k ps (n + 1) ∧ x.extract 1 x.size ∈ langW k ps n := fun n => by
    unfold missN missB
    rw [List.mem_filter, mem_longer, Bool.and_eq_true, Bool.not_eq_true', ← Bool.not_eq_true, Lib.containsS_iff, Lib.containsS_iff]
  constructor
  · rintro ⟨h13, hl, h1, h2, h3⟩
    have ef : (x.extract 0 (x.size - 1)).size = x.size - 1 := by rw [ByteArray.size_extract]; omega
    have eb : (x.extract 1 x.size).size = x.size - 1 := by rw [ByteArray.size_extract]; omega
    refine ⟨x.size - 1, by omega, (hin _).2 ⟨?_, ?_, ?_⟩⟩
    · have hx : x ∈ longer (allW k (x.size - 1)) k := (mem_allW k hk (x.size - 1 + 1) x).2 ⟨by omega, hl⟩
      obtain ⟨u, hu, j, hj, e⟩ := mem_longer.1 hx
      have hus := ((mem_allW k hk _ u).1 hu)
      refine ⟨u, (mem_langI hk hus.2 hus.1).2 ?_, j, hj, e⟩
      have e2 : x.extract 0 (x.size - 1) = u := by
        rw [← hus.1, e, app_front]
      rw [← e2]; exact h3
    · rw [mem_langI hk hl (by omega)]; exact h1
    · rw [mem_langI hk (infix_letters hl (back_part x)) eb]; exact h2
  · rintro ⟨n, hn, h⟩
    obtain ⟨⟨u, hu, j, hj, e⟩, h1, h2⟩ := (hin n).1 h
    obtain ⟨⟨us, ul⟩, _⟩ := (mem_langW hk).1 hu
    have hs : x.size = n + 1 := by rw [e, app_size, us]
    have hl : x.data.toList.all (isL (k : Int)) = true := by rw [e]; exact app_letters hk ul hj
    refine ⟨by omega, hl, ?_, ?_, ?_⟩
    · rw [← mem_langI hk hl hs]; exact h1
    · exact (mem_langI hk (infix_letters hl (back_part x)) (show (x.extract 1 x.size).size = n by rw [ByteArray.size_extract]; omega)).1 h2
    · have e2 : x.extract 0 (x.size - 1) = u := by
        rw [hs, Nat.add_sub_cancel, ← us, e, app_front]
      rw [e2]
      exact (mem_langI hk ul us).1 hu
theorem missN_le {k : Nat} (hk : k ≤ 3) (ps : List ByteArray) {n : Nat} (hn : n < 3) : (missN k ps n).length ≤ 27 := by
  refine Nat.le_trans (List.length_filter_le _ _) ?_
  rw [longer_length]
  have h1 := lang_le hk ps n
  have h2 : 3 ^ n ≤ 3 ^ 2 := Nat.pow_le_pow_right (by decide) (by omega)
  have h3 : (3 : Nat) ^ 2 = 9 := by decide
  have := Nat.mul_le_mul (show (langW k ps n).length ≤ 9 by omega) hk
  omega
theorem lang_size {k : Nat} (hk : k ≤ 3) {ps : List ByteArray} {n : Nat} {w : ByteArray} (h : w ∈ langW k ps n) : w.size = n := ((mem_langW hk).1 h).1.1
theorem lang_zero {k : Nat} (ps : List ByteArray) : (langW k ps 0).length = if (pairsW k ps).length = 0 then 0 else if avoids ps ByteArray.empty = true then 1 else 0 := by
  show ((([ByteArray.empty] : List ByteArray).filter (inM ps (pairsW k ps))).length) = _
  have e : inM ps (pairsW k ps) ByteArray.empty = (!decide ((pairsW k ps).length = 0) && avoids ps ByteArray.empty) := by
    unfold inM
    rw [if_neg (by decide)]
    cases hp : pairsW k ps with
    | nil => rfl
    | cons x l =>
      have : (x :: l).any (fun q => Lib.contains q.data.toList ByteArray.empty.data.toList) = true := by
        rw [List.any_cons, contains_iff.2 (show ByteArray.empty.data.toList <:+: x.data.toList from List.nil_infix), Bool.true_or]
      rw [this, Bool.and_true]
  rw [List.filter_cons, List.filter_nil, e]
  by_cases h0 : (pairsW k ps).length = 0
  · rw [if_pos h0, decide_eq_true h0]; rfl
  · rw [if_neg h0, decide_eq_false h0]
    cases avoids ps ByteArray.empty <;> rfl

/-! ### Equal lists -/
theorem same_asc {a b : List ByteArray} (ha : Asc a) (hb : Asc b) : sameA a b = decide (a = b) := by
  rw [Bool.eq_iff_iff, decide_eq_true_iff]
  unfold sameA
  rw [Bool.and_eq_true, List.all_eq_true, decide_eq_true_iff]
  constructor
  · rintro ⟨h, hl⟩
    have hc : b.filter (fun x => Lib.containsS a x) = a := asc_same (List.Pairwise.filter _ hb) ha fun x => by
      rw [List.mem_filter, Lib.containsS_iff]
      exact ⟨fun h => h.2, fun hx => ⟨(Lib.containsS_iff _ _).1 (h x hx), hx⟩⟩
    have hl2 : (b.filter (fun x => Lib.containsS a x)).length = b.length := by rw [hc, hl]
    rw [← hc, List.filter_eq_self.2 (List.length_filter_eq_length_iff.1 hl2)]
  · rintro rfl
    exact ⟨fun x hx => (Lib.containsS_iff _ _).2 hx, rfl⟩
theorem meet_asc {ps qs : List ByteArray} (h : Asc ps) : ascW (ps ++ qs) = putAll qs ps := by
  unfold ascW
  rw [putAll_app]
  congr 1
  exact ascW_of h fun _ => Iff.rfl

/-! ### Paths, counted from their beginnings -/
def colF (m : List (List Int)) (S : Nat) : Nat → Nat → Int
  | 0, _ => 1
  | t + 1, i => sumTo S fun j => cellOf m i j * colF m S t j
def colL (m : List (List Int)) (S t : Nat) : List Int := (List.range S).map (colF m S t)
theorem colL_len (m : List (List Int)) (S t : Nat) : (colL m S t).length = S := by simp [colL]
theorem colL_at {m : List (List Int)} {S t i : Nat} (hi : i < S) : (colL m S t).getD i 0 = colF m S t i := by simp [colL, List.getD, hi]
theorem cnt_row_next {k : Nat} (hk : k ≤ 3) {ps : List ByteArray} (hps : ∀ f ∈ ps, f.size ≤ 3) : ∀ (b a : Nat), 2 ≤ a → (sumTo (statesW k ps).length fun i => cntW k ps a i * colF (graphW k ps) (statesW k ps).length b i) = ((langW k ps (a + b)).length : Int)
  | 0, a, ha => by
    rw [Nat.add_zero, lang_sum hk ps ha]
    exact sumTo_congr _ fun i _ => by show _ * (1 : Int) = _; rw [Int.mul_one]
  | b + 1, a, ha => by
    have ih := cnt_row_next hk hps b (a + 1) (by omega)
    rw [show a + (b + 1) = a + 1 + b by omega, ← ih]
    have e1 : (sumTo (statesW k ps).length fun i => cntW k ps a i * colF (graphW k ps) (statesW k ps).length (b + 1) i) = sumTo (statesW k ps).length fun i => sumTo (statesW k ps).length fun j => cntW k ps a i * cellOf (graphW k ps) i j * colF (graphW k ps) (statesW k ps).length b j := sumTo_congr _ fun i _ => by
      show _ * (sumTo _ _) = _
      rw [← sumTo_mulc]
      exact sumTo_congr _ fun j _ => (Int.mul_assoc _ _ _).symm
    rw [e1, sumTo_swap (fun i j => cntW k ps a i * cellOf (graphW k ps) i j * colF (graphW k ps) (statesW k ps).length b j)]
    refine sumTo_congr _ fun j hj => ?_
    rw [cnt_next hk hps ha hj, Int.mul_comm (sumTo _ _), ← sumTo_mulc]
    exact sumTo_congr _ fun i _ => Int.mul_comm _ _
theorem graph01 {k : Nat} {ps : List ByteArray} {i j : Nat} (hi : i < (statesW k ps).length) (hj : j < (statesW k ps).length) : cellOf (graphW k ps) i j = 0 ∨ cellOf (graphW k ps) i j = 1 := by
  rw [graph_cell hi hj]
  split
  · exact .inr rfl
  · exact .inl rfl
theorem col_nonneg {k : Nat} {ps : List ByteArray} : ∀ (t i : Nat), i < (statesW k ps).length → 0 ≤ colF (graphW k ps) (statesW k ps).length t i
  | 0, _, _ => by unfold colF; omega
  | t + 1, i, hi => sumTo_nonneg fun j hj => Int.mul_nonneg (by rcases graph01 hi hj with h | h <;> omega) (col_nonneg t j hj)
theorem col_sum {k : Nat} (hk : k ≤ 3) {ps : List ByteArray} (hps : ∀ f ∈ ps, f.size ≤ 3) (t : Nat) : (sumTo (statesW k ps).length fun i => colF (graphW k ps) (statesW k ps).length t i) = ((langW k ps (2 + t)).length : Int) := by
  rw [← cnt_row_next hk hps t 2 (Nat.le_refl _)]
  refine sumTo_congr _ fun i hi => ?_
  rw [cnt_two hk hi, Int.one_mul]
theorem col_le {k : Nat} (hk : k ≤ 3) {ps : List ByteArray} (hps : ∀ f ∈ ps, f.size ≤ 3) {t : Nat} (ht : t ≤ 18) {i : Nat} (hi : i < (statesW k ps).length) : 0 ≤ colF (graphW k ps) (statesW k ps).length t i ∧ colF (graphW k ps) (statesW k ps).length t i ≤ 3486784401 := by
  refine ⟨col_nonneg t i hi, ?_⟩
  have h1 := sumTo_term (f := fun i => colF (graphW k ps) (statesW k ps).length t i) hi fun j hj => col_nonneg t j hj
  rw [col_sum hk hps t] at h1
  have h2 := lang_le hk ps (2 + t)
  have h3 := three_pow (t := 2 + t) (by omega)
  have h4 : colF (graphW k ps) (statesW k ps).length t i ≤ ((langW k ps (2 + t)).length : Int) := h1
  omega
end Go.Proofs.YtalclebehbdliaaGreat
