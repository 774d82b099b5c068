/-
  PLAIN FACTS ON THE SEARCH FOR AN ORPHAN (no program in this text): the set of states in which sources end, as a number; the queue of words whose sets are all different; what is found is the shortest and least word without a source.
-/
import Derived.Test.YtcoiodfggaanbaaOntoBfs
import Derived.Test.YtcoiodfggaanbaaOntoLink
import Derived.Test.YtcoiodfggaanbaaBitsU
namespace Go.Proofs.Ytcoiodfggaanbaa
open Go

/-- A letter c: the states to which it leads from one of the set. -/
def ostB (k q : Nat) (out : Nat → Nat) (s c t : Nat) : Bool := (List.range q).any fun K => s.testBit K && (List.range k).any fun x => decide (out (K * k + x) = c) && decide ((K * k + x) % q = t)
def ostep (k q : Nat) (out : Nat → Nat) (s c : Nat) : Nat := setN (ostB k q out s c) q
theorem ost_lt (k q : Nat) (out : Nat → Nat) (s c : Nat) : ostep k q out s c < 2 ^ q := setN_lt _ _
theorem ostB_iff {k q : Nat} {out : Nat → Nat} {s c t : Nat} : ostB k q out s c t = true ↔ ∃ K x, K < q ∧ x < k ∧ s.testBit K = true ∧ out (K * k + x) = c ∧ (K * k + x) % q = t := by
  unfold ostB
  rw [List.any_eq_true]
  constructor
  · rintro ⟨K, hK, h⟩
    rw [Bool.and_eq_true, List.any_eq_true] at h
    obtain ⟨h1, x, hx, h2⟩ := h
    rw [Bool.and_eq_true, decide_eq_true_iff, decide_eq_true_iff] at h2
    exact ⟨K, x, List.mem_range.1 hK, List.mem_range.1 hx, h1, h2.1, h2.2⟩
  · rintro ⟨K, x, hK, hx, h1, h2, h3⟩
    refine ⟨K, List.mem_range.2 hK, ?_⟩
    rw [Bool.and_eq_true, List.any_eq_true]
    exact ⟨h1, x, List.mem_range.2 hx, by rw [decide_eq_true h2, decide_eq_true h3]; rfl⟩
/-! ### Different numbers below a bound -/
theorem filter_short (n : Nat) : ∀ {l : List Nat}, l.Nodup → l.length ≤ (l.filter fun x => decide (x ≠ n)).length + 1
  | [], _ => by simp
  | a :: l, h => by
    rw [List.nodup_cons] at h
    by_cases e : a = n
    · subst e
      have hf : (l.filter fun x => decide (x ≠ a)) = l := List.filter_eq_self.2 fun x hx => by
        rw [decide_eq_true_iff]
        intro e; subst e; exact h.1 hx
      rw [List.filter_cons_of_neg (by simp), hf, List.length_cons]; exact Nat.le_refl _
    · have ih := filter_short n h.2
      rw [List.filter_cons_of_pos (by simpa using e), List.length_cons, List.length_cons]
      omega
theorem pigeonO : ∀ (n : Nat) (l : List Nat), l.Nodup → (∀ x ∈ l, x < n) → l.length ≤ n
  | 0, l, _, h => by
    match l with
    | [] => exact Nat.le_refl _
    | a :: l => exact absurd (h a (List.mem_cons_self ..)) (by omega)
  | n + 1, l, hd, h => by
    have h1 := filter_short n hd
    have h2 := pigeonO n (l.filter fun x => decide (x ≠ n)) (hd.sublist List.filter_sublist) (fun x hx => by
      rw [List.mem_filter, decide_eq_true_iff] at hx
      have := h x hx.1
      omega)
    omega
/-! ### Words -/
def bytesW (l : List Nat) : ByteArray := ⟨(l.map fun x => UInt8.ofNat (97 + x)).toArray⟩
theorem bytesW_nil : bytesW [] = ⟨#[]⟩ := rfl
theorem bytesW_size (l : List Nat) : (bytesW l).size = l.length := by show (l.map _).toArray.size = _; simp
theorem bytesW_snoc (l : List Nat) (x : Nat) : bytesW (l ++ [x]) = bytesW l ++ letterB x := by
  apply ba_ext
  rw [ba_append]
  show ((l ++ [x]).map _).toArray.toList = (l.map _).toArray.toList ++ [_]
  simp
theorem bytesW_get (l : List Nat) : (bytesW l).data.toList = l.map fun x => UInt8.ofNat (97 + x) := by simp [bytesW]
theorem slL_total : ∀ (u w : List Nat), u = w ∨ slL u w ∨ slL w u := by
  intro u w
  by_cases h : u.length = w.length
  · by_cases e : u = w
    · exact Or.inl e
    · by_cases h2 : u < w
      · exact Or.inr (Or.inl (Or.inr ⟨h, h2⟩))
      · have h3 : w ≤ u := List.not_lt.1 h2
        rcases List.le_iff_lt_or_eq.1 h3 with h4 | h4
        · exact Or.inr (Or.inr (Or.inr ⟨h.symm, h4⟩))
        · exact absurd h4.symm e
  · by_cases h2 : u.length < w.length
    · exact Or.inr (Or.inl (Or.inl h2))
    · exact Or.inr (Or.inr (Or.inl (by omega)))
/-- Less as a list of letters: less as a number. -/
theorem valL_mono {k : Nat} : ∀ {u v : List Nat}, LetW k u → LetW k v → u.length = v.length → u < v → valL k u < valL k v
  | [], [], _, _, _, h => absurd h (List.lt_irrefl _)
  | a :: u, b :: v, hu, hv, hl, h => by
    have hl2 : u.length = v.length := by simpa using hl
    have hu2 : LetW k u := fun c hc => hu c (List.mem_cons_of_mem _ hc)
    have hv2 : LetW k v := fun c hc => hv c (List.mem_cons_of_mem _ hc)
    rw [valL_cons, valL_cons, hl2]
    rcases List.cons_lt_cons_iff.1 h with h1 | ⟨rfl, h1⟩
    · have h2 := valL_lt hu2
      rw [hl2] at h2
      have h3 : (a + 1) * k ^ v.length ≤ b * k ^ v.length := Nat.mul_le_mul_right _ h1
      rw [Nat.add_mul, Nat.one_mul] at h3
      omega
    · have := valL_mono hu2 hv2 hl2 h1
      omega
section
variable {k q : Nat} {out : Nat → Nat}
/-- The set behind a word. -/
def setW (k q : Nat) (out : Nat → Nat) (u : List Nat) : Nat := reachW (ostep k q out) (2 ^ q - 1) u
theorem setW_nil : setW k q out [] = 2 ^ q - 1 := rfl
theorem setW_snoc (u : List Nat) (c : Nat) : setW k q out (u ++ [c]) = ostep k q out (setW k q out u) c := reach_snoc _ _ u c
theorem setW_lt (u : List Nat) : setW k q out u < 2 ^ q := by
  by_cases h : u = []
  · subst h
    have := Nat.two_pow_pos q
    rw [setW_nil]; omega
  · rw [← List.dropLast_concat_getLast h, setW_snoc]
    exact ost_lt _ _ _ _ _
def isZ (s : Nat) : Prop := s = 0
/-- The queue. -/
structure Queue (k q : Nat) (out : Nat → Nat) (ws : List (List Nat)) (i x : Nat) : Prop where
  done : Done (ostep k q out) (2 ^ q - 1) isZ k ws i x
  nodup : (ws.map (setW k q out)).Nodup
  letters : ∀ m, m < ws.length → LetW k (ws.getD m [])
  short : ∀ m, m < ws.length → (ws.getD m []).length ≤ m
theorem Queue.start (hq : 0 < q) : Queue k q out [[]] 0 0 where
  done := Done.start (fun h : 2 ^ q - 1 = 0 => by
    have h2 : 2 ^ 1 ≤ 2 ^ q := Nat.pow_le_pow_right (by decide) hq
    omega)
  nodup := by simp
  letters := fun m hm => by
    obtain rfl : m = 0 := by simpa using hm
    intro c hc; cases hc
  short := fun m hm => by
    obtain rfl : m = 0 := by simpa using hm
    exact Nat.le_refl _
theorem Queue.le {ws : List (List Nat)} {i x : Nat} (h : Queue k q out ws i x) : ws.length ≤ 2 ^ q := by
  have := pigeonO (2 ^ q) (ws.map (setW k q out)) h.nodup (fun y hy => by
    obtain ⟨u, _, rfl⟩ := List.mem_map.1 hy
    exact setW_lt u)
  rwa [List.length_map] at this
theorem Queue.old {ws : List (List Nat)} {i x m : Nat} (h : Queue k q out ws i x) (hi : i < ws.length) (hm : m < ws.length) (he : setW k q out (ws.getD m []) = ostep k q out (setW k q out (ws.getD i [])) x) : Queue k q out ws i (x + 1) where
  done := h.done.old hi hm (by rw [← setW_snoc] at he; exact he)
  nodup := h.nodup
  letters := h.letters
  short := h.short
theorem Queue.new {ws : List (List Nat)} {i x : Nat} (h : Queue k q out ws i x) (hi : i < ws.length) (hx : x < k) (h0 : ostep k q out (setW k q out (ws.getD i [])) x ≠ 0) (hne : ∀ m, m < ws.length → setW k q out (ws.getD m []) ≠ ostep k q out (setW k q out (ws.getD i [])) x) : Queue k q out (ws ++ [ws.getD i [] ++ [x]]) i (x + 1) where
  done := h.done.new hi (by rw [← setW_snoc] at h0; exact h0)
  nodup := by
    rw [List.map_append, List.nodup_append]
    refine ⟨h.nodup, by simp, fun a ha b hb => ?_⟩
    rw [List.map_singleton, List.mem_singleton] at hb
    subst hb
    obtain ⟨u, hu, rfl⟩ := List.mem_map.1 ha
    obtain ⟨m, hm, rfl⟩ := List.getElem_of_mem hu
    have := hne m hm
    rw [List.getD_eq_getElem?_getD, List.getElem?_eq_getElem hm, Option.getD_some] at this
    rw [setW_snoc]
    exact this
  letters := fun m hm => by
    rw [List.length_append, List.length_singleton] at hm
    by_cases e : m = ws.length
    · subst e
      rw [getD_last]
      exact LetW.append (h.letters i hi) (fun c hc => by rw [List.mem_singleton] at hc; subst hc; exact hx)
    · rw [getD_old (by omega)]
      exact h.letters m (by omega)
  short := fun m hm => by
    rw [List.length_append, List.length_singleton] at hm
    by_cases e : m = ws.length
    · subst e
      rw [getD_last, List.length_append, List.length_singleton]
      have := h.short i hi
      omega
    · rw [getD_old (by omega)]
      exact h.short m (by omega)
theorem Queue.row {ws : List (List Nat)} {i : Nat} (h : Queue k q out ws i k) : Queue k q out ws (i + 1) 0 := ⟨h.done.row, h.nodup, h.letters, h.short⟩
/-- The shortest and least word without a source, if there is one. -/
def OrphIs (k q : Nat) (out : Nat → Nat) : Option (List Nat) → Prop
  | none => ∀ u, LetW k u → setW k q out u ≠ 0
  | some w => LetW k w ∧ setW k q out w = 0 ∧ ∀ u, LetW k u → slL u w → setW k q out u ≠ 0
theorem orph_same {r r' : Option (List Nat)} (h : OrphIs k q out r) (h' : OrphIs k q out r') : r = r' := by
  cases r with
  | none =>
    cases r' with
    | none => rfl
    | some w' => exact absurd h'.2.1 (h w' h'.1)
  | some w =>
    cases r' with
    | none => exact absurd h.2.1 (h' w h.1)
    | some w' =>
      rcases slL_total w w' with e | e | e
      · rw [e]
      · exact absurd h.2.1 (h'.2.2 w h.1 e)
      · exact absurd h'.2.1 (h.2.2 w' h'.1 e)
theorem Queue.found {ws : List (List Nat)} {i x : Nat} (h : Queue k q out ws i x) (hi : i < ws.length) (hx : x < k) (h0 : ostep k q out (setW k q out (ws.getD i [])) x = 0) : OrphIs k q out (some (ws.getD i [] ++ [x])) :=
  ⟨LetW.append (h.letters i hi) (fun c hc => by rw [List.mem_singleton] at hc; subst hc; exact hx), by rw [setW_snoc]; exact h0, fun _ hl hlt => h.done.least hi hl hlt⟩
theorem Queue.none {ws : List (List Nat)} (h : Queue k q out ws ws.length 0) : OrphIs k q out none := fun _ hl => h.done.none hl
theorem orph_exists : ∃ r, OrphIs k q out r := by
  by_cases h : ∃ u, LetW k u ∧ setW k q out u = 0
  · obtain ⟨u, hu⟩ := h
    suffices hs : ∀ n u, u.length = n → LetW k u → setW k q out u = 0 → ∃ w, LetW k w ∧ setW k q out w = 0 ∧ ∀ v, LetW k v → slL v w → setW k q out v ≠ 0 by
      obtain ⟨w, hw⟩ := hs _ u rfl hu.1 hu.2
      exact ⟨some w, hw⟩
    intro n
    induction n using Nat.strongRecOn with
    | _ n ih =>
      intro u hn hl h0
      by_cases hex : ∃ v, LetW k v ∧ v.length < n ∧ setW k q out v = 0
      · obtain ⟨v, hv1, hv2, hv3⟩ := hex
        exact ih _ hv2 v rfl hv1 hv3
      · -- among the words of this length, the least one
        have hmin : ∀ (a : Nat) (u : List Nat), valL k u = a → u.length = n → LetW k u → setW k q out u = 0 → ∃ w, LetW k w ∧ setW k q out w = 0 ∧ w.length = n ∧ ∀ v, LetW k v → v.length = n → v < w → setW k q out v ≠ 0 := by
          intro a
          induction a using Nat.strongRecOn with
          | _ a ih2 =>
            intro u ha hn hl h0
            by_cases hex2 : ∃ v, LetW k v ∧ v.length = n ∧ v < u ∧ setW k q out v = 0
            · obtain ⟨v, h1, h2, h3, h4⟩ := hex2
              exact ih2 (valL k v) (by rw [← ha]; exact valL_mono h1 hl (by rw [h2, hn]) h3) v rfl h2 h1 h4
            · exact ⟨u, hl, h0, hn, fun v h1 h2 h3 h4 => hex2 ⟨v, h1, h2, h3, h4⟩⟩
        obtain ⟨w, h1, h2, h3, h4⟩ := hmin _ u rfl hn hl h0
        refine ⟨w, h1, h2, fun v hv hlt => ?_⟩
        rcases hlt with hlt | ⟨he, hlt⟩
        · exact fun hz => hex ⟨v, hv, by omega, hz⟩
        · exact h4 v hv (by omega) hlt
  · exact ⟨none, fun u hl h0 => h ⟨u, hl, h0⟩⟩
end
end Go.Proofs.Ytcoiodfggaanbaa
