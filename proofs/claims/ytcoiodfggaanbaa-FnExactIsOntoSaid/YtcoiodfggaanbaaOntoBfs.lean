/-
  PLAIN FACTS ON A SEARCH IN WIDTH (no program in this text): words in the order of a queue, each with what is reached by it; the first word that reaches nothing is the shortest and least one, and where the search ends every word reaches something.
-/
import Derived.Test.YtcoiodfggaanbaaOntoNum
namespace Go.Proofs.Ytcoiodfggaanbaa
open Go

/-- Shorter, or as long and less. -/
def slL (u w : List Nat) : Prop := u.length < w.length ∨ (u.length = w.length ∧ u < w)
theorem slL.trans {u v w : List Nat} (h1 : slL u v) (h2 : slL v w) : slL u w := by
  rcases h1 with h1 | ⟨h1, l1⟩
  · rcases h2 with h2 | ⟨h2, _⟩
    · exact Or.inl (by omega)
    · exact Or.inl (by omega)
  · rcases h2 with h2 | ⟨h2, l2⟩
    · exact Or.inl (by omega)
    · exact Or.inr ⟨by omega, List.lt_trans l1 l2⟩
theorem slL.irrefl {u : List Nat} (h : slL u u) : False := by
  rcases h with h | ⟨_, l⟩
  · omega
  · exact List.lt_irrefl _ l
theorem lt_snoc {u w : List Nat} (c d : Nat) (hl : u.length = w.length) (h : u < w) : u ++ [c] < w ++ [d] := by
  induction u generalizing w with
  | nil =>
    match w, hl with
    | [], _ => exact absurd h (List.lt_irrefl _)
  | cons a u ih =>
    match w, hl with
    | b :: w, hl =>
      rw [List.cons_append, List.cons_append]
      rw [List.cons_lt_cons_iff] at h ⊢
      rcases h with h | ⟨rfl, h⟩
      · exact Or.inl h
      · exact Or.inr ⟨rfl, ih (by simpa using hl) h⟩
theorem lt_last {u : List Nat} {c d : Nat} (h : c < d) : u ++ [c] < u ++ [d] := by
  induction u with
  | nil => rw [List.nil_append, List.nil_append, List.cons_lt_cons_iff]; exact Or.inl h
  | cons a u ih => rw [List.cons_append, List.cons_append, List.cons_lt_cons_iff]; exact Or.inr ⟨rfl, ih⟩
theorem slL.snoc {u w : List Nat} (h : slL u w) (c d : Nat) : slL (u ++ [c]) (w ++ [d]) := by
  rcases h with h | ⟨hl, h⟩
  · exact Or.inl (by simp; omega)
  · exact Or.inr ⟨by simp; omega, lt_snoc c d hl h⟩
theorem slL_last {u : List Nat} {c d : Nat} (h : c < d) : slL (u ++ [c]) (u ++ [d]) := Or.inr ⟨by simp, lt_last h⟩
theorem slL_grow (u : List Nat) (c : Nat) : slL u (u ++ [c]) := Or.inl (by simp)
theorem slL_nil {u : List Nat} (h : u ≠ []) : slL [] u := by
  match u, h with
  | a :: u, _ => exact Or.inl (by simp)
/-- At most: the same, or ahead. -/
def leL (u w : List Nat) : Prop := u = w ∨ slL u w
theorem leL.snoc {u w : List Nat} (h : leL u w) (c : Nat) : leL (u ++ [c]) (w ++ [c]) := by
  rcases h with rfl | h
  · exact Or.inl rfl
  · exact Or.inr (h.snoc c c)
theorem leL.lt {u v w : List Nat} (h : leL u v) (h2 : slL v w) : slL u w := by
  rcases h with rfl | h
  · exact h2
  · exact h.trans h2
theorem leL.trans {u v w : List Nat} (h : leL u v) (h2 : leL v w) : leL u w := by
  rcases h2 with rfl | h2
  · exact h
  · exact Or.inr (h.lt h2)

section
variable {α : Type} (st : α → Nat → α) (S0 : α) (E : α → Prop) (k : Nat)
/-- What is reached by a word. -/
def reachW (u : List Nat) : α := u.foldl st S0
theorem reach_snoc (u : List Nat) (c : Nat) : reachW st S0 (u ++ [c]) = st (reachW st S0 u) c := by unfold reachW; rw [List.foldl_append]; rfl
/-- The words of the queue; all letters behind the first i of them, and the first x letters behind the next, have been looked at. -/
structure Done (ws : List (List Nat)) (i x : Nat) : Prop where
  first : 0 < ws.length ∧ ws.getD 0 [] = []
  asc : ∀ a b, a < b → b < ws.length → slL (ws.getD a []) (ws.getD b [])
  full : ∀ j, j < ws.length → ¬ E (reachW st S0 (ws.getD j []))
  seen : ∀ j c, c < k → (j < i ∨ (j = i ∧ c < x)) → j < ws.length → ∃ m, m < ws.length ∧ reachW st S0 (ws.getD m []) = reachW st S0 (ws.getD j [] ++ [c]) ∧ leL (ws.getD m []) (ws.getD j [] ++ [c])
  low : ∀ m, 0 < m → m < ws.length → ∃ j c, (j < i ∨ (j = i ∧ c < x)) ∧ j < ws.length ∧ ws.getD m [] = ws.getD j [] ++ [c]
variable {st S0 E k}
theorem Done.start (h : ¬ E S0) : Done st S0 E k [[]] 0 0 where
  first := ⟨by simp, rfl⟩
  asc := fun a b h1 h2 => by simp at h2; omega
  full := fun j hj => by
    have hj0 : j = 0 := by simpa using hj
    subst hj0
    exact h
  seen := fun j c _ h1 _ => by omega
  low := fun m h1 h2 => by simp at h2; omega
theorem Done.lt_of {ws : List (List Nat)} {i x : Nat} (h : Done st S0 E k ws i x) {j c d : Nat} (hj : j < ws.length) (hi : i < ws.length) (hlt : slL (ws.getD j [] ++ [c]) (ws.getD i [] ++ [d])) : j < i ∨ (j = i ∧ c < d) := by
  rcases Nat.lt_trichotomy j i with h1 | h1 | h1
  · exact Or.inl h1
  · subst h1
    refine Or.inr ⟨rfl, ?_⟩
    by_cases hcd : c < d
    · exact hcd
    · exfalso
      by_cases e : c = d
      · subst e; exact hlt.irrefl
      · exact (hlt.trans (slL_last (by omega : d < c))).irrefl
  · exact absurd (hlt.trans ((h.asc i j h1 hj).snoc d c)) (fun e => e.irrefl)
/-- Every word ahead of the next one reaches something that is in the queue. -/
theorem Done.before {ws : List (List Nat)} {i x : Nat} (h : Done st S0 E k ws i x) (hi : i < ws.length) : ∀ n u, u.length = n → LetW k u → slL u (ws.getD i [] ++ [x]) → ∃ m, m < ws.length ∧ reachW st S0 (ws.getD m []) = reachW st S0 u ∧ leL (ws.getD m []) u := by
  intro n
  induction n with
  | zero =>
    intro u hu _ _
    rw [List.eq_nil_of_length_eq_zero hu]
    exact ⟨0, h.first.1, by rw [h.first.2], by rw [h.first.2]; exact Or.inl rfl⟩
  | succ n ih =>
    intro u hu hl hlt
    obtain ⟨u', c, rfl⟩ : ∃ u' c, u = u' ++ [c] := ⟨u.dropLast, u.getLast (by intro e; rw [e] at hu; cases hu), (List.dropLast_concat_getLast _).symm⟩
    have hc : c < k := hl c (by simp)
    have hl' : LetW k u' := fun a ha => hl a (by simp [ha])
    obtain ⟨m, hm, hr, hle⟩ := ih u' (by simpa using hu) hl' ((slL_grow u' c).trans hlt)
    have hle2 := hle.snoc c
    have hp := h.lt_of hm hi (hle2.lt hlt)
    obtain ⟨m', hm', hr', hle'⟩ := h.seen m c hc hp hm
    exact ⟨m', hm', by rw [hr', reach_snoc, reach_snoc, hr], hle'.trans hle2⟩
/-- The first word that reaches nothing is the shortest and least. -/
theorem Done.least {ws : List (List Nat)} {i x : Nat} (h : Done st S0 E k ws i x) (hi : i < ws.length) {u : List Nat} (hl : LetW k u) (hlt : slL u (ws.getD i [] ++ [x])) : ¬ E (reachW st S0 u) := by
  obtain ⟨m, hm, hr, _⟩ := h.before hi _ u rfl hl hlt
  rw [← hr]
  exact h.full m hm
/-- Where the search has ended, every word reaches something. -/
theorem Done.all {ws : List (List Nat)} (h : Done st S0 E k ws ws.length 0) : ∀ n u, u.length = n → LetW k u → ∃ m, m < ws.length ∧ reachW st S0 (ws.getD m []) = reachW st S0 u := by
  intro n
  induction n with
  | zero =>
    intro u hu _
    rw [List.eq_nil_of_length_eq_zero hu]
    exact ⟨0, h.first.1, by rw [h.first.2]⟩
  | succ n ih =>
    intro u hu hl
    obtain ⟨u', c, rfl⟩ : ∃ u' c, u = u' ++ [c] := ⟨u.dropLast, u.getLast (by intro e; rw [e] at hu; cases hu), (List.dropLast_concat_getLast _).symm⟩
    obtain ⟨m, hm, hr⟩ := ih u' (by simpa using hu) (fun a ha => hl a (by simp [ha]))
    obtain ⟨m', hm', hr', _⟩ := h.seen m c (hl c (by simp)) (Or.inl hm) hm
    exact ⟨m', hm', by rw [hr', reach_snoc, reach_snoc, hr]⟩
theorem Done.none {ws : List (List Nat)} (h : Done st S0 E k ws ws.length 0) {u : List Nat} (hl : LetW k u) : ¬ E (reachW st S0 u) := by
  obtain ⟨m, hm, hr⟩ := h.all _ u rfl hl
  rw [← hr]
  exact h.full m hm
/-- All words of the queue lie ahead of the next one. -/
theorem Done.ahead {ws : List (List Nat)} {i x : Nat} (h : Done st S0 E k ws i x) (hi : i < ws.length) {m : Nat} (hm : m < ws.length) : slL (ws.getD m []) (ws.getD i [] ++ [x]) := by
  by_cases h0 : m = 0
  · subst h0
    rw [h.first.2]
    exact slL_nil (by simp)
  · obtain ⟨j, c, hp, hj, e⟩ := h.low m (by omega) hm
    rw [e]
    rcases hp with hp | ⟨rfl, hp⟩
    · exact (h.asc j i hp hi).snoc c x
    · exact slL_last hp
/-- What the next one reaches has been reached. -/
theorem Done.old {ws : List (List Nat)} {i x : Nat} (h : Done st S0 E k ws i x) (hi : i < ws.length) {m : Nat} (hm : m < ws.length) (hr : reachW st S0 (ws.getD m []) = reachW st S0 (ws.getD i [] ++ [x])) : Done st S0 E k ws i (x + 1) where
  first := h.first
  asc := h.asc
  full := h.full
  seen := fun j c hc hp hj => by
    by_cases e : j = i ∧ c = x
    · obtain ⟨rfl, rfl⟩ := e
      exact ⟨m, hm, hr, Or.inr (h.ahead hi hm)⟩
    · exact h.seen j c hc (by omega) hj
  low := fun m' h1 h2 => by
    obtain ⟨j, c, hp, hj, e⟩ := h.low m' h1 h2
    exact ⟨j, c, by omega, hj, e⟩
theorem getD_old {ws : List (List Nat)} {v : List Nat} {j : Nat} (h : j < ws.length) : (ws ++ [v]).getD j [] = ws.getD j [] := by
  rw [List.getD_eq_getElem?_getD, List.getD_eq_getElem?_getD, List.getElem?_append_left h]
theorem getD_last (ws : List (List Nat)) (v : List Nat) : (ws ++ [v]).getD ws.length [] = v := by
  rw [List.getD_eq_getElem?_getD, List.getElem?_append_right (Nat.le_refl _), Nat.sub_self]; rfl
/-- It has not: the word goes into the queue. -/
theorem Done.new {ws : List (List Nat)} {i x : Nat} (h : Done st S0 E k ws i x) (hi : i < ws.length) (hE : ¬ E (reachW st S0 (ws.getD i [] ++ [x]))) : Done st S0 E k (ws ++ [ws.getD i [] ++ [x]]) i (x + 1) where
  first := ⟨by simp, by rw [getD_old h.first.1]; exact h.first.2⟩
  asc := fun a b hab hb => by
    rw [List.length_append, List.length_singleton] at hb
    by_cases e : b = ws.length
    · subst e
      rw [getD_last, getD_old hab]
      exact h.ahead hi hab
    · rw [getD_old (by omega), getD_old (by omega)]
      exact h.asc a b hab (by omega)
  full := fun j hj => by
    rw [List.length_append, List.length_singleton] at hj
    by_cases e : j = ws.length
    · subst e; rw [getD_last]; exact hE
    · rw [getD_old (by omega)]; exact h.full j (by omega)
  seen := fun j c hc hp hj => by
    rw [List.length_append, List.length_singleton] at hj
    by_cases e : j = i ∧ c = x
    · obtain ⟨rfl, rfl⟩ := e
      exact ⟨ws.length, by simp, by rw [getD_last, getD_old hi], by rw [getD_last, getD_old hi]; exact Or.inl rfl⟩
    · have hj2 : j < ws.length := by omega
      obtain ⟨m, hm, hr, hle⟩ := h.seen j c hc (by omega) hj2
      exact ⟨m, by simp; omega, by rw [getD_old hm, getD_old hj2]; exact hr, by rw [getD_old hm, getD_old hj2]; exact hle⟩
  low := fun m h1 h2 => by
    rw [List.length_append, List.length_singleton] at h2
    by_cases e : m = ws.length
    · subst e
      exact ⟨i, x, Or.inr ⟨rfl, by omega⟩, by simp; omega, by rw [getD_last, getD_old hi]⟩
    · obtain ⟨j, c, hp, hj, e2⟩ := h.low m h1 (by omega)
      exact ⟨j, c, by omega, by simp; omega, by rw [getD_old (by omega), getD_old hj]; exact e2⟩
/-- All letters behind a word of the queue are done. -/
theorem Done.row {ws : List (List Nat)} {i : Nat} (h : Done st S0 E k ws i k) : Done st S0 E k ws (i + 1) 0 where
  first := h.first
  asc := h.asc
  full := h.full
  seen := fun j c hc hp hj => h.seen j c hc (by omega) hj
  low := fun m h1 h2 => by
    obtain ⟨j, c, hp, hj, e⟩ := h.low m h1 h2
    exact ⟨j, c, by omega, hj, e⟩
end
end Go.Proofs.Ytcoiodfggaanbaa
