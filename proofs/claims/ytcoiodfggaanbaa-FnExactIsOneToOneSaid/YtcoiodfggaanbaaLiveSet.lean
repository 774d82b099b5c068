/-
  PLAIN FACTS ON THE MODEL's SEARCH FOR LIVE PAIRS (no program in this text): which numbers have a live one behind them and one ahead of them, place by place; what is left when nothing is struck any more.
-/
import Derived.Test.YtcoiodfggaanbaaPairNum
namespace Go.Proofs.Ytcoiodfggaanbaa
open Go

/-- The i-th of the numbers that follow c. -/
def tgt (st : List (List Int)) (c i : Nat) : Nat := ((st.getD c []).getD i 0).toNat
def lenS (st : List (List Int)) (c : Nat) : Nat := (st.getD c []).length
structure StepsOk (st : List (List Int)) : Prop where
  lt : ∀ c i, c < st.length → i < lenS st c → tgt st c i < st.length
  is : ∀ c i, c < st.length → i < lenS st c → (st.getD c []).getD i 0 = ((tgt st c i : Nat) : Int)
/-- e follows c. -/
def HasS (st : List (List Int)) (c e : Nat) : Prop := ∃ i, i < lenS st c ∧ tgt st c i = e
def ClosedS (st : List (List Int)) (M : Nat → Prop) : Prop := ∀ c, M c → c < st.length ∧ (∃ e, M e ∧ HasS st c e) ∧ (∃ e, M e ∧ HasS st e c)
def onL (L : List Bool) (c : Nat) : Bool := L.getD c false
theorem onL_lt {L : List Bool} {c : Nat} (h : onL L c = true) : c < L.length := by
  unfold onL at h
  by_cases hc : c < L.length
  · exact hc
  · rw [List.getD_eq_getElem?_getD, List.getElem?_eq_none (by omega)] at h; cases h
theorem onL_at {L : List Bool} {c : Nat} (h : c < L.length) : L[c]? = some (onL L c) := by
  unfold onL
  rw [List.getD_eq_getElem?_getD, List.getElem?_eq_getElem h]; rfl
theorem onL_set {L : List Bool} {c d : Nat} (b : Bool) (h : c < L.length) : onL (L.set c b) d = if d = c then b else onL L d := by
  unfold onL
  rw [List.getD_eq_getElem?_getD, List.getElem?_set]
  by_cases e : c = d
  · subst e
    rw [if_pos rfl, if_pos h, if_pos rfl]; rfl
  · rw [if_neg e, if_neg (fun e2 => e e2.symm)]; rfl
section
variable {st : List (List Int)} {L : List Bool}
/-- A place (c, i) ahead of (k, j), both of whose ends are live. -/
def PlaceB (st : List (List Int)) (L : List Bool) (k j c i : Nat) : Prop := (c < k ∨ (c = k ∧ i < j)) ∧ c < st.length ∧ i < lenS st c ∧ onL L c = true ∧ onL L (tgt st c i) = true
def BehB (st : List (List Int)) (L : List Bool) (k j : Nat) (bs : List Bool) : Prop := bs.length = st.length ∧ ∀ c, onL bs c = true ↔ ∃ i, PlaceB st L k j c i
def AheB (st : List (List Int)) (L : List Bool) (k j : Nat) (bz : List Bool) : Prop := bz.length = st.length ∧ ∀ e, onL bz e = true ↔ ∃ c i, PlaceB st L k j c i ∧ tgt st c i = e
theorem onL_none (n c : Nat) : onL (List.replicate n false) c = false := by
  unfold onL
  rw [List.getD_eq_getElem?_getD, List.getElem?_replicate]
  split <;> rfl
theorem beh_zero : BehB st L 0 0 (List.replicate st.length false) := ⟨by simp, fun c => by
  rw [onL_none]
  exact ⟨fun h => (by cases h), fun ⟨i, h, _⟩ => by omega⟩⟩
theorem ahe_zero : AheB st L 0 0 (List.replicate st.length false) := ⟨by simp, fun e => by
  rw [onL_none]
  exact ⟨fun h => (by cases h), fun ⟨c, i, ⟨h, _⟩, _⟩ => by omega⟩⟩
theorem place_row {k c i : Nat} : PlaceB st L k (lenS st k) c i ↔ PlaceB st L (k + 1) 0 c i := by
  unfold PlaceB
  constructor
  · rintro ⟨h1, h2⟩
    exact ⟨by omega, h2⟩
  · rintro ⟨h1, h2, h3, h4⟩
    refine ⟨?_, h2, h3, h4⟩
    by_cases e : c = k
    · subst e; exact Or.inr ⟨rfl, h3⟩
    · left; omega
theorem BehB.row {k : Nat} {bs : List Bool} (h : BehB st L k (lenS st k) bs) : BehB st L (k + 1) 0 bs := ⟨h.1, fun c => (h.2 c).trans ⟨fun ⟨i, hi⟩ => ⟨i, place_row.1 hi⟩, fun ⟨i, hi⟩ => ⟨i, place_row.2 hi⟩⟩⟩
theorem AheB.row {k : Nat} {bz : List Bool} (h : AheB st L k (lenS st k) bz) : AheB st L (k + 1) 0 bz := ⟨h.1, fun e => (h.2 e).trans ⟨fun ⟨c, i, hi, h2⟩ => ⟨c, i, place_row.1 hi, h2⟩, fun ⟨c, i, hi, h2⟩ => ⟨c, i, place_row.2 hi, h2⟩⟩⟩
theorem place_skip {k j c i : Nat} (h : (onL L k && onL L (tgt st k j)) = false) : PlaceB st L k (j + 1) c i ↔ PlaceB st L k j c i := by
  unfold PlaceB
  constructor
  · rintro ⟨h1, h2, h3, h4, h5⟩
    refine ⟨?_, h2, h3, h4, h5⟩
    rcases h1 with h1 | ⟨rfl, h1⟩
    · exact Or.inl h1
    · by_cases e : i = j
      · subst e
        rw [h4, h5] at h; cases h
      · exact Or.inr ⟨rfl, by omega⟩
  · rintro ⟨h1, h2⟩
    exact ⟨by omega, h2⟩
theorem BehB.skip {k j : Nat} {bs : List Bool} (hb : BehB st L k j bs) (h : (onL L k && onL L (tgt st k j)) = false) : BehB st L k (j + 1) bs := ⟨hb.1, fun c => (hb.2 c).trans ⟨fun ⟨i, hi⟩ => ⟨i, (place_skip h).2 hi⟩, fun ⟨i, hi⟩ => ⟨i, (place_skip h).1 hi⟩⟩⟩
theorem AheB.skip {k j : Nat} {bz : List Bool} (ha : AheB st L k j bz) (h : (onL L k && onL L (tgt st k j)) = false) : AheB st L k (j + 1) bz := ⟨ha.1, fun e => (ha.2 e).trans ⟨fun ⟨c, i, hi, h2⟩ => ⟨c, i, (place_skip h).2 hi, h2⟩, fun ⟨c, i, hi, h2⟩ => ⟨c, i, (place_skip h).1 hi, h2⟩⟩⟩
theorem place_put {k j c i : Nat} (hk : k < st.length) (hj : j < lenS st k) (h : (onL L k && onL L (tgt st k j)) = true) : PlaceB st L k (j + 1) c i ↔ PlaceB st L k j c i ∨ (c = k ∧ i = j) := by
  rw [Bool.and_eq_true] at h
  unfold PlaceB
  constructor
  · rintro ⟨h1, h2, h3, h4, h5⟩
    by_cases e : c = k ∧ i = j
    · exact Or.inr e
    · exact Or.inl ⟨by omega, h2, h3, h4, h5⟩
  · rintro (⟨h1, h2⟩ | ⟨rfl, rfl⟩)
    · exact ⟨by omega, h2⟩
    · exact ⟨Or.inr ⟨rfl, by omega⟩, hk, hj, h.1, h.2⟩
theorem BehB.put {k j : Nat} {bs : List Bool} (hb : BehB st L k j bs) (hk : k < st.length) (hj : j < lenS st k) (h : (onL L k && onL L (tgt st k j)) = true) : BehB st L k (j + 1) (bs.set k true) := by
  refine ⟨by rw [List.length_set]; exact hb.1, fun c => ?_⟩
  rw [onL_set true (by rw [hb.1]; exact hk)]
  by_cases e : c = k
  · subst e
    rw [if_pos rfl]
    exact ⟨fun _ => ⟨j, (place_put hk hj h).2 (Or.inr ⟨rfl, rfl⟩)⟩, fun _ => rfl⟩
  · rw [if_neg e, hb.2 c]
    exact ⟨fun ⟨i, hi⟩ => ⟨i, (place_put hk hj h).2 (Or.inl hi)⟩, fun ⟨i, hi⟩ => by
      rcases (place_put hk hj h).1 hi with h1 | ⟨h1, _⟩
      · exact ⟨i, h1⟩
      · exact absurd h1 e⟩
theorem AheB.put {k j : Nat} {bz : List Bool} (ok : StepsOk st) (ha : AheB st L k j bz) (hk : k < st.length) (hj : j < lenS st k) (h : (onL L k && onL L (tgt st k j)) = true) : AheB st L k (j + 1) (bz.set (tgt st k j) true) := by
  refine ⟨by rw [List.length_set]; exact ha.1, fun e => ?_⟩
  rw [onL_set true (by rw [ha.1]; exact ok.lt k j hk hj)]
  by_cases e2 : e = tgt st k j
  · subst e2
    rw [if_pos rfl]
    exact ⟨fun _ => ⟨k, j, (place_put hk hj h).2 (Or.inr ⟨rfl, rfl⟩), rfl⟩, fun _ => rfl⟩
  · rw [if_neg e2, ha.2 e]
    exact ⟨fun ⟨c, i, hi, h2⟩ => ⟨c, i, (place_put hk hj h).2 (Or.inl hi), h2⟩, fun ⟨c, i, hi, h2⟩ => by
      rcases (place_put hk hj h).1 hi with h1 | ⟨rfl, rfl⟩
      · exact ⟨c, i, h1, h2⟩
      · exact absurd h2.symm e2⟩
/-- Whether a number stays. -/
def keepB (L bs bz : List Bool) (c : Nat) : Bool := onL L c && (onL bs c && onL bz c)
/-- The first k are struck, where they do not stay. -/
def StrB (L bs bz : List Bool) (k : Nat) (L' : List Bool) : Prop := L'.length = L.length ∧ ∀ c, onL L' c = if c < k then keepB L bs bz c else onL L c
theorem str_zero (L bs bz : List Bool) : StrB L bs bz 0 L := ⟨rfl, fun c => by rw [if_neg (Nat.not_lt_zero _)]⟩
theorem StrB.keep {bs bz L' : List Bool} {k : Nat} (h : StrB L bs bz k L') (hk : keepB L bs bz k = onL L k) : StrB L bs bz (k + 1) L' := ⟨h.1, fun c => by
  rw [h.2 c]
  by_cases e : c = k
  · subst e
    rw [if_neg (Nat.lt_irrefl _), if_pos (Nat.lt_succ_self _), hk]
  · by_cases e2 : c < k
    · rw [if_pos e2, if_pos (by omega)]
    · rw [if_neg e2, if_neg (by omega)]⟩
theorem StrB.strike {bs bz L' : List Bool} {k : Nat} (h : StrB L bs bz k L') (hl : k < L.length) (hk : keepB L bs bz k = false) : StrB L bs bz (k + 1) (L'.set k false) := ⟨by rw [List.length_set]; exact h.1, fun c => by
  rw [onL_set false (by rw [h.1]; exact hl)]
  by_cases e : c = k
  · subst e
    rw [if_pos rfl, if_pos (Nat.lt_succ_self _), hk]
  · rw [if_neg e, h.2 c]
    by_cases e2 : c < k
    · rw [if_pos e2, if_pos (by omega)]
    · rw [if_neg e2, if_neg (by omega)]⟩
/-- All that is closed is live. -/
def SupB (st : List (List Int)) (L : List Bool) : Prop := ∀ M, ClosedS st M → ∀ c, M c → onL L c = true
/-- How many are live. -/
def cntB (L : List Bool) : Nat := L.countP fun b => b
theorem SupB.struck {bs bz L' : List Bool} (h : SupB st L) (hb : BehB st L st.length 0 bs) (ha : AheB st L st.length 0 bz) (hs : StrB L bs bz L.length L') (hL : L.length = st.length) : SupB st L' := fun M hM c hc => by
  obtain ⟨h1, ⟨e, he, i, hi, hti⟩, ⟨d, hd, j, hj, htj⟩⟩ := hM c hc
  have hd1 := (hM d hd).1
  rw [hs.2 c, if_pos (by rw [hL]; exact h1)]
  unfold keepB
  have l1 := h M hM c hc
  have l2 := h M hM e he
  have l3 := h M hM d hd
  rw [l1, Bool.true_and, Bool.and_eq_true]
  exact ⟨(hb.2 c).2 ⟨i, Or.inl h1, h1, hi, l1, by rw [hti]; exact l2⟩, (ha.2 c).2 ⟨d, j, ⟨Or.inl hd1, hd1, hj, l3, by rw [htj]; exact l1⟩, htj⟩⟩
theorem sup_start : SupB st (List.replicate st.length true) := fun M hM c hc => by
  have h1 := (hM c hc).1
  unfold onL
  rw [List.getD_eq_getElem?_getD, List.getElem?_replicate, if_pos h1]; rfl
theorem closed_of {bs bz : List Bool} (hb : BehB st L st.length 0 bs) (ha : AheB st L st.length 0 bz) (hL : L.length = st.length) (h : ∀ c, c < L.length → keepB L bs bz c = onL L c) : ClosedS st fun c => onL L c = true := fun c hc => by
  have hl := onL_lt hc
  have hk := h c hl
  unfold keepB at hk
  rw [hc, Bool.true_and, Bool.and_eq_true] at hk
  obtain ⟨i, hi⟩ := (hb.2 c).1 hk.1
  obtain ⟨d, j, hj, htj⟩ := (ha.2 c).1 hk.2
  exact ⟨by omega, ⟨_, hi.2.2.2.2, i, hi.2.2.1, rfl⟩, ⟨d, hj.2.2.2.1, j, hj.2.2.1, htj⟩⟩
end
theorem cnt_set_le : ∀ (L : List Bool) (k : Nat), cntB (L.set k false) ≤ cntB L
  | [], _ => Nat.le_refl _
  | b :: L, 0 => by
    unfold cntB
    rw [List.set_cons_zero, List.countP_cons, List.countP_cons]
    simp
  | b :: L, k + 1 => by
    have ih := cnt_set_le L k
    unfold cntB at ih ⊢
    rw [List.set_cons_succ, List.countP_cons, List.countP_cons]
    omega
theorem cnt_set_lt : ∀ (L : List Bool) (k : Nat), onL L k = true → cntB (L.set k false) < cntB L
  | [], k, h => by simp [onL] at h
  | b :: L, 0, h => by
    have : b = true := h
    subst this
    unfold cntB
    rw [List.set_cons_zero, List.countP_cons, List.countP_cons]
    simp
  | b :: L, k + 1, h => by
    have ih := cnt_set_lt L k h
    unfold cntB at ih ⊢
    rw [List.set_cons_succ, List.countP_cons, List.countP_cons]
    omega
theorem sup_ones {st : List (List Int)} {L : List Bool} (h : ∀ c, c < st.length → onL L c = true) : SupB st L := fun _ hM c hc => h c (hM c hc).1
/-- The first k are live. -/
def OnesB (n k : Nat) (L : List Bool) : Prop := L.length = n ∧ ∀ c, onL L c = decide (c < k)
theorem ones_zero (n : Nat) : OnesB n 0 (List.replicate n false) := ⟨by simp, fun c => by rw [onL_none]; simp⟩
theorem OnesB.next {n k : Nat} {L : List Bool} (h : OnesB n k L) (hk : k < n) : OnesB n (k + 1) (L.set k true) := ⟨by rw [List.length_set]; exact h.1, fun c => by
  rw [onL_set true (by rw [h.1]; exact hk), h.2 c]
  by_cases e : c = k
  · rw [if_pos e, decide_eq_true (by omega)]
  · rw [if_neg e]
    by_cases e2 : c < k
    · rw [decide_eq_true e2, decide_eq_true (by omega)]
    · rw [decide_eq_false e2, decide_eq_false (by omega)]⟩
end Go.Proofs.Ytcoiodfggaanbaa
