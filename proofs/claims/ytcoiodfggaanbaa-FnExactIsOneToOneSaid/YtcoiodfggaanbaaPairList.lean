/-
  PLAIN FACTS ON LISTS OF PAIRS OF WORDS (no program in this text): the pairs that go on at both sides; what is left when nothing falls away any more answers whether a code is one to one.
-/
import Derived.Test.YtcoiodfggaanbaaPairNum
import Derived.Test.YtcoiodfggaanbaaWordAt
namespace Go.Proofs.Ytcoiodfggaanbaa
open Go

abbrev PW := ByteArray × ByteArray
def begP (p : PW) : PW := (p.1.extract 0 (p.1.size - 1), p.2.extract 0 (p.2.size - 1))
def endP (p : PW) : PW := (p.1.extract 1 p.1.size, p.2.extract 1 p.2.size)
def pw0 : PW := (ByteArray.empty, ByteArray.empty)
/-- Whether one of the first i pairs begins (ends) with these words. -/
def hasP (f : PW → PW) (ps : List PW) (i : Nat) (a b : ByteArray) : Bool := (ps.take i).any fun p => decide (f p = (a, b))
def keepP (ps : List PW) (p : PW) : Bool := hasP endP ps ps.length (begP p).1 (begP p).2 && hasP begP ps ps.length (endP p).1 (endP p).2
def contP (ps : List PW) : List PW := ps.filter (keepP ps)
def contTo (ps : List PW) (i : Nat) : List PW := (ps.take i).filter (keepP ps)
section
variable {ps : List PW} {f : PW → PW}
theorem takeP_next (ps : List PW) (i : Nat) (h : i < ps.length) : ps.take (i + 1) = ps.take i ++ [ps.getD i pw0] := by
  rw [List.take_add_one, List.getD_eq_getElem?_getD, List.getElem?_eq_getElem h]; rfl
theorem getP_mem {i : Nat} (h : i < ps.length) : ps.getD i pw0 ∈ ps := by
  rw [List.getD_eq_getElem?_getD, List.getElem?_eq_getElem h]; exact List.getElem_mem h
theorem hasP_zero (a b : ByteArray) : hasP f ps 0 a b = false := rfl
theorem hasP_next {i : Nat} (h : i < ps.length) (a b : ByteArray) : hasP f ps (i + 1) a b = (hasP f ps i a b || decide (f (ps.getD i pw0) = (a, b))) := by
  unfold hasP
  rw [takeP_next ps i h, List.any_append]; simp
theorem hasP_put {i : Nat} (h : i < ps.length) : hasP f ps (i + 1) (f (ps.getD i pw0)).1 (f (ps.getD i pw0)).2 = true := by
  rw [hasP_next h, Bool.or_eq_true]
  exact Or.inr (decide_eq_true rfl)
theorem hasP_else {i : Nat} (h : i < ps.length) {a b : ByteArray} (hne : ¬ (a = (f (ps.getD i pw0)).1 ∧ b = (f (ps.getD i pw0)).2)) : hasP f ps (i + 1) a b = hasP f ps i a b := by
  rw [hasP_next h, decide_eq_false (fun e => hne (by rw [e]; exact ⟨rfl, rfl⟩)), Bool.or_false]
theorem hasP_iff {a b : ByteArray} : hasP f ps ps.length a b = true ↔ ∃ p ∈ ps, f p = (a, b) := by
  unfold hasP
  rw [List.take_length, List.any_eq_true]
  simp
theorem keepP_iff {p : PW} : keepP ps p = true ↔ (∃ r ∈ ps, endP r = begP p) ∧ ∃ r ∈ ps, begP r = endP p := by
  unfold keepP
  rw [Bool.and_eq_true, hasP_iff, hasP_iff]
theorem contTo_zero : contTo ps 0 = [] := rfl
theorem contTo_put {i : Nat} (h : i < ps.length) (hk : keepP ps (ps.getD i pw0) = true) : contTo ps (i + 1) = contTo ps i ++ [ps.getD i pw0] := by
  unfold contTo
  rw [takeP_next ps i h, List.filter_append, List.filter_cons_of_pos hk]; rfl
theorem contTo_skip {i : Nat} (h : i < ps.length) (hk : keepP ps (ps.getD i pw0) = false) : contTo ps (i + 1) = contTo ps i := by
  unfold contTo
  rw [takeP_next ps i h, List.filter_append, List.filter_cons_of_neg (by rw [hk]; decide)]; simp
theorem contTo_all : contTo ps ps.length = contP ps := by unfold contTo contP; rw [List.take_length]
theorem contTo_len (i : Nat) : (contTo ps i).length ≤ i := by
  unfold contTo
  exact Nat.le_trans (List.length_filter_le _ _) (by rw [List.length_take]; omega)
theorem contP_len : (contP ps).length ≤ ps.length := List.length_filter_le _ _
theorem contP_same (h : (contP ps).length = ps.length) : contP ps = ps ∧ ∀ p ∈ ps, keepP ps p = true := by
  have h1 := List.length_filter_eq_length_iff.1 h
  exact ⟨List.filter_eq_self.2 h1, h1⟩
theorem contP_mem {p : PW} (h : p ∈ contP ps) : p ∈ ps := (List.mem_filter.1 h).1
end
/-- Pairs of which each goes on at both sides. -/
def ClosP (ps : List PW) (S : PW → Prop) : Prop := ∀ p, S p → p ∈ ps ∧ (∃ r, S r ∧ endP r = begP p) ∧ ∃ r, S r ∧ begP r = endP p
/-- What is left of ps has not lost any of those. -/
def LeftP (ps qs : List PW) : Prop := (∀ p ∈ qs, p ∈ ps) ∧ ∀ S, ClosP ps S → ∀ p, S p → p ∈ qs
theorem left_self (ps : List PW) : LeftP ps ps := ⟨fun _ h => h, fun _ hS p hp => (hS p hp).1⟩
theorem LeftP.next {ps qs : List PW} (h : LeftP ps qs) : LeftP ps (contP qs) := by
  refine ⟨fun p hp => h.1 p (contP_mem hp), fun S hS p hp => ?_⟩
  obtain ⟨_, ⟨r, hr, e⟩, ⟨r', hr', e'⟩⟩ := hS p hp
  unfold contP
  rw [List.mem_filter]
  exact ⟨h.2 S hS p hp, keepP_iff.2 ⟨⟨r, h.2 S hS r hr, e⟩, ⟨r', h.2 S hS r' hr', e'⟩⟩⟩
def ResP (ps r : List PW) : Prop := LeftP ps r ∧ ∀ p ∈ r, keepP r p = true
theorem LeftP.done {ps qs : List PW} (h : LeftP ps qs) (hl : (contP qs).length = qs.length) : ResP ps (contP qs) := by
  have h1 := contP_same hl
  rw [h1.1]
  exact ⟨h, h1.2⟩

/-! The pairs to which a code gives the same letter. -/
section
variable (k n : Nat) (out : Nat → Nat)
def sameP (i j : Nat) : Bool := decide (out i = out j)
def partP (i j : Nat) : List PW := ((List.range j).filter (sameP out i)).map fun j' => (wdA k n i, wdA k n j')
/-- Of the first i words all, and of the next one those with the first j. -/
def eqP (N i j : Nat) : List PW := ((List.range i).flatMap fun i' => partP k n out i' N) ++ partP k n out i j
variable {k n out}
theorem eqP_zero (N : Nat) : eqP k n out N 0 0 = [] := rfl
theorem eqP_row (N i : Nat) : eqP k n out N i N = eqP k n out N (i + 1) 0 := by
  unfold eqP
  rw [List.range_succ, List.flatMap_append, show partP k n out (i + 1) 0 = [] from rfl, List.append_nil]
  simp
theorem eqP_put {N i j : Nat} (h : out i = out j) : eqP k n out N i (j + 1) = eqP k n out N i j ++ [(wdA k n i, wdA k n j)] := by
  unfold eqP partP
  rw [List.range_succ, List.filter_append, List.map_append, List.append_assoc]
  congr 2
  rw [List.filter_cons_of_pos (by unfold sameP; exact decide_eq_true h)]; rfl
theorem eqP_skip {N i j : Nat} (h : out i ≠ out j) : eqP k n out N i (j + 1) = eqP k n out N i j := by
  unfold eqP partP
  rw [List.range_succ, List.filter_append, List.map_append]
  congr 1
  rw [List.filter_cons_of_neg (by unfold sameP; rw [decide_eq_false h]; decide)]; simp
theorem partP_len (i j : Nat) : (partP k n out i j).length ≤ j := by
  unfold partP
  rw [List.length_map]
  exact Nat.le_trans (List.length_filter_le _ _) (by simp)
theorem eqP_len (N j : Nat) : ∀ i, (eqP k n out N i j).length ≤ i * N + j
  | 0 => by
    unfold eqP
    simpa using partP_len (k := k) (n := n) (out := out) 0 j
  | i + 1 => by
    have ih := eqP_len N N i
    have h : (eqP k n out N (i + 1) j).length = (eqP k n out N i N).length + (partP k n out (i + 1) j).length := by
      rw [eqP_row]
      unfold eqP
      rw [show partP k n out (i + 1) 0 = [] from rfl, List.append_nil, List.length_append]
    have h2 := partP_len (k := k) (n := n) (out := out) (i + 1) j
    rw [h, Nat.succ_mul]
    omega
theorem eqP_mem {N : Nat} {p : PW} : p ∈ eqP k n out N N 0 ↔ ∃ i j, i < N ∧ j < N ∧ out i = out j ∧ p = (wdA k n i, wdA k n j) := by
  unfold eqP
  rw [show partP k n out N 0 = [] from rfl, List.append_nil, List.mem_flatMap]
  unfold partP sameP
  constructor
  · rintro ⟨i, hi, h⟩
    obtain ⟨j, h1, rfl⟩ := List.mem_map.1 h
    rw [List.mem_filter, List.mem_range] at h1
    exact ⟨i, j, List.mem_range.1 hi, h1.1, by simpa using h1.2, rfl⟩
  · rintro ⟨i, j, hi, hj, h, rfl⟩
    exact ⟨i, List.mem_range.2 hi, List.mem_map.2 ⟨j, by rw [List.mem_filter, List.mem_range]; exact ⟨hj, by simpa using h⟩, rfl⟩⟩
end

/-- The answer. -/
def difP (p : PW) : Bool := decide (p.1 ≠ p.2)
theorem one_pairs {k n : Nat} {out : Nat → Nat} (hk : 0 < k) (k3 : k ≤ 3) {r : List PW} (h : ResP (eqP k (n + 1) out (k ^ (n + 1)) (k ^ (n + 1)) 0) r) : OneIs k (k ^ n) out (!r.any difP) := by
  have hN : k ^ n * k = k ^ (n + 1) := (Nat.pow_succ k n).symm
  have hq : 0 < k ^ n := Nat.pow_pos hk
  have hsz : ∀ {i}, i < k ^ (n + 1) → (wdA k (n + 1) i).size = n + 1 := fun h => wd_size h
  have hb : ∀ {i j}, i < k ^ (n + 1) → j < k ^ (n + 1) → begP (wdA k (n + 1) i, wdA k (n + 1) j) = (wdA k n (i / k), wdA k n (j / k)) := fun {i j} hi hj => by
    unfold begP
    simp only
    rw [hsz hi, hsz hj, Nat.add_sub_cancel, wd_beg hk hi, wd_beg hk hj]
  have he : ∀ {i j}, i < k ^ (n + 1) → j < k ^ (n + 1) → endP (wdA k (n + 1) i, wdA k (n + 1) j) = (wdA k n (i % k ^ n), wdA k n (j % k ^ n)) := fun {i j} hi hj => by
    unfold endP
    simp only
    rw [hsz hi, hsz hj, wd_end hk n hi, wd_end hk n hj]
  have hlow : ∀ {i}, i < k ^ (n + 1) → i / k < k ^ n := fun h => wd_low h
  have hmod : ∀ i, i % k ^ n < k ^ n := fun i => Nat.mod_lt _ hq
  have heq : ∀ {a b c d}, a < k ^ n → b < k ^ n → c < k ^ n → d < k ^ n → (wdA k n a, wdA k n b) = (wdA k n c, wdA k n d) → a = c ∧ b = d := fun {a b c d} h1 h2 h3 h4 e => by
    rw [Prod.mk.injEq] at e
    exact ⟨wd_inj hk k3 h1 h3 e.1, wd_inj hk k3 h2 h4 e.2⟩
  unfold OneIs
  rw [Bool.not_eq_true', ← Bool.not_eq_true, List.any_eq_true]
  constructor
  · rintro hno i j ⟨S, hS, hs⟩
    have hcl : ClosP (eqP k (n + 1) out (k ^ (n + 1)) (k ^ (n + 1)) 0) fun p => ∃ i j, S i j ∧ p = (wdA k (n + 1) i, wdA k (n + 1) j) := by
      rintro p ⟨i, j, hs, rfl⟩
      obtain ⟨h1, h2, h3, ⟨i', j', hs', e1, e2⟩, ⟨i2, j2, hs2, e3, e4⟩⟩ := hS i j hs
      have g1 := (hS i' j' hs')
      have g2 := (hS i2 j2 hs2)
      rw [hN] at h1 h2 g1 g2
      refine ⟨eqP_mem.2 ⟨i, j, h1, h2, h3, rfl⟩, ⟨_, ⟨i', j', hs', rfl⟩, ?_⟩, ⟨_, ⟨i2, j2, hs2, rfl⟩, ?_⟩⟩
      · rw [he g1.1 g1.2.1, hb h1 h2, e1, e2]
      · rw [hb g2.1 g2.2.1, he h1 h2, e3, e4]
    have hm := h.1.2 _ hcl _ ⟨i, j, hs, rfl⟩
    obtain ⟨h1, h2, _⟩ := hS i j hs
    rw [hN] at h1 h2
    refine Classical.byContradiction fun hne => hno ⟨_, hm, ?_⟩
    unfold difP
    exact decide_eq_true fun e => hne (wd_inj hk k3 h1 h2 e)
  · rintro hall ⟨p, hp, hd⟩
    unfold difP at hd
    obtain ⟨i, j, hi, hj, ho, rfl⟩ := eqP_mem.1 (h.1.1 p hp)
    refine (of_decide_eq_true hd) ?_
    have := hall i j ⟨fun i j => i < k ^ (n + 1) ∧ j < k ^ (n + 1) ∧ (wdA k (n + 1) i, wdA k (n + 1) j) ∈ r, ?_, hi, hj, hp⟩
    · simp only
      rw [this]
    · rintro a b ⟨ha, hb', hm⟩
      obtain ⟨⟨r1, hr1, e1⟩, ⟨r2, hr2, e2⟩⟩ := keepP_iff.1 (h.2 _ hm)
      obtain ⟨a0, b0, ha0, hb0, ho0, e0⟩ := eqP_mem.1 (h.1.1 _ hm)
      rw [Prod.mk.injEq] at e0
      obtain rfl := wd_inj hk k3 ha ha0 e0.1
      obtain rfl := wd_inj hk k3 hb' hb0 e0.2
      obtain ⟨i1, j1, hi1, hj1, _, rfl⟩ := eqP_mem.1 (h.1.1 _ hr1)
      obtain ⟨i2, j2, hi2, hj2, _, rfl⟩ := eqP_mem.1 (h.1.1 _ hr2)
      rw [he hi1 hj1, hb ha hb'] at e1
      rw [hb hi2 hj2, he ha hb'] at e2
      have f1 := heq (hmod _) (hmod _) (hlow ha) (hlow hb') e1
      have f2 := heq (hlow hi2) (hlow hj2) (hmod _) (hmod _) e2
      rw [hN]
      exact ⟨ha, hb', ho0, ⟨i1, j1, ⟨hi1, hj1, hr1⟩, f1.1, f1.2⟩, ⟨i2, j2, ⟨hi2, hj2, hr2⟩, f2.1, f2.2⟩⟩
end Go.Proofs.Ytcoiodfggaanbaa
