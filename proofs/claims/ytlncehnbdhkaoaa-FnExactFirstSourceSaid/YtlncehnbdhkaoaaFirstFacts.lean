/-
  PLAIN FACTS ON THE LEAST SOURCE (no program in this text): the completion letter by letter finds the head of the list of the sources.
-/
import Derived.Test.YtlncehnbdhkaoaaSrcCount
namespace Go.Proofs.Ytlncehnbdhkaoaa
open Go Go.RowKit

/-- All completions of v by d letters. -/
def compW (k : Nat) : Nat → ByteArray → List ByteArray
  | 0, v => [v]
  | d + 1, v => (List.range k).flatMap fun x => compW k d (v ++ letterB x)
theorem compW_longer (k : Nat) : ∀ d v, compW k (d + 1) v = longer (compW k d v) k
  | 0, v => by
    show (List.range k).flatMap (fun x => [v ++ letterB x]) = [v].flatMap _
    rw [List.flatMap_singleton, List.map_eq_flatMap]
  | d + 1, v => by
    show (List.range k).flatMap (fun x => compW k (d + 1) (v ++ letterB x)) = longer ((List.range k).flatMap fun x => compW k d (v ++ letterB x)) k
    unfold longer
    rw [List.flatMap_assoc]
    congr 1
    funext x
    exact compW_longer k d (v ++ letterB x)
theorem compW_all (k : Nat) : ∀ d, compW k d ByteArray.empty = allW k d
  | 0 => rfl
  | d + 1 => by rw [compW_longer, compW_all k d]; rfl
theorem ext_left {a b : ByteArray} {i j : Nat} (h : j ≤ a.size) : (a ++ b).extract i j = a.extract i j := by
  apply ba_ext
  rw [ba_extract, ba_extract, ba_append]
  by_cases hi : i ≤ j
  · rw [List.drop_append_of_le_length (by rw [ba_len]; omega), List.take_append_of_le_length (by rw [List.length_drop, ba_len]; omega)]
  · rw [show j - i = 0 by omega, List.take_zero, List.take_zero]
theorem ext_whole (a b : ByteArray) : (a ++ b).extract 0 a.size = a := by
  rw [ext_left (Nat.le_refl _)]
  exact ba_ext (by rw [ba_extract, List.drop_zero, Nat.sub_zero, ← ba_len, List.take_length])
theorem ext_all (a : ByteArray) : a.extract 0 a.size = a := ba_ext (by rw [ba_extract, List.drop_zero, Nat.sub_zero, ← ba_len, List.take_length])
theorem ext_ext {a : ByteArray} {m i j : Nat} (h : j ≤ m) : (a.extract 0 m).extract i j = a.extract i j := by
  apply ba_ext
  rw [ba_extract, ba_extract, ba_extract, List.drop_zero, Nat.sub_zero]
  rw [List.drop_take, List.take_take, Nat.min_eq_left (by omega)]
theorem compW_mem (k : Nat) : ∀ d v u, u ∈ compW k d v → u.size = v.size + d ∧ u.extract 0 v.size = v
  | 0, v, u, h => by
    rw [compW, List.mem_singleton] at h
    subst h
    exact ⟨rfl, ext_all u⟩
  | d + 1, v, u, h => by
    rw [compW, List.mem_flatMap] at h
    obtain ⟨x, _, hx⟩ := h
    obtain ⟨h1, h2⟩ := compW_mem k d _ u hx
    rw [ByteArray.size_append, letterB_size] at h1 h2
    refine ⟨by omega, ?_⟩
    have h3 := congrArg (fun z : ByteArray => z.extract 0 v.size) h2
    rw [ext_ext (by omega), ext_whole] at h3
    exact h3
theorem find_congr {α : Type} {p q : α → Bool} : ∀ {l : List α}, (∀ x ∈ l, p x = q x) → l.find? p = l.find? q
  | [], _ => rfl
  | a :: l, h => by
    rw [List.find?_cons, List.find?_cons, h a (List.mem_cons_self ..), find_congr (fun x hx => h x (List.mem_cons_of_mem _ hx))]
section
variable {k n : Nat} {o w : ByteArray}
/-- None of the parts of u from its first a letters on is bad. -/
def goodB (k n : Nat) (o w : ByteArray) (a : Nat) (u : ByteArray) : Bool := (List.range (u.size + 1 - a)).all fun j => !badF k n o w (u.extract 0 (a + j))
theorem good_iff {a : Nat} {u : ByteArray} : goodB k n o w a u = true ↔ ∀ m, a ≤ m → m ≤ u.size → badF k n o w (u.extract 0 m) = false := by
  unfold goodB
  rw [List.all_eq_true]
  constructor
  · intro h m h1 h2
    have h3 := h (m - a) (List.mem_range.2 (by omega))
    rw [show a + (m - a) = m by omega] at h3
    simpa using h3
  · intro h j hj
    rw [List.mem_range] at hj
    rw [h (a + j) (by omega) (by omega)]; rfl
theorem good_step {v u : ByteArray} (h1 : v.size ≤ u.size) (h2 : u.extract 0 v.size = v) : goodB k n o w v.size u = (!badF k n o w v && goodB k n o w (v.size + 1) u) := by
  rw [Bool.eq_iff_iff, Bool.and_eq_true, good_iff, good_iff]
  constructor
  · intro h
    refine ⟨?_, fun m ha hb => h m (by omega) hb⟩
    have := h v.size (Nat.le_refl _) h1
    rw [h2] at this
    rw [this]; rfl
  · rintro ⟨ha, hb⟩ m h3 h4
    by_cases e : m = v.size
    · subst e; rw [h2]; simpa using ha
    · exact hb m (by omega) h4
theorem first_find : ∀ d v, firstW k n o w d v = (compW k d v).find? (goodB k n o w v.size)
  | 0, v => by
    have e := good_step (k := k) (n := n) (o := o) (w := w) (Nat.le_refl v.size) (ext_all v)
    have e2 : goodB k n o w (v.size + 1) v = true := good_iff.2 fun m h1 h2 => by omega
    rw [e2, Bool.and_true] at e
    rw [compW, List.find?_cons, List.find?_nil, e]
    cases h : badF k n o w v with
    | true => rw [firstW_bad 0 h]; rfl
    | false => rw [firstW_end h]; rfl
  | d + 1, v => by
    have hg : ∀ x, ∀ u ∈ compW k d (v ++ letterB x), goodB k n o w v.size u = (!badF k n o w v && goodB k n o w (v ++ letterB x).size u) := fun x u hu => by
      obtain ⟨h1, h2⟩ := compW_mem k d _ u hu
      have hs : (v ++ letterB x).size = v.size + 1 := by rw [ByteArray.size_append, letterB_size]
      have h3 := congrArg (fun z : ByteArray => z.extract 0 v.size) h2
      rw [ext_ext (by omega), ext_whole] at h3
      rw [good_step (by omega) h3, hs]
    rw [compW, List.find?_flatMap]
    cases h : badF k n o w v with
    | true =>
      rw [firstW_bad (d + 1) h]
      symm
      rw [List.findSome?_eq_none_iff]
      intro x _
      rw [List.find?_eq_none]
      intro u hu
      rw [hg x u hu, h]; simp
    | false =>
      rw [firstW, h, if_neg (by decide)]
      congr 1
      funext x
      rw [first_find d]
      exact find_congr fun u hu => by rw [hg x u hu, h]; rfl
/-- The code gives the letter of w at j. -/
def hitJ (k n : Nat) (o w : ByteArray) (j : Nat) (v : ByteArray) : Bool := !((oneB (letterC k o (v.extract j (j + n)))).toList == (w.extract j (j + 1)).toList)
def fitTo (k n : Nat) (o w : ByteArray) (i : Nat) (v : ByteArray) : Bool := (List.range i).all fun j => !hitJ k n o w j v
theorem fitTo_next (i : Nat) (v : ByteArray) : fitTo k n o w (i + 1) v = (fitTo k n o w i v && !hitJ k n o w i v) := by
  unfold fitTo
  rw [List.range_succ, List.all_append]; simp
theorem fitTo_left {i : Nat} {v u : ByteArray} (n1 : 1 ≤ n) (h : v.size = n - 1 + i) : fitTo k n o w i (v ++ u) = fitTo k n o w i v := by
  unfold fitTo
  rw [Bool.eq_iff_iff, List.all_eq_true, List.all_eq_true]
  have e : ∀ j, j ∈ List.range i → hitJ k n o w j (v ++ u) = hitJ k n o w j v := fun j hj => by
    rw [List.mem_range] at hj
    unfold hitJ
    rw [ext_left (by omega)]
  exact ⟨fun h j hj => by rw [← e j hj]; exact h j hj, fun h j hj => by rw [e j hj]; exact h j hj⟩
theorem longer_filter {p q r : ByteArray → Bool} : ∀ {ws : List ByteArray}, (∀ v ∈ ws, ∀ x, r (v ++ letterB x) = (p v && q (v ++ letterB x))) → (longer (ws.filter p) k).filter q = (longer ws k).filter r
  | [], _ => rfl
  | a :: ws, h => by
    have ih := longer_filter (p := p) (q := q) (r := r) (ws := ws) (fun v hv => h v (List.mem_cons_of_mem _ hv))
    have e : longer (a :: ws) k = ((List.range k).map fun j => a ++ letterB j) ++ longer ws k := rfl
    rw [e, List.filter_append, ← ih]
    have ha := h a (List.mem_cons_self ..)
    cases hp : p a with
    | true =>
      have e2 : longer ((a :: ws).filter p) k = ((List.range k).map fun j => a ++ letterB j) ++ longer (ws.filter p) k := by rw [List.filter_cons_of_pos hp]; rfl
      rw [e2, List.filter_append]
      congr 1
      refine List.filter_congr fun y hy => ?_
      obtain ⟨x, _, rfl⟩ := List.mem_map.1 hy
      rw [ha, hp, Bool.true_and]
    | false =>
      rw [List.filter_cons_of_neg (by rw [hp]; simp)]
      have e3 : ((List.range k).map fun j => a ++ letterB j).filter r = [] := by
        rw [List.filter_eq_nil_iff]
        intro y hy
        obtain ⟨x, _, rfl⟩ := List.mem_map.1 hy
        rw [ha, hp]; simp
      rw [e3, List.nil_append]
theorem srcs_filter (n1 : 1 ≤ n) : ∀ i, srcs k n o w i = (allW k (n - 1 + i)).filter (fitTo k n o w i)
  | 0 => by
    rw [srcs, Nat.add_zero]
    symm
    exact List.filter_eq_self.2 fun _ _ => rfl
  | i + 1 => by
    rw [srcs, srcs_filter n1 i, ← Nat.add_assoc, allW]
    refine longer_filter fun v hv x => ?_
    have hs := allW_size k _ v hv
    rw [fitTo_next, fitTo_left n1 hs]
    congr 1
    unfold hitB hitJ
    have hz : (v ++ letterB x).size = i + n := by rw [ByteArray.size_append, letterB_size]; omega
    rw [hz, applied_one (cut_size (by omega))]
theorem good_fit (n1 : 1 ≤ n) {u : ByteArray} (hu : u.size = n - 1 + w.size) : goodB k n o w 0 u = fitTo k n o w w.size u := by
  rw [Bool.eq_iff_iff, good_iff]
  unfold fitTo
  rw [List.all_eq_true]
  have e : ∀ m, n ≤ m → m ≤ u.size → badF k n o w (u.extract 0 m) = hitJ k n o w (m - n) u := fun m h1 h2 => by
    unfold badF hitJ
    have hs : (u.extract 0 m).size = m := by rw [ByteArray.size_extract]; omega
    rw [hs, decide_eq_true h1, Bool.true_and, ext_ext (Nat.le_refl m), show m - n + n = m by omega]
  constructor
  · intro h j hj
    rw [List.mem_range] at hj
    have h1 := h (j + n) (by omega) (by omega)
    rw [e (j + n) (by omega) (by omega), Nat.add_sub_cancel] at h1
    rw [h1]; rfl
  · intro h m _ h2
    by_cases hn : n ≤ m
    · rw [e m hn h2]
      have := h (m - n) (List.mem_range.2 (by omega))
      simpa using this
    · unfold badF
      have hs : (u.extract 0 m).size = m := by rw [ByteArray.size_extract]; omega
      rw [hs, decide_eq_false hn, Bool.false_and]
/-- The least completion of nothing is the head of the list. -/
theorem first_head (n1 : 1 ≤ n) : firstW k n o w (w.size + (n - 1)) ByteArray.empty = (srcs k n o w w.size).head? := by
  rw [first_find, compW_all, srcs_filter n1, List.head?_filter, Nat.add_comm w.size]
  refine find_congr fun u hu => ?_
  exact good_fit n1 (allW_size k _ u hu)
end
end Go.Proofs.Ytlncehnbdhkaoaa
