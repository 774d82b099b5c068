/-
  PLAIN FACTS ON ORDERED LISTS OF STRINGS (no program in this text): a string is put into an ascending list once; the parts of a word with one length, put so; what a map's keys give, sorted.
-/
import Derived.Test.YtomaanpmjlgpfaaWordNum
import Derived.Sort.KeysCollected
import Derived.ChangeMaps
import Derived.MapViews
namespace Go.Proofs.Ytomaanpmjlgpfaa
open Go Go.RowKit

def putW (x : ByteArray) : List ByteArray → List ByteArray
  | [] => [x]
  | y :: l => if y.data.toList < x.data.toList then y :: putW x l else if y = x then y :: l else x :: y :: l
/-- The first k are less than x. -/
def LessTo (x : ByteArray) (ps : List ByteArray) (k : Nat) : Prop := ∀ j, j < k → (ps.getD j ByteArray.empty).data.toList < x.data.toList
theorem LessTo.next {x : ByteArray} {ps : List ByteArray} {k : Nat} (h : LessTo x ps k) (hl : (ps.getD k ByteArray.empty).data.toList < x.data.toList) : LessTo x ps (k + 1) := by
  intro j hj
  by_cases e : j = k
  · subst e; exact hl
  · exact h j (by omega)
theorem putW_end (x : ByteArray) : ∀ ps : List ByteArray, LessTo x ps ps.length → putW x ps = ps ++ [x]
  | [], _ => rfl
  | y :: l, h => by
    have h0 := h 0 (by simp)
    simp only [List.getD_cons_zero] at h0
    rw [putW, if_pos h0, putW_end x l (fun j hj => by have := h (j + 1) (by simpa using hj); simpa using this)]
    rfl
theorem putW_same (x : ByteArray) : ∀ (ps : List ByteArray) (k : Nat), k < ps.length → LessTo x ps k → ps.getD k ByteArray.empty = x → putW x ps = ps
  | [], k, h, _, _ => by simp at h
  | y :: l, 0, _, _, he => by
    simp only [List.getD_cons_zero] at he
    subst he
    rw [putW, if_neg (List.lt_irrefl _), if_pos rfl]
  | y :: l, k + 1, hk, h, he => by
    have h0 := h 0 (by omega)
    simp only [List.getD_cons_zero] at h0
    rw [putW, if_pos h0, putW_same x l k (by simpa using hk) (fun j hj => by have := h (j + 1) (by omega); simpa using this) (by simpa using he)]
theorem putW_mid (x : ByteArray) : ∀ (ps : List ByteArray) (k : Nat), k < ps.length → LessTo x ps k → ¬ (ps.getD k ByteArray.empty).data.toList < x.data.toList → ps.getD k ByteArray.empty ≠ x → putW x ps = (ps.take k ++ [x]) ++ ps.drop k
  | [], k, h, _, _, _ => by simp at h
  | y :: l, 0, _, _, hn, he => by
    simp only [List.getD_cons_zero] at he hn
    rw [putW, if_neg hn, if_neg he]
    rfl
  | y :: l, k + 1, hk, h, hn, he => by
    have h0 := h 0 (by omega)
    simp only [List.getD_cons_zero] at h0
    rw [putW, if_pos h0, putW_mid x l k (by simpa using hk) (fun j hj => by have := h (j + 1) (by omega); simpa using this) (by simpa using hn) (by simpa using he)]
    rfl
theorem putW_length (x : ByteArray) : ∀ ps : List ByteArray, 0 < (putW x ps).length ∧ (putW x ps).length ≤ ps.length + 1
  | [] => by simp [putW]
  | y :: l => by
    have ih := putW_length x l
    unfold putW
    split
    · simp; omega
    · split <;> simp
theorem putW_mem (x z : ByteArray) : ∀ ps : List ByteArray, z ∈ putW x ps → z = x ∨ z ∈ ps
  | [], h => by simpa [putW] using h
  | y :: l, h => by
    unfold putW at h
    split at h
    · rcases List.mem_cons.1 h with h | h
      · exact Or.inr (by simp [h])
      · rcases putW_mem x z l h with h | h
        · exact Or.inl h
        · exact Or.inr (by simp [h])
    · split at h
      · exact Or.inr h
      · exact List.mem_cons.1 h
/-- Ascending, each once. -/
def Asc (ps : List ByteArray) : Prop := ps.Pairwise fun a b => a.data.toList < b.data.toList
theorem Asc.put {x : ByteArray} : ∀ {ps : List ByteArray}, Asc ps → Asc (putW x ps)
  | [], _ => by simp [putW, Asc]
  | y :: l, h => by
    have h1 := List.pairwise_cons.1 h
    unfold putW
    split
    · next hl =>
      refine List.pairwise_cons.2 ⟨fun z hz => ?_, Asc.put h1.2⟩
      rcases putW_mem x z l hz with e | hm
      · subst e; exact hl
      · exact h1.1 z hm
    · next hn =>
      split
      · exact h
      · next he =>
        have hlt : x.data.toList < y.data.toList := by
          rcases List.le_iff_lt_or_eq.1 (List.not_lt.1 hn) with h3 | h3
          · exact h3
          · exact absurd (ba_ext h3).symm he
        refine List.pairwise_cons.2 ⟨fun z hz => ?_, h⟩
        rcases List.mem_cons.1 hz with e | hm
        · subst e; exact hlt
        · exact List.lt_trans hlt (h1.1 z hm)
def notB (x : List UInt8) (z : List UInt8) : Bool := !(z == x)
def datas (ps : List ByteArray) : List (List UInt8) := ps.map fun p => p.data.toList
theorem filter_all_of {l : List (List UInt8)} {x : List UInt8} (h : ∀ z ∈ l, z ≠ x) : l.filter (notB x) = l := by
  rw [List.filter_eq_self]
  intro z hz
  simp [notB, h z hz]
theorem putW_perm (x : ByteArray) : ∀ {ps : List ByteArray}, Asc ps → (datas (putW x ps)).Perm (x.data.toList :: (datas ps).filter (notB x.data.toList))
  | [], _ => by simp [putW, datas]
  | y :: l, h => by
    have h1 := List.pairwise_cons.1 h
    have ih := putW_perm x h1.2
    unfold putW
    split
    · next hl =>
      have hne : notB x.data.toList y.data.toList = true := by
        have : y.data.toList ≠ x.data.toList := fun e => List.lt_irrefl _ (e ▸ hl)
        unfold notB
        rw [beq_eq_false_iff_ne.2 this]; rfl
      simp only [datas, List.map_cons, List.filter_cons, hne, if_true] at ih ⊢
      exact (ih.cons _).trans (List.Perm.swap _ _ _)
    · next hn =>
      split
      · next he =>
        subst he
        have hf : (datas l).filter (notB y.data.toList) = datas l := filter_all_of (fun z hz => by
          obtain ⟨p, hp, rfl⟩ := List.mem_map.1 hz
          intro e
          exact List.lt_irrefl _ (e ▸ h1.1 p hp))
        have hy : notB y.data.toList y.data.toList = false := by simp [notB]
        have hd : datas (y :: l) = y.data.toList :: datas l := rfl
        rw [hd, List.filter_cons, hy, if_neg (by decide), hf]
      · next he =>
        have hlt : x.data.toList < y.data.toList := by
          rcases List.le_iff_lt_or_eq.1 (List.not_lt.1 hn) with h3 | h3
          · exact h3
          · exact absurd (ba_ext h3).symm he
        have hf : (datas (y :: l)).filter (notB x.data.toList) = datas (y :: l) := filter_all_of (fun z hz => by
          obtain ⟨p, hp, rfl⟩ := List.mem_map.1 hz
          intro e
          rcases List.mem_cons.1 hp with e2 | hm
          · subst e2; exact List.lt_irrefl _ (e ▸ hlt)
          · exact List.lt_irrefl _ (e ▸ List.lt_trans hlt (h1.1 p hm)))
        rw [hf]
        exact List.Perm.refl _

/-! ### The parts of a word -/
def facsTo (w : ByteArray) (n : Nat) : Nat → List ByteArray
  | 0 => []
  | i + 1 => putW (w.extract i (i + n)) (facsTo w n i)
theorem facsTo_asc (w : ByteArray) (n : Nat) : ∀ i, Asc (facsTo w n i)
  | 0 => List.Pairwise.nil
  | i + 1 => (facsTo_asc w n i).put
theorem facsTo_length (w : ByteArray) (n : Nat) : ∀ i, (facsTo w n i).length ≤ i
  | 0 => Nat.le_refl _
  | i + 1 => by
    have := (putW_length (w.extract i (i + n)) (facsTo w n i)).2
    have := facsTo_length w n i
    unfold facsTo; omega
theorem facsTo_pos (w : ByteArray) (n i : Nat) (h : 0 < i) : 0 < (facsTo w n i).length := by
  match i, h with
  | i + 1, _ => exact (putW_length _ _).1
theorem facsTo_mem (w : ByteArray) (n : Nat) : ∀ i, ∀ z ∈ facsTo w n i, ∃ j, j < i ∧ z = w.extract j (j + n)
  | 0, z, h => by simp [facsTo] at h
  | i + 1, z, h => by
    rcases putW_mem _ z _ h with e | hm
    · exact ⟨i, by omega, e⟩
    · obtain ⟨j, hj, e⟩ := facsTo_mem w n i z hm
      exact ⟨j, by omega, e⟩
def factorsOf (w : ByteArray) (n : Int) : List ByteArray := if isW 3 w = true ∧ 0 ≤ n ∧ n ≤ (w.size : Int) then facsTo w n.toNat (w.size - n.toNat + 1) else []
theorem factorsOf_length (w : ByteArray) (n : Int) : (factorsOf w n).length ≤ 1000000 := by
  unfold factorsOf
  split
  · next h =>
    have := isW_len h.1
    have := facsTo_length w n.toNat (w.size - n.toNat + 1)
    omega
  · simp

/-! ### A map's keys -/
theorem strKeys_put {H : Type} (es : List (Lit × DataW H)) (x : List UInt8) (d : DataW H) (hk : ∀ p ∈ es, ∃ y, p.1 = .string y) :
    (strKeys ((DataW.map es).put (.string x) d)).Perm (x :: (strKeys (DataW.map es)).filter (notB x)) := by
  rw [DataW.put_eq]
  show ((ChangeMaps.putKey (.string x) d es).map fun p => strOf p.1).Perm (x :: (es.map fun p => strOf p.1).filter (notB x))
  unfold ChangeMaps.putKey
  have h1 := (WideShapes.insert_perm ((Lit.string x, d) : Lit × DataW H) (es.filter (ChangeMaps.notKey (.string x)))).map fun p => strOf p.1
  refine h1.trans ?_
  rw [List.map_cons]
  refine List.Perm.cons _ ?_
  rw [List.filter_map]
  have e : es.filter (ChangeMaps.notKey (.string x)) = es.filter (notB x ∘ fun p => strOf p.1) := by
    apply List.filter_congr
    intro p hp
    obtain ⟨y, hy⟩ := hk p hp
    simp [ChangeMaps.notKey, hy, Lit.sameKey, notB, strOf]
  rw [e]
theorem sorted_of_perm {ss : List (List UInt8)} {ps : List ByteArray} (h : ss.Perm (datas ps)) (ha : Asc ps) : ss.mergeSort (fun x y => decide (x ≤ y)) = datas ps := by
  have tr : ∀ a b c : List UInt8, decide (a ≤ b) = true → decide (b ≤ c) = true → decide (a ≤ c) = true := fun a b c h1 h2 => by simp only [decide_eq_true_eq] at *; exact List.le_trans h1 h2
  have to : ∀ a b : List UInt8, (decide (a ≤ b) || decide (b ≤ a)) = true := fun a b => by simp only [Bool.or_eq_true, decide_eq_true_eq]; exact List.le_total a b
  refine List.Perm.eq_of_pairwise (le := fun a b => decide (a ≤ b) = true) (fun a b _ _ h1 h2 => ?_) (List.pairwise_mergeSort tr to ss) ?_ ((List.mergeSort_perm ss _).trans h)
  · simp only [decide_eq_true_eq] at h1 h2
    exact List.le_antisymm h1 h2
  · refine List.pairwise_map.2 (List.Pairwise.imp (fun hlt => ?_) ha)
    rw [decide_eq_true_eq]
    exact List.le_of_lt hlt
theorem datas_enc (ps : List ByteArray) : (datas ps).map (fun l => Value.string ⟨l.toArray⟩) = ps.map Value.string := by
  rw [datas, List.map_map]
  apply List.map_congr_left
  intro p _
  simp
end Go.Proofs.Ytomaanpmjlgpfaa
