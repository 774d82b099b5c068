/-
  PLAIN FACTS ON WORDS BY THEIR PLACE (no program in this text): the word at a place among all words of its length, its place, the word without its first or its last letter.
-/
import Derived.Test.YtcoiodfggaanbaaPairNum
import Derived.Test.YtcoiodfggaanbaaSrcNum
namespace Go.Proofs.Ytcoiodfggaanbaa
open Go

def wdA (k n i : Nat) : ByteArray := (allW k n).getD i ByteArray.empty
theorem longer_getD (k : Nat) {x : Nat} (hx : x < k) : ∀ (ws : List ByteArray) (i : Nat), i < ws.length → (longer ws k).getD (i * k + x) ByteArray.empty = ws.getD i ByteArray.empty ++ letterB x
  | [], i, h => absurd h (Nat.not_lt_zero _)
  | a :: ws, 0, _ => by
    show ((a :: ws).flatMap fun w => (List.range k).map fun j => w ++ letterB j).getD _ _ = _
    rw [List.flatMap_cons, List.getD_eq_getElem?_getD, List.getElem?_append_left (by simpa using hx), List.getElem?_map, Nat.zero_mul, Nat.zero_add, List.getElem?_range hx]
    rfl
  | a :: ws, i + 1, h => by
    have ih := longer_getD k hx ws i (by simpa using h)
    show ((a :: ws).flatMap fun w => (List.range k).map fun j => w ++ letterB j).getD _ _ = _
    rw [List.flatMap_cons, List.getD_eq_getElem?_getD, List.getElem?_append_right (by rw [List.length_map, List.length_range, Nat.succ_mul]; omega), List.length_map, List.length_range, show (i + 1) * k + x - k = i * k + x by rw [Nat.succ_mul]; omega, ← List.getD_eq_getElem?_getD]
    exact ih
theorem wd_size {k n i : Nat} (h : i < k ^ n) : (wdA k n i).size = n := by
  have hl : i < (allW k n).length := by rw [allW_length]; exact h
  unfold wdA
  rw [List.getD_eq_getElem?_getD, List.getElem?_eq_getElem hl]
  exact allW_size k n _ (List.getElem_mem hl)
theorem wd_succ {k n p : Nat} (hk : 0 < k) (h : p < k ^ (n + 1)) : wdA k (n + 1) p = wdA k n (p / k) ++ letterB (p % k) := by
  have h1 : p / k < (allW k n).length := by
    rw [allW_length]
    exact Nat.div_lt_of_lt_mul (by rw [Nat.mul_comm, ← Nat.pow_succ]; exact h)
  have h2 := longer_getD k (Nat.mod_lt p hk) (allW k n) (p / k) h1
  rw [place_is] at h2
  exact h2
theorem wd_low {k n p : Nat} (h : p < k ^ (n + 1)) : p / k < k ^ n := Nat.div_lt_of_lt_mul (by rw [Nat.mul_comm, ← Nat.pow_succ]; exact h)
theorem wd_idx {k : Nat} (hk : 0 < k) (k3 : k ≤ 3) : ∀ n {p : Nat}, p < k ^ n → idxB k (wdA k n p) = p
  | 0, p, h => by
    have : p = 0 := by simpa using h
    subst this; rfl
  | n + 1, p, h => by
    have ih := wd_idx hk k3 n (wd_low h)
    rw [idxB_val] at ih ⊢
    rw [wd_succ hk h, lw_append, lw_letter k3 (Nat.mod_lt _ hk), valL_snoc, ih, place_is]
theorem wd_inj {k n p r : Nat} (hk : 0 < k) (k3 : k ≤ 3) (hp : p < k ^ n) (hr : r < k ^ n) (h : wdA k n p = wdA k n r) : p = r := by
  rw [← wd_idx hk k3 n hp, ← wd_idx hk k3 n hr, h]
theorem wd_mem {k n p : Nat} (h : p < k ^ n) : wdA k n p ∈ allW k n := by
  have hl : p < (allW k n).length := by rw [allW_length]; exact h
  unfold wdA
  rw [List.getD_eq_getElem?_getD, List.getElem?_eq_getElem hl]
  exact List.getElem_mem hl
theorem wd_of_mem {k n : Nat} {x : ByteArray} (h : x ∈ allW k n) : ∃ p, p < k ^ n ∧ x = wdA k n p := by
  obtain ⟨p, hp, rfl⟩ := List.getElem_of_mem h
  refine ⟨p, by rw [← allW_length]; exact hp, ?_⟩
  unfold wdA
  rw [List.getD_eq_getElem?_getD, List.getElem?_eq_getElem hp]; rfl
theorem cut_last {a l : ByteArray} {n : Nat} (h : a.size = n) : (a ++ l).extract 0 n = a := by
  apply ba_ext
  rw [ba_extract, ba_append, List.drop_zero, Nat.sub_zero, ← h, ← ba_len, List.take_left']
  rfl
theorem cut_first {a l : ByteArray} {n : Nat} (h : a.size = n + 1) (hl : l.size = 1) : (a ++ l).extract 1 (n + 2) = a.extract 1 (n + 1) ++ l := by
  apply ba_ext
  have h1 := ba_len a
  have h2 := ba_len l
  rw [ba_append, ba_extract, ba_extract, ba_append, List.drop_append_of_le_length (by omega), List.take_of_length_le (by rw [List.length_append, List.length_drop]; omega), List.take_of_length_le (by rw [List.length_drop]; omega)]
theorem wd_beg {k n p : Nat} (hk : 0 < k) (h : p < k ^ (n + 1)) : (wdA k (n + 1) p).extract 0 n = wdA k n (p / k) := by
  rw [wd_succ hk h]
  exact cut_last (wd_size (wd_low h))
theorem wd_end {k : Nat} (hk : 0 < k) : ∀ n {p : Nat}, p < k ^ (n + 1) → (wdA k (n + 1) p).extract 1 (n + 1) = wdA k n (p % k ^ n)
  | 0, p, h => by
    rw [wd_succ hk h, Nat.pow_zero, Nat.mod_one]
    apply ba_ext
    rw [ba_extract]
    simp [wdA, allW]
  | n + 1, p, h => by
    have ih := wd_end hk n (wd_low h)
    rw [wd_succ hk h, cut_first (wd_size (wd_low h)) (letterB_size _), ih, wd_succ hk (Nat.mod_lt _ (Nat.pow_pos hk)), Nat.pow_succ, Nat.mul_comm (k ^ n), Nat.mod_mul_right_div_self, Nat.mod_mul_right_mod]
theorem wd_all {k n p : Nat} (k3 : k ≤ 3) (h : p < k ^ n) : (wdA k n p).data.toList.all (isL (k : Int)) = true := allW_all k3 n _ (wd_mem h)
end Go.Proofs.Ytcoiodfggaanbaa
