/-
  PLAIN WORDS ON THE BLOCKS OF A SHIFT's WORDS (no program's function in this text): the digits of the places that the first and the last part of a word have in a list.
-/
import Derived.Test.YtalclebehbdliaaDoorLangSame
import Derived.Lib.SlicesS
import Derived.Lib.ItoaLen
namespace Go.Proofs.YtalclebehbdliaaDoor
open Go Go.RowKit

def itoaB (i : Int) : ByteArray := ⟨(Lib.itoa i).toArray⟩
def blkOf (M : List ByteArray) (n : Nat) (y : ByteArray) : ByteArray := itoaB (Lib.idxOfS M (y.extract 0 n)) ++ itoaB (Lib.idxOfS M (y.extract 1 (n + 1)))
def blkTo (M A : List ByteArray) (n k : Nat) : List ByteArray := (A.take k).map (blkOf M n)
def blockWordsS (L : Int) (ps : List ByteArray) (n : Int) : List ByteArray :=
  if 1 ≤ n ∧ n ≤ 3 ∧ (langOf L ps n).length ≤ 10 then (langOf L ps (n + 1)).map (blkOf (langOf L ps n) n.toNat) else []
theorem blkTo_next (M A : List ByteArray) (n k : Nat) (h : k < A.length) : blkTo M A n (k + 1) = blkTo M A n k ++ [blkOf M n (A.getD k ByteArray.empty)] := by
  unfold blkTo; rw [take_next A k h, List.map_append]; rfl
theorem blkTo_len (M A : List ByteArray) (n k : Nat) (h : k ≤ A.length) : (blkTo M A n k).length = k := by
  unfold blkTo; rw [List.length_map, List.length_take]; omega
theorem blkTo_all (M A : List ByteArray) (n : Nat) : blkTo M A n A.length = A.map (blkOf M n) := by
  unfold blkTo; rw [List.take_length]
theorem idxFrom_range (x : ByteArray) : ∀ (zs : List ByteArray) (i : Nat), -1 ≤ Lib.idxFromS zs x i ∧ Lib.idxFromS zs x i ≤ ((i + zs.length : Nat) : Int)
  | [], i => by
    rw [Lib.idxFromS]
    omega
  | z :: zs, i => by
    have h := idxFrom_range x zs (i + 1)
    rw [Lib.idxFromS]
    rw [List.length_cons]
    split <;> omega
theorem idx_range (zs : List ByteArray) (x : ByteArray) (h : zs.length ≤ 1000000) : -1 ≤ Lib.idxOfS zs x ∧ Lib.idxOfS zs x ≤ 1000000 := by
  have := idxFrom_range x zs 0
  unfold Lib.idxOfS; omega
theorem itoaB_size (i : Int) (h0 : -1 ≤ i) (h1 : i ≤ 1000000) : (itoaB i).size ≤ 21 := by
  show (Lib.itoa i).toArray.size ≤ 21
  rw [List.size_toArray]
  exact Lib.itoa_length_le i (by omega) (by omega)
theorem lang_size (L : Int) (ps : List ByteArray) (n : Int) : ∀ y ∈ langOf L ps n, y.size = n.toNat := by
  intro y hy
  rw [← langOf_same] at hy
  unfold langOfS at hy
  split at hy
  · exact allW_size _ _ y (List.mem_filter.1 hy).1
  · cases hy
theorem lang_short (L : Int) (ps : List ByteArray) (n : Int) : (langOf L ps n).length ≤ 729 := by
  rw [← langOf_same]
  unfold langOfS
  split
  · next h =>
    obtain ⟨hs, h0, h6⟩ := h
    obtain ⟨l1, l3, _⟩ := isShift_letters hs
    have h2 : (allW L.toNat n.toNat).length ≤ 729 := by rw [allW_length]; exact pow_six (k := L.toNat) (n := n.toNat) (by omega) (by omega) n.toNat (Nat.le_refl _)
    exact Nat.le_trans (List.length_filter_le _ _) h2
  · exact Nat.zero_le _
theorem lang_none {L : Int} {ps : List ByteArray} (h : isShift L ps = false) (n : Int) : langOf L ps n = [] := by
  rw [← langOf_same]
  unfold langOfS
  exact if_neg (by rw [h]; simp)
theorem blockWords_len (L : Int) (ps : List ByteArray) (n : Int) : (blockWordsS L ps n).length ≤ 1000000 := by
  unfold blockWordsS
  split
  · rw [List.length_map]; have := lang_short L ps (n + 1); omega
  · exact Nat.zero_le _
theorem word_at {L : Int} {ps : List ByteArray} {n : Int} {k : Nat} (h : k < (langOf L ps n).length) : ((langOf L ps n).getD k ByteArray.empty).size = n.toNat := by
  have e : (langOf L ps n).getD k ByteArray.empty = (langOf L ps n)[k] := by simp [List.getD, h]
  rw [e]
  exact lang_size L ps n _ (List.getElem_mem h)
end Go.Proofs.YtalclebehbdliaaDoor
