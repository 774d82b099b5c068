/-
  PLAIN FACTS ON JOINED STRINGS (no program in this text): the joined bytes of the first k + 1 strings out of those of the first k; how many they are; a row of bytes that the call owns, turned into a string.
-/
import Derived.Test.YtcoiodfggaanbaaStrs
import Derived.Lib.Join
import Derived.Lib.AppendStr
import Derived.Laws.IdiomStrings
namespace Go.Proofs.Ytcoiodfggaanbaa
open Go Go.RowKit

def joinOf (xs : List ByteArray) (sep : ByteArray) : List UInt8 := Lib.join (xs.map (·.data.toList)) sep.data.toList
theorem joinOf_nil (sep : ByteArray) : joinOf [] sep = [] := rfl
theorem joinOf_first (xs : List ByteArray) (sep : ByteArray) (h : 0 < xs.length) : joinOf (xs.take (0 + 1)) sep = (xs.getD 0 ByteArray.empty).data.toList := by
  cases xs with
  | nil => simp at h
  | cons x r => simp [joinOf, Lib.join_one]
theorem joinOf_next (xs : List ByteArray) (sep : ByteArray) (k : Nat) (h : k < xs.length) (h0 : 0 < k) : joinOf (xs.take (k + 1)) sep = joinOf (xs.take k) sep ++ sep.data.toList ++ (xs.getD k ByteArray.empty).data.toList := by
  cases xs with
  | nil => simp at h
  | cons x r =>
    obtain ⟨j, rfl⟩ : ∃ j, k = j + 1 := ⟨k - 1, by omega⟩
    have hj : j < r.length := by simpa using h
    have e1 : (r.map (·.data.toList))[j]? = some (r.getD j ByteArray.empty).data.toList := by
      rw [List.getElem?_map, List.getElem?_eq_getElem hj]
      simp [List.getD, List.getElem?_eq_getElem hj]
    have e2 := Lib.joinTail_take_succ sep.data.toList (r.map (·.data.toList)) j _ e1
    unfold joinOf
    simp only [List.take_succ_cons, List.map_cons, Lib.join_cons, List.map_take, List.getD_cons_succ]
    rw [e2]
    simp [List.append_assoc]
theorem lens_eq_total (xs : List ByteArray) : Lib.lens (xs.map (·.data.toList)) = total xs := by
  induction xs with
  | nil => rfl
  | cons x r ih =>
    have : Lib.lens ((x :: r).map (·.data.toList)) = x.data.toList.length + Lib.lens (r.map (·.data.toList)) := by simp [Lib.lens]
    rw [this, ih]
    simp only [total, List.map_cons, List.sum_cons]
    rfl
theorem joinOf_length (xs : List ByteArray) (sep : ByteArray) : (joinOf xs sep).length ≤ sep.size * xs.length + total xs := by
  cases xs with
  | nil => simp [joinOf_nil]
  | cons x r =>
    have h := Lib.join_length x.data.toList (r.map (·.data.toList)) sep.data.toList
    have h2 := lens_eq_total (x :: r)
    simp only [List.map_cons] at h2
    unfold joinOf
    rw [List.map_cons, h, h2, List.length_map]
    have h3 : sep.data.toList.length = sep.size := rfl
    rw [h3, List.length_cons, Nat.mul_add]
    omega
theorem joinOf_take_length (xs : List ByteArray) (sep : ByteArray) (k : Nat) : (joinOf (xs.take k) sep).length ≤ sep.size * xs.length + total xs := by
  have h1 := joinOf_length (xs.take k) sep
  have h2 := total_le_take xs k
  have h3 : sep.size * (xs.take k).length ≤ sep.size * xs.length := Nat.mul_le_mul_left _ (by rw [List.length_take]; omega)
  omega

/-- Bytes as cells. -/
def cellsB (l : List UInt8) : List Value := l.map fun b => .int .u8 b.toNat
theorem cellsB_length (l : List UInt8) : (cellsB l).length = l.length := by simp [cellsB]
theorem cellsB_append (l m : List UInt8) : cellsB l ++ cellsB m = cellsB (l ++ m) := by simp [cellsB]
theorem strCells_cellsB (s : ByteArray) : Lib.strCells s = cellsB s.data.toList := rfl

/-- 'string(b)' of a row that the call owns. -/
theorem conv_owned {P : Program} {w : World} {base src dst e : Nat} {v : Value} {l : List UInt8} (hs : P.underlying src = some (.slice e)) (he : P.underlying e = some (.int .u8)) (hd : P.underlying dst = some .string)
    (h : w.ownsRow base e 1 v l.length (cellsB l)) : (convert src dst v).run P w = .ok (.string ⟨l.toArray⟩) w := by
  rcases h.2 with ⟨rfl, h0⟩ | ⟨g, cap, cur, rfl, _, _, _⟩
  · have : l = [] := List.eq_nil_of_length_eq_zero h0
    subst this
    rw [run_convert_bytes_string w src dst e _ _ _ hs he hd]
    simp [Conv.bytesToString]
    rfl
  · refine run_convert_bytes_back w src dst e ⟨g, 0, none⟩ cap l hs he hd fun j hj => ?_
    have := h.cellAt j (by omega)
    have e : (⟨g, 0, none⟩ : Addr).add j = ⟨g, j, none⟩ := by simp [Addr.add]; exact fun h => h.symm
    rw [e, this]
    simp [cellsB, List.getElem?_eq_getElem hj]
end Go.Proofs.Ytcoiodfggaanbaa
