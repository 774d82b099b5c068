/-
  PLAIN FACTS ON A CODE's TEXT: the numbers and the letters with spaces between; what is read from a text.
-/
import Derived.Test.YtogmmjiajajinaaDoorCodeNum
import Derived.Test.YtogmmjiajajinaaDoorJoinNum
import Derived.Test.YtogmmjiajajinaaDoorSpecRead
import Derived.Lib.ItoaLen
namespace Go.Proofs.YtogmmjiajajinaaDoor
open Go Go.RowKit

def itoaB (n : Int) : ByteArray := ⟨(Lib.itoa n).toArray⟩
def spB : ByteArray := ⟨#[32]⟩
def textC (K N : Int) (o : ByteArray) : ByteArray := if isCodeB K N o = true then itoaB K ++ spB ++ itoaB N ++ spB ++ o else ByteArray.empty
theorem textC_no {K N : Int} {o : ByteArray} (h : isCodeB K N o = false) : textC K N o = ByteArray.empty := by unfold textC; rw [h]; rfl
theorem textC_yes {K N : Int} {o : ByteArray} (h : isCodeB K N o = true) : textC K N o = itoaB K ++ spB ++ itoaB N ++ spB ++ o := by unfold textC; rw [if_pos h]
theorem itoaB_size {n : Int} (h0 : -1000000 ≤ n) (h1 : n ≤ 1000000) : (itoaB n).size ≤ 21 := by
  have h := Lib.itoa_length_le n (by omega) (by omega)
  rw [← ba_len]
  simpa [itoaB] using h
theorem join_three (a b c : ByteArray) : (⟨(joinOf [a, b, c] spB).toArray⟩ : ByteArray) = a ++ spB ++ b ++ spB ++ c := by
  apply ba_ext
  have e : joinOf [a, b, c] spB = a.data.toList ++ (spB.data.toList ++ (b.data.toList ++ (spB.data.toList ++ c.data.toList))) := by
    unfold joinOf
    rw [List.map_cons, Lib.join_cons]
    simp [Lib.joinTail]
  rw [e]
  simp

/-- What is read from the parts of a text. -/
def parsedB (f : ByteArray → Option Int) (ps : List ByteArray) : Bool :=
  match ps with
  | [p, q, r] => (numB (f p) && numB (f q)) && isCodeB (numV (f p)) (numV (f q)) r
  | _ => false
def parsedK (f : ByteArray → Option Int) (ps : List ByteArray) : Int := if parsedB f ps = true then numV (f (ps.getD 0 ByteArray.empty)) else 0
def parsedN (f : ByteArray → Option Int) (ps : List ByteArray) : Int := if parsedB f ps = true then numV (f (ps.getD 1 ByteArray.empty)) else 0
def parsedO (f : ByteArray → Option Int) (ps : List ByteArray) : ByteArray := if parsedB f ps = true then ps.getD 2 ByteArray.empty else ByteArray.empty
theorem num_of_int {p : ByteArray} {n : Int} (h0 : 0 ≤ n) (h1 : n ≤ 999999) : intOfS p = some n ↔ numOfS p = some n := by
  unfold intOfS numOfS
  rw [numOf_some, numOf_some]
  constructor
  · rintro ⟨_, _, h⟩; exact ⟨h0, h1, h⟩
  · rintro ⟨_, _, h⟩; exact ⟨by omega, by omega, h⟩
theorem read_both {p q r : ByteArray} : parsedB intOfS [p, q, r] = true ↔ parsedB numOfS [p, q, r] = true := by
  have key : ∀ f g : ByteArray → Option Int, (∀ x n, 0 ≤ n → n ≤ 999999 → (f x = some n → g x = some n)) → parsedB f [p, q, r] = true → parsedB g [p, q, r] = true := by
    intro f g hfg h
    unfold parsedB at h ⊢
    simp only [Bool.and_eq_true] at h ⊢
    obtain ⟨⟨h1, h2⟩, h3⟩ := h
    cases e1 : f p with
    | none => rw [e1] at h1; cases h1
    | some a =>
      cases e2 : f q with
      | none => rw [e2] at h2; cases h2
      | some b =>
        rw [e1, e2] at h3
        obtain ⟨k, n, ek, en, ok⟩ := codeOk_of h3
        have h5 := ok.k3
        have h6 := ok.n4
        have ea : a = (k : Int) := ek
        have eb : b = (n : Int) := en
        rw [hfg p a (by omega) (by omega) e1, hfg q b (by omega) (by omega) e2]
        exact ⟨⟨rfl, rfl⟩, h3⟩
  exact ⟨key _ _ fun x n h0 h1 => (num_of_int h0 h1).1, key _ _ fun x n h0 h1 => (num_of_int h0 h1).2⟩
theorem read_vals {p q r : ByteArray} (h : parsedB intOfS [p, q, r] = true) : numV (intOfS p) = numV (numOfS p) ∧ numV (intOfS q) = numV (numOfS q) := by
  unfold parsedB at h
  simp only [Bool.and_eq_true] at h
  obtain ⟨⟨h1, h2⟩, h3⟩ := h
  cases e1 : intOfS p with
  | none => rw [e1] at h1; cases h1
  | some a =>
    cases e2 : intOfS q with
    | none => rw [e2] at h2; cases h2
    | some b =>
      rw [e1, e2] at h3
      obtain ⟨k, n, ek, en, ok⟩ := codeOk_of h3
      have h5 := ok.k3
      have h6 := ok.n4
      have ea : a = (k : Int) := ek
      have eb : b = (n : Int) := en
      rw [(num_of_int (by omega) (by omega)).1 e1, (num_of_int (by omega) (by omega)).1 e2]
      exact ⟨rfl, rfl⟩
theorem parsed_same (ps : List ByteArray) : parsedB intOfS ps = parsedB numOfS ps := by
  match ps with
  | [p, q, r] =>
    cases h : parsedB numOfS [p, q, r] with
    | true => exact read_both.2 h
    | false =>
      rw [← Bool.not_eq_true] at h ⊢
      exact fun h2 => h (read_both.1 h2)
  | [] => rfl
  | [_] => rfl
  | [_, _] => rfl
  | _ :: _ :: _ :: _ :: _ => rfl
theorem parsed_three {f : ByteArray → Option Int} {ps : List ByteArray} (h : parsedB f ps = true) : ∃ p q r, ps = [p, q, r] := by
  match ps, h with
  | [p, q, r], _ => exact ⟨p, q, r, rfl⟩
  | [], h => cases h
  | [_], h => cases h
  | [_, _], h => cases h
  | _ :: _ :: _ :: _ :: _, h => cases h
theorem parsedK_same (ps : List ByteArray) : parsedK intOfS ps = parsedK numOfS ps := by
  unfold parsedK
  rw [← parsed_same]
  by_cases h : parsedB intOfS ps = true
  · obtain ⟨p, q, r, rfl⟩ := parsed_three h
    rw [if_pos h, if_pos h]
    exact (read_vals h).1
  · rw [if_neg h, if_neg h]
theorem parsedN_same (ps : List ByteArray) : parsedN intOfS ps = parsedN numOfS ps := by
  unfold parsedN
  rw [← parsed_same]
  by_cases h : parsedB intOfS ps = true
  · obtain ⟨p, q, r, rfl⟩ := parsed_three h
    rw [if_pos h, if_pos h]
    exact (read_vals h).2
  · rw [if_neg h, if_neg h]
theorem parsedO_same (ps : List ByteArray) : parsedO intOfS ps = parsedO numOfS ps := by
  unfold parsedO
  rw [← parsed_same]
end Go.Proofs.YtogmmjiajajinaaDoor
