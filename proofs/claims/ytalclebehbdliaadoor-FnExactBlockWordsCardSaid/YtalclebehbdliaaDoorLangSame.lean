/-
  The model's InLanguage, IsEmptyShift and LanguageOf answer as the program's, in plain words.
-/
import Derived.Test.YtalclebehbdliaaDoorLangSpec
import Derived.Test.YtalclebehbdliaaDoorLivelyImpl
namespace Go.Proofs.YtalclebehbdliaaDoor
open Go Go.RowKit

theorem tris_of {L : Int} {ps : List ByteArray} (h : isShift L ps = true) : avoidingWords L ps 3 = trisW L.toNat ps := by
  unfold avoidingWords
  rw [if_pos ⟨h, by decide, by decide⟩]; rfl
theorem inM_cover {L : Int} {ps : List ByteArray} (h : isShift L ps = true) {s : ByteArray} (hs : s.data.toList.all (isL L) = true) : inM ps (pairsW L.toNat ps) s = (avoids ps s && coverB (livelyB L ps) s) := by
  obtain ⟨l1, l3, _⟩ := isShift_letters h
  unfold livelyB
  rw [tris_of h]
  exact in_same (by omega) (by rw [show ((L.toNat : Nat) : Int) = L by omega]; exact hs)
theorem inLang_same (L : Int) (ps : List ByteArray) (s : ByteArray) : inLangS L ps s = inLang L ps s := by
  unfold inLangS inLang avoidsAll
  cases hi : isShift L ps with
  | false => rfl
  | true =>
    cases hw : isW L s with
    | false => rfl
    | true =>
      rw [inM_cover hi (isW_all hw).2.2]; rfl
theorem empty_same (L : Int) (ps : List ByteArray) : emptyT L ps = emptyS L ps := by
  unfold emptyT emptyS
  cases hi : isShift L ps with
  | false => rfl
  | true =>
    obtain ⟨l1, l3, _⟩ := isShift_letters hi
    unfold livelyB
    rw [tris_of hi, Bool.eq_iff_iff, Bool.true_and, Bool.true_and, decide_eq_true_eq, decide_eq_true_eq, setB_zero (by omega), List.length_eq_zero_iff]
def langOfS (L : Int) (ps : List ByteArray) (n : Int) : List ByteArray := if isShift L ps = true ∧ 0 ≤ n ∧ n ≤ 6 then (allW L.toNat n.toNat).filter (inM ps (pairsW L.toNat ps)) else []
theorem langOf_same (L : Int) (ps : List ByteArray) (n : Int) : langOfS L ps n = langOf L ps n := by
  unfold langOfS langOf avoidingWords
  split
  · next hc =>
    obtain ⟨l1, l3, _⟩ := isShift_letters hc.1
    unfold keepW
    rw [List.filter_filter]
    refine List.filter_congr fun x hx => ?_
    obtain ⟨_, h2⟩ := (mem_allW L.toNat (by omega) n.toNat x).1 hx
    rw [inM_cover hc.1 (by rw [show ((L.toNat : Nat) : Int) = L by omega] at h2; exact h2), Bool.and_comm]
  · rfl
theorem langOf_length (L : Int) (ps : List ByteArray) (n : Int) : (langOf L ps n).length ≤ 1000000 :=
  Nat.le_trans (List.length_filter_le _ _) (avoidingWords_length L ps n)
end Go.Proofs.YtalclebehbdliaaDoor
