/-
  The model's InLanguage, IsEmptyShift and LanguageOf answer as the program's, in plain words.
-/
import Derived.Test.YtalclebehbdliaaGreatLangTexts
import Derived.Test.YtalclebehbdliaaGreatLivelyImpl
namespace Go.Proofs.YtalclebehbdliaaGreat
open Go Go.RowKit

theorem tris_of {L : Int} {ps : List ByteArray} (h : isShift L ps = true) : avoidingWords L ps 3 = trisW L.toNat ps := by
  unfold avoidingWords
  rw [if_pos ⟨h, by decide, by decide⟩]; rfl
theorem inM_cover {L : Int} {ps : List ByteArray} (h : isShift L ps = true) {s : ByteArray} (hs : s.data.toList.all (isL L) = true) : inM ps (pairsW L.toNat ps) s = (avoids ps s && coverB (livelyB L ps) s) := by
  obtain ⟨l1, l3, _⟩ := isShift_letters h
  unfold livelyB
  rw [tris_of h]
  exact in_same (by omega) (by rw [show ((L.toNat : Nat) : Int) = L by omega]; exact hs)
theorem inLang_same (L : Int) (ps : List ByteArray) (s : ByteArray) : inLangS L ps s = inLang L ps s := by
  unfold inLangS inLang avoidsAll
  cases hi : isShift L ps with
  | false => rfl
  | true =>
    cases hw : isW L s with
    | false => rfl
    | true =>
      rw [inM_cover hi (isW_all hw).2.2]; rfl
theorem empty_same (L : Int) (ps : List ByteArray) : emptyT L ps = emptyS L ps := by
  unfold emptyT emptyS
  cases hi : isShift L ps with
  | false => rfl
  | true =>
    obtain ⟨l1, l3, _⟩ := isShift_letters hi
    unfold livelyB
    rw [tris_of hi, Bool.eq_iff_iff, Bool.true_and, Bool.true_and, decide_eq_true_eq, decide_eq_true_eq, setB_zero (by omega), List.length_eq_zero_iff]
def langOfS (L : Int) (ps : List ByteArray) (n : Int) : List ByteArray := if isShift L ps = true ∧ 0 ≤ n ∧ n ≤ 6 then (allW L.toNat n.toNat).filter (inM ps (pairsW L.toNat ps)) else []
theorem langOf_same (L : Int) (ps : List ByteArray) (n : Int) : langOfS L ps n = langOf L ps n := by
  unfold langOfS langOf avoidingWords
  split
  · next hc =>
    obtain ⟨l1, l3, _⟩ := isShift_letters hc.1
    unfold keepW
    rw [List.filter_filter]
    refine List.filter_congr fun x hx => ?_
    obtain ⟨_, h2⟩ := (mem_allW L.toNat (by omega) n.toNat x).1 hx
    rw [inM_cover hc.1 (by rw [show ((L.toNat : Nat) : Int) = L by omega] at h2; exact h2), Bool.and_comm]
  · rfl
theorem langOf_length (L : Int) (ps : List ByteArray) (n : Int) : (langOf L ps n).length ≤ 1000000 :=
  Nat.le_trans (List.length_filter_le _ _) (avoidingWords_length L ps n)
theorem atCopies_inLanguage (W : World) (L : Int) (xs : List ByteArray) (s : ByteArray) : AtCopiesS W 27 L xs s (inLang L xs s) :=
  fun g c w' _ hs hl ht hst hg => by
    rw [← inLang_same]
    exact spec_inLanguage L (some ⟨g, 0, none⟩) c xs s hl (fun k hk => by have := size_le_total hk; omega) (by omega) w' (.of hst hg)

set_option maxRecDepth 100000 in
set_option maxHeartbeats 1600000 in
theorem spec_isEmptyShift (L : Int) (G : Option Addr) (c : Nat) (ps : List ByteArray) (hl : ps.length ≤ 1048576) (hz : ∀ k, k < ps.length → (ps.getD k ByteArray.empty).size ≤ 2147483648) (w : World) (hs : StrsG w G ps) :
    Calls Tryz.prog 50 #[.agg #[.int .i64 L, .slice G ps.length c]] w (BoolPost (emptyT L ps) w) := by
  have hb := (Below.refl w.heap.size w).alloc (Nat.le_refl _) (.cells #[.int .i64 L, .slice G ps.length c] 26)
  have hs1 := hs.below hb
  have HI := Lib.hid (spec_isShift L G c ps hl (fun k hk => by have := hz k hk; omega) _ hs1)
  have HST := Lib.hid (fun w' (h : Below w.heap.size w w') => (show StrsG w' G ps from hs.below h))
  have HX := Lib.hid (fun w' (h : Below (w.heap.size + 1) (w.alloc (.cells #[.int .i64 L, .slice G ps.length c] 26)) w') => box_below w L (.slice G ps.length c) 26 w' h)
  have HZ := Lib.hid hz
  clear hs hb hs1 hz
  go_enter Tryz.func50, Tryz.ntmps50
  go_wp2_with fail
  refine HI.out.mono ?_
  rintro e w1 ⟨rfl, hb1⟩
  rw [World.size_alloc] at hb1
  obtain ⟨x0, x1, hB1⟩ := HX.out w1 hb1
  have HB1 := Lib.hid hB1
  clear hb1 hB1
  cases hi : isShift L ps with
  | false =>
    have HR : Hid (emptyT L ps = false) := Lib.hid (by unfold emptyT; rw [hi]; rfl)
    clear hi
    go_wp2
    go_ret
    exact ⟨by rw [HR.out]; rfl, HB1.out⟩
  | true =>
    obtain ⟨l1, l3, _⟩ := isShift_letters hi
    have HR : Hid (emptyT L ps = ((((pairsW L.toNat ps).length : Nat) : Int) == 0)) := Lib.hid (by
      unfold emptyT; rw [hi, Bool.true_and, Bool.eq_iff_iff, decide_eq_true_eq, beq_iff_eq]; omega)
    have eL : ((L.toNat : Nat) : Int) = L := by omega
    have HP := Lib.hid (spec_pairs L.toNat G c ps (by omega) (by omega) hl HZ.out w1 (HST.out w1 HB1.out))
    rw [eL] at HP
    clear hi eL
    generalize pairsW L.toNat ps = M at *
    go_wp2_with fail
    refine HP.out.mono ?_
    intro e w2 hp
    obtain ⟨A, cap, rfl, hr, hb2⟩ := hp.rowAt
    have HB2 := Lib.hid (below_after HB1.out hb2)
    clear hp hr hb2
    go_wp2
    go_ret
    exact ⟨by rw [HR.out]; rfl, HB2.out⟩
theorem atCopies_isEmptyShift (W : World) (L : Int) (xs : List ByteArray) : AtCopies W 50 L xs (emptyS L xs) :=
  fun g c w' _ hl ht hst hg => by
    rw [← empty_same]
    exact spec_isEmptyShift L (some ⟨g, 0, none⟩) c xs hl (fun k hk => by have := size_le_total hk; omega) w' (.of hst hg)
end Go.Proofs.YtalclebehbdliaaGreat
