/-
  The program's AvoidingWords: at every shift in memory and every int it returns the words that the plain list holds, in new memory; nothing that was there before is changed.
-/
import Derived.Test.YtalclebehbdliaaGreatStrike
import Derived.Test.YtalclebehbdliaaGreatShiftImpl
import Derived.Test.YtalclebehbdliaaGreatLangTexts
import Derived.Test.YtalclebehbdliaaGreatWordsOf
namespace Go.Proofs.YtalclebehbdliaaGreat
open Go Go.RowKit

theorem enters_avoids : ∀ args w, (callFunc 109 args).run Tryz.prog w = .ok (.enter 109 args) w := enters_of Tryz.func109 (by kernel_rfl) rfl

set_option maxRecDepth 100000 in
theorem test_avoids (L : Int) (G : Option Addr) (c H : Nat) (ps : List ByteArray) (hl : ps.length ≤ 1048576) (hz : ∀ k, k < ps.length → (ps.getD k ByteArray.empty).size ≤ 2147483648) (w : World) (hs : StrsG w G ps) (hH : H = w.heap.size)
    (hsh : ∀ w', Below w.heap.size w w' → w'.ShapedOpen Tryz.prog) :
    TestAt (H + 1) (w.alloc (.cells #[.int .i64 L, .slice G ps.length c] 26)) 109 #[.pointer (some ⟨H, 0, none⟩)] (fun x => !avoidsAll L ps x) (fun x => x.size ≤ 16) := by
  subst hH
  intro x W hx hW
  have hb := (Below.refl w.heap.size w).alloc (Nat.le_refl _) (.cells #[.int .i64 L, .slice G ps.length c] 26)
  have hbW : Below w.heap.size w W := hb.trans (hW.mono (by omega))
  have x0 : W.cell? ⟨w.heap.size, 0, none⟩ = some (.int .i64 L) := (hW.cell (p := ⟨w.heap.size, 0, none⟩) (by show w.heap.size < _; omega)).trans (by simp)
  have x1 : W.cell? ⟨w.heap.size, 1, none⟩ = some (.slice G ps.length c) := (hW.cell (p := ⟨w.heap.size, 1, none⟩) (by show w.heap.size < _; omega)).trans (by simp)
  have HA := Lib.hid (impl_avoidsAll L G c ps x hl hz (by omega) W (hs.below hbW) (fun w' h => hsh w' (below_after hbW h)))
  clear hs hz hb hbW hsh hW
  show Calls Tryz.prog 109 #[.string x, .pointer (some ⟨w.heap.size, 0, none⟩)] W _
  go_enter Tryz.func109, Tryz.ntmps109
  go_wp2_with fail
  refine HA.out.mono ?_
  rintro e w1 ⟨rfl, hb1⟩
  go_wp2
  go_ret
  exact ⟨rfl, hb1⟩

theorem avoidingWords_yes {L : Int} {ps : List ByteArray} {n : Int} (hi : isShift L ps = true) (h0 : 0 ≤ n) (h6 : n ≤ 6) : (wordsOf L n).filter (fun x => !!avoidsAll L ps x) = avoidingWords L ps n ∧ ∀ x ∈ wordsOf L n, x.size ≤ 16 := by
  obtain ⟨l1, l3, _⟩ := isShift_letters hi
  have e : wordsOf L n = allW L.toNat n.toNat := by
    have := wordsOf_yes (k := L.toNat) (n := n.toNat) (by omega) (by omega) (by omega) (pow_six (by omega) (by omega) n.toNat (Nat.le_refl _))
    rwa [show ((L.toNat : Nat) : Int) = L by omega, show ((n.toNat : Nat) : Int) = n by omega] at this
  unfold avoidingWords
  rw [if_pos ⟨hi, h0, h6⟩, e]
  have hw : ∀ x ∈ allW L.toNat n.toNat, isW L x = true := by
    intro x hx
    obtain ⟨h1, h2⟩ := (mem_allW L.toNat (by omega) n.toNat x).1 hx
    rw [show ((L.toNat : Nat) : Int) = L by omega] at h2
    unfold isW
    rw [h2, h1, decide_eq_true l1, decide_eq_true l3, show decide (n.toNat ≤ 16) = true by rw [decide_eq_true_eq]; omega]
    rfl
  refine ⟨List.filter_congr fun x hx => ?_, fun x hx => isW_len (hw x hx)⟩
  unfold avoidsAll
  rw [hi, hw x hx, Bool.not_not]; rfl

set_option maxRecDepth 100000 in
set_option maxHeartbeats 1600000 in
theorem impl_avoidingWords (L n : Int) (G : Option Addr) (c : Nat) (ps : List ByteArray) (hl : ps.length ≤ 1048576) (hz : ∀ k, k < ps.length → (ps.getD k ByteArray.empty).size ≤ 2147483648) (w : World) (hs : StrsG w G ps)
    (hsh : ∀ w', Below w.heap.size w w' → w'.ShapedOpen Tryz.prog) :
    Calls Tryz.prog 82 #[.agg #[.int .i64 L, .slice G ps.length c], .int .i64 n] w (ListPost (avoidingWords L ps n) w) := by
  have hb := (Below.refl w.heap.size w).alloc (Nat.le_refl _) (.cells #[.int .i64 L, .slice G ps.length c] 26)
  have hs1 := hs.below hb
  have HI := Lib.hid (impl_isShift L G c ps hl (fun k hk => by have := hz k hk; omega) _ hs1)
  have HT := Lib.hid (test_avoids L G c w.heap.size ps hl hz w hs rfl hsh)
  have HB := Lib.hid hb
  have HX := Lib.hid (fun w' (h : Below (w.heap.size + 1) (w.alloc (.cells #[.int .i64 L, .slice G ps.length c] 26)) w') =>
    show w'.cell? ⟨w.heap.size, 0, none⟩ = some (.int .i64 L) from (h.cell (p := ⟨w.heap.size, 0, none⟩) (by show w.heap.size < _; omega)).trans (by simp))
  clear hs hz hb hs1 hsh
  go_enter Tryz.func82, Tryz.ntmps82
  go_wp2_with fail
  refine HI.out.mono ?_
  rintro e w1 ⟨rfl, hb1⟩
  rw [World.size_alloc] at hb1
  have x0 := HX.out w1 hb1
  have hs1 : w.heap.size + 1 ≤ w1.heap.size := by have := hb1.size; rw [World.size_alloc] at this; exact this
  have HB1 := Lib.hid hb1
  have HBw : Hid (Below w.heap.size w w1) := Lib.hid (HB.out.trans (hb1.mono (by omega)))
  clear hb1
  cases hi : isShift L ps with
  | false =>
    have HR : Hid (avoidingWords L ps n = []) := Lib.hid (by unfold avoidingWords; rw [if_neg (by rw [hi]; simp)])
    clear hi
    go_wp2
    go_ret
    rw [HR.out]
    exact post_nil _ _ HBw.out
  | true =>
    by_cases h0 : n < 0
    · have g0 : decide (n < (0 : Int)) = true := decide_eq_true h0
      have HR : Hid (avoidingWords L ps n = []) := Lib.hid (by unfold avoidingWords; rw [if_neg (by omega)])
      clear hi
      go_wp2
      go_ret
      rw [HR.out]
      exact post_nil _ _ HBw.out
    · have g0 : decide (n < (0 : Int)) = false := decide_eq_false h0
      by_cases h6 : 6 < n
      · have g6 : decide ((6 : Int) < n) = true := decide_eq_true h6
        have HR : Hid (avoidingWords L ps n = []) := Lib.hid (by unfold avoidingWords; rw [if_neg (by omega)])
        clear hi
        go_wp2
        go_ret
        rw [HR.out]
        exact post_nil _ _ HBw.out
      · have g6 : decide ((6 : Int) < n) = false := decide_eq_false h6
        obtain ⟨hf, hok⟩ := avoidingWords_yes hi (show 0 ≤ n by omega) (show n ≤ 6 by omega)
        have HF := Lib.hid hf
        have HO := Lib.hid hok
        have HW := Lib.hid (impl_wordsOf L n w1)
        clear hi hf hok
        go_wp2_with fail
        refine HW.out.mono ?_
        rintro e w2 ⟨v, rfl, ho2, hb2⟩
        have HS := Lib.hid (strike_list (w.heap.size + 1) _ _ _ enters_avoids _ _ HT.out (wordsOf L n) HO.out (wordsOf_length L n) v w2 (HB1.out.trans (hb2.mono hs1)) (Nat.le_trans hs1 hb2.size) (ho2.mono hs1))
        clear ho2 hb2
        go_wp2_with fail
        refine HS.out.mono ?_
        rintro e w3 ⟨v3, rfl, ho3, hb3⟩
        rw [HF.out] at ho3
        have HP : Hid (ListPost (avoidingWords L ps n) w (.returned v3) w3) := Lib.hid ⟨v3, rfl, ho3.mono (by omega), HB.out.trans (hb3.mono (by omega))⟩
        clear ho3 hb3
        go_wp2
        go_ret
        exact HP.out
theorem atCopies_impl_avoidingWords (W : World) (hsh : W.ShapedOpen Tryz.prog) (L : Int) (xs : List ByteArray) (n : Int) : AtCopiesL W 82 L xs n (avoidingWords L xs n) :=
  fun g c w' hB hl ht hst hg => impl_avoidingWords L n (some ⟨g, 0, none⟩) c xs hl (fun k hk => by have := size_le_total hk; omega) w' (.of hst hg) (fun _ h => shape_next hsh (below_after hB h))
end Go.Proofs.YtalclebehbdliaaGreat
