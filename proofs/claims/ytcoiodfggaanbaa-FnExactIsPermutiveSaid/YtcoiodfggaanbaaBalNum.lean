/-
  PLAIN FACTS ON CODES WHOSE WORDS HAVE THE SAME NUMBER OF SOURCES (no program in this text): if all words of a length have as many as the first of them, they have as many as there are states.
-/
import Derived.Test.YtcoiodfggaanbaaSrcCount
namespace Go.Proofs.Ytcoiodfggaanbaa
open Go Go.RowKit

theorem overW_snoc {k : Nat} : ∀ (m : Nat) (f : List Nat → Nat), overW k (m + 1) f = overW k m fun w => sumN k fun c => f (w ++ [c])
  | 0, f => rfl
  | m + 1, f => by
    show sumN k (fun c => overW k (m + 1) fun w => f (c :: w)) = sumN k fun c => overW k m fun w => sumN k fun d => f (c :: w ++ [d])
    exact sumN_congr k fun c _ => overW_snoc m fun w => f (c :: w)
theorem sumL_over {k : Nat} (hk : k ≤ 3) : ∀ (m : Nat) (f : List Nat → Nat), sumL (allW k m) (fun v => f (lw v)) = overW k m f
  | 0, f => by
    show sumL [ByteArray.empty] _ = _
    rw [sumL_cons, sumL_nil]; rfl
  | m + 1, f => by
    rw [allW, sumL_longer, overW_snoc, ← sumL_over hk m]
    refine sumL_congr fun v _ => sumN_congr k fun x hx => ?_
    rw [lw_append, lw_letter hk hx]
theorem src_total {k q : Nat} {out : Nat → Nat} (hout : ∀ p, out p < k) (h0 : 0 < q) (m : Nat) : overW k m (srcN k q out) = q * k ^ m := by
  unfold srcN
  rw [overW_sum, sumN_congr q (fun s hs => by rw [word_all hout, free_one h0 _ s hs]), sumN_const]
theorem sumL_same {l : List ByteArray} {f : ByteArray → Nat} {a : Nat} (h : ∀ x ∈ l, f x = a) : sumL l f = l.length * a := by
  induction l with
  | nil => simp [sumL_nil]
  | cons b l ih =>
    rw [sumL_cons, h b (List.mem_cons_self ..), ih (fun x hx => h x (List.mem_cons_of_mem _ hx)), List.length_cons, Nat.succ_mul]; omega
/-- Words of up to five letters can be asked for. -/
theorem fits_word {k n m : Nat} {o x : ByteArray} (ok : CodeOk k n o) (hm : m ≤ 5) (hx : x ∈ allW k m) : fitsB (k : Int) (n : Int) o x = true := by
  have h1 := allW_size k m x hx
  have h2 := allW_all ok.k3 m x hx
  have k2 := ok.k2
  have k3 := ok.k3
  unfold fitsB appOk isW
  rw [code_is ok, h2, decide_eq_true (show (1 : Int) ≤ (k : Int) by omega), decide_eq_true (show (k : Int) ≤ 3 by omega), decide_eq_true (show x.size ≤ 16 by omega), decide_eq_true (show x.size ≤ 8 by omega)]; rfl
theorem count_word {k n m : Nat} {o x : ByteArray} (ok : CodeOk k n o) (hm : m ≤ 5) (hx : x ∈ allW k m) : countS (k : Int) (n : Int) o x = ((srcN k (k ^ (n - 1)) (outC o) (lw x) : Nat) : Int) := by
  rw [countS_yes (fits_word ok hm hx), srcs_count ok (allW_all ok.k3 m x hx)]
/-- All as many as a: a is the number of the states. -/
theorem same_count {k n m : Nat} {o : ByteArray} (ok : CodeOk k n o) (hm : m ≤ 5) {a : Int} (h : ∀ x ∈ allW k m, countS (k : Int) (n : Int) o x = a) : a = ((k ^ (n - 1) : Nat) : Int) := by
  have k2 := ok.k2
  have hp : 0 < k ^ m := Nat.pow_pos (by omega)
  have hq : 0 < k ^ (n - 1) := Nat.pow_pos (by omega)
  have hl := allW_length k m
  have h0 : 0 < (allW k m).length := by rw [hl]; exact hp
  have hx := List.getElem_mem h0
  have ha := h _ hx
  rw [count_word ok hm hx] at ha
  subst ha
  have hs : ∀ x ∈ allW k m, srcN k (k ^ (n - 1)) (outC o) (lw x) = srcN k (k ^ (n - 1)) (outC o) (lw (allW k m)[0]) := fun x hx' => by
    have := h x hx'
    rw [count_word ok hm hx'] at this
    exact Int.ofNat_inj.1 this
  have h1 := sumL_same (f := fun x => srcN k (k ^ (n - 1)) (outC o) (lw x)) hs
  rw [sumL_over ok.k3 m (srcN k (k ^ (n - 1)) (outC o)), src_total (outC_lt ok) hq, hl, Nat.mul_comm] at h1
  rw [← Nat.eq_of_mul_eq_mul_left hp h1]
/-- What IsBalanced answers. -/
def balB (K N : Int) (o : ByteArray) (m : Int) : Bool := (isCodeB K N o && (decide (0 ≤ m) && decide (m ≤ 5))) && (allW K.toNat m.toNat).all fun x => countS K N o x == ((K.toNat ^ (N.toNat - 1) : Nat) : Int)
theorem bal_no {K N : Int} {o : ByteArray} {m : Int} (h : isCodeB K N o = false) : balB K N o m = false := by unfold balB; rw [h]; rfl
theorem bal_out {K N : Int} {o : ByteArray} {m : Int} (h : ¬ (0 ≤ m ∧ m ≤ 5)) : balB K N o m = false := by
  unfold balB
  have e : (decide (0 ≤ m) && decide (m ≤ 5)) = false := by
    rw [← Bool.not_eq_true, Bool.and_eq_true, decide_eq_true_iff, decide_eq_true_iff]; exact h
  rw [e, Bool.and_false, Bool.false_and]
theorem bal_yes {k n m : Nat} {o : ByteArray} (ok : CodeOk k n o) (hm : m ≤ 5) : balB (k : Int) (n : Int) o (m : Int) = (allW k m).all fun x => countS (k : Int) (n : Int) o x == ((k ^ (n - 1) : Nat) : Int) := by
  unfold balB
  rw [code_is ok, decide_eq_true (show (0 : Int) ≤ (m : Int) by omega), decide_eq_true (show (m : Int) ≤ 5 by omega), Int.toNat_natCast, Int.toNat_natCast, Int.toNat_natCast, Bool.and_self, Bool.and_self, Bool.true_and]
/-- As many as the first: the same. -/
theorem bal_first {k n m : Nat} {o : ByteArray} (ok : CodeOk k n o) (hm : m ≤ 5) : balB (k : Int) (n : Int) o (m : Int) = (allW k m).all fun x => countS (k : Int) (n : Int) o x == countS (k : Int) (n : Int) o ((allW k m).getD 0 ByteArray.empty) := by
  have hp : 0 < (allW k m).length := by rw [allW_length]; exact Nat.pow_pos (by have := ok.k2; omega)
  have e0 : (allW k m).getD 0 ByteArray.empty ∈ allW k m := by rw [List.getD_eq_getElem?_getD, List.getElem?_eq_getElem hp]; exact List.getElem_mem hp
  rw [bal_yes ok hm, Bool.eq_iff_iff, List.all_eq_true, List.all_eq_true]
  constructor
  · intro h x hx
    have h1 := h x hx
    have h2 := h _ e0
    rw [beq_iff_eq] at h1 h2 ⊢
    rw [h1, h2]
  · intro h x hx
    have h3 := same_count ok hm (fun y hy => by have := h y hy; rwa [beq_iff_eq] at this)
    have h1 := h x hx
    rw [beq_iff_eq] at h1 ⊢
    rw [h1, h3]
end Go.Proofs.Ytcoiodfggaanbaa
