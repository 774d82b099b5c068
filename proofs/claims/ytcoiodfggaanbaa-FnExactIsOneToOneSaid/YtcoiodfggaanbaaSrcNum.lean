/-
  PLAIN FACTS ON THE SOURCES OF A WORD, LISTED (no program in this text): the words that a code takes to a word, letter by letter; how many there are is what is counted through the states, and the first of them is the least completion.
-/
import Derived.Test.YtcoiodfggaanbaaOntoLink
import Derived.Test.YtcoiodfggaanbaaFirstNum
namespace Go.Proofs.Ytcoiodfggaanbaa
open Go Go.RowKit

/-- What the code gives for the part of v at i is not the letter of w there. -/
def hitB (k n : Nat) (o w : ByteArray) (i : Nat) (v : ByteArray) : Bool := !((applied k n o (v.extract i v.size)).toList == (w.extract i (i + 1)).toList)
/-- The words for which the code gives the first i letters of w. -/
def srcs (k n : Nat) (o w : ByteArray) : Nat → List ByteArray
  | 0 => allW k (n - 1)
  | i + 1 => (longer (srcs k n o w i) k).filter fun v => !hitB k n o w i v

/-! ### Sums over lists of words -/
def sumL (l : List ByteArray) (f : ByteArray → Nat) : Nat := (l.map f).sum
theorem sumL_nil (f : ByteArray → Nat) : sumL [] f = 0 := rfl
theorem sumL_cons (a : ByteArray) (l : List ByteArray) (f : ByteArray → Nat) : sumL (a :: l) f = f a + sumL l f := by unfold sumL; rw [List.map_cons, List.sum_cons]
theorem sumL_append (l m : List ByteArray) (f : ByteArray → Nat) : sumL (l ++ m) f = sumL l f + sumL m f := by unfold sumL; rw [List.map_append, List.sum_append]
theorem sumL_congr {l : List ByteArray} {f g : ByteArray → Nat} (h : ∀ x ∈ l, f x = g x) : sumL l f = sumL l g := by unfold sumL; rw [List.map_congr_left h]
theorem sumL_one (l : List ByteArray) : sumL l (fun _ => 1) = l.length := by
  induction l with
  | nil => rfl
  | cons a l ih => rw [sumL_cons, ih, List.length_cons]; omega
theorem sumL_filter (p : ByteArray → Bool) (f : ByteArray → Nat) : ∀ l : List ByteArray, sumL (l.filter p) f = sumL l fun x => if p x = true then f x else 0
  | [] => rfl
  | a :: l => by
    rw [sumL_cons]
    cases h : p a with
    | true => rw [List.filter_cons_of_pos h, sumL_cons, sumL_filter p f l]; simp
    | false => rw [List.filter_cons_of_neg (by rw [h]; simp), sumL_filter p f l]; simp
theorem sumL_range (g : Nat → ByteArray) (f : ByteArray → Nat) : ∀ k, sumL ((List.range k).map g) f = sumN k fun x => f (g x)
  | 0 => rfl
  | k + 1 => by rw [List.range_succ, List.map_append, sumL_append, sumL_range g f k, sumN, List.map_singleton, sumL_cons, sumL_nil, Nat.add_zero]
theorem sumL_longer (k : Nat) (f : ByteArray → Nat) : ∀ l : List ByteArray, sumL (longer l k) f = sumL l fun v => sumN k fun x => f (v ++ letterB x)
  | [] => rfl
  | a :: l => by
    have e : longer (a :: l) k = ((List.range k).map fun j => a ++ letterB j) ++ longer l k := rfl
    rw [e, sumL_append, sumL_range, sumL_cons, sumL_longer k f l]

/-! ### Letters and states -/
theorem lw_append (u v : ByteArray) : lw (u ++ v) = lw u ++ lw v := by unfold lw; rw [ba_append, List.map_append]
theorem lw_letter {k x : Nat} (hk : k ≤ 3) (hx : x < k) : lw (letterB x) = [x] := by
  have h : (UInt8.ofNat (97 + x)).toNat = 97 + x := by simp; omega
  show [(UInt8.ofNat (97 + x)).toNat - 97] = [x]
  rw [h]; congr 1; omega
/-- The place of the last letters, from i on. -/
def stW (k : Nat) (v : ByteArray) (i : Nat) : Nat := valL k ((lw v).drop i)
/-- Over all words of n letters: over all places. -/
theorem sumL_all {k : Nat} (hk : k ≤ 3) (g : Nat → Nat) : ∀ n, sumL (allW k n) (fun v => g (valL k (lw v))) = sumN (k ^ n) g
  | 0 => by
    show sumL [ByteArray.empty] _ = _
    rw [sumL_cons, sumL_nil, Nat.pow_zero]
    show g (valL k []) + 0 = 0 + g 0
    simp [valL]
  | n + 1 => by
    rw [allW, sumL_longer, Nat.pow_succ, sumN_prod, ← sumL_all hk (fun s => sumN k fun t => g (s * k + t)) n]
    refine sumL_congr fun v hv => sumN_congr k fun x hx => ?_
    rw [lw_append, lw_letter hk hx, valL_snoc]
section
variable {k n : Nat} {o w : ByteArray}
/-- What is in the list: words of the letters, so long, for each place of which the code gives the letter. -/
theorem srcs_size (n1 : 1 ≤ n) : ∀ i, ∀ v ∈ srcs k n o w i, v.size = n - 1 + i
  | 0 => fun v hv => by rw [allW_size k _ v hv]; rfl
  | i + 1 => fun v hv => by
    rw [srcs] at hv
    have := longer_size (srcs_size n1 i) v (List.mem_filter.1 hv).1
    omega
theorem longer_all {ws : List ByteArray} (hk : k ≤ 3) (h : ∀ x ∈ ws, x.data.toList.all (isL (k : Int)) = true) : ∀ x ∈ longer ws k, x.data.toList.all (isL (k : Int)) = true := by
  intro x hx
  rw [longer, List.mem_flatMap] at hx
  obtain ⟨w, hw, hx⟩ := hx
  rw [List.mem_map] at hx
  obtain ⟨j, hj, rfl⟩ := hx
  rw [ba_append, List.all_append, h w hw]
  show (true && [UInt8.ofNat (97 + j)].all _) = true
  simp only [Bool.true_and, List.all_cons, List.all_nil, Bool.and_true]
  exact letterB_all hk (List.mem_range.1 hj)
theorem srcs_all (hk : k ≤ 3) : ∀ i, ∀ v ∈ srcs k n o w i, v.data.toList.all (isL (k : Int)) = true
  | 0 => fun v hv => allW_all hk _ v hv
  | i + 1 => fun v hv => longer_all hk (srcs_all hk i) v (List.mem_filter.1 (by rw [srcs] at hv; exact hv)).1
/-- The letter that is given, by its number. -/
theorem hit_is (ok : CodeOk k n o) (hw : w.data.toList.all (isL (k : Int)) = true) {i : Nat} (hi : i < w.size) {v : ByteArray} (hv : v.size = i + n) (ha : v.data.toList.all (isL (k : Int)) = true) :
    hitB k n o w i v = !decide (outC o (valL k ((lw v).drop i)) = (lw w).getD i 0) := by
  have e1 : v.extract i v.size = v.extract i (i + n) := by rw [hv]
  have hs : (v.extract i (i + n)).size = n := cut_size (by omega)
  have hp : idxB k (v.extract i (i + n)) = valL k ((lw v).drop i) := by
    rw [idxB_val, lw_extract, List.take_of_length_le (by rw [List.length_drop, lw_length]; omega)]
  unfold hitB
  rw [e1, applied_one hs, extract_one hi, ba_same]
  congr 1
  have hd1 := digit_lt (letterC_all ok hs (extract_all ha _ _))
  have hd2 := digit_lt (byteAt_all hw hi)
  have hb : (byteAt w i).toNat - 97 = (lw w).getD i 0 := byteAt_lw w i
  have hc : (letterC k o (v.extract i (i + n))).toNat - 97 = outC o (valL k ((lw v).drop i)) := by
    unfold letterC outC; rw [hp]
  rw [← hb, ← hc]
  generalize letterC k o (v.extract i (i + n)) = a at *
  generalize byteAt w i = b at *
  by_cases h : a = b
  · subst h; simp
  · have h2 : a.toNat ≠ b.toNat := fun e => h (UInt8.toNat_inj.1 e)
    rw [decide_eq_false, decide_eq_false (by omega)]
    intro e
    have := congrArg (fun z : ByteArray => z.data.toList) e
    simp [oneB] at this
    exact h this
/-- Sums over what is left of the word: nothing is lost by a step. -/
theorem srcs_step (ok : CodeOk k n o) (hw : w.data.toList.all (isL (k : Int)) = true) {i : Nat} (hi : i < w.size) (f : Nat → Nat) :
    sumL (srcs k n o w (i + 1)) (fun v => f (stW k v (i + 1))) = sumL (srcs k n o w i) fun v => stepL k (k ^ (n - 1)) (outC o) ((lw w).getD i 0) f (stW k v i) := by
  have n1 := ok.n1
  rw [srcs, sumL_filter, sumL_longer]
  refine sumL_congr fun v hv => sumN_congr k fun x hx => ?_
  have hvs := srcs_size n1 i v hv
  have hva := srcs_all ok.k3 i v hv
  have hxs : (v ++ letterB x).size = i + n := by rw [ByteArray.size_append, hvs, letterB_size]; omega
  have hxa : (v ++ letterB x).data.toList.all (isL (k : Int)) = true := longer_all ok.k3 (ws := [v]) (fun y hy => by rw [List.mem_singleton] at hy; subst hy; exact hva) _ (by
    rw [longer, List.mem_flatMap]
    exact ⟨v, List.mem_singleton.2 rfl, List.mem_map.2 ⟨x, List.mem_range.2 hx, rfl⟩⟩)
  have hl : lw (v ++ letterB x) = lw v ++ [x] := by rw [lw_append, lw_letter ok.k3 hx]
  have hln : (lw v).length = n - 1 + i := by rw [lw_length, hvs]
  have e1 : (lw (v ++ letterB x)).drop i = (lw v).drop i ++ [x] := by rw [hl, List.drop_append_of_le_length (by omega)]
  have e2 : valL k ((lw (v ++ letterB x)).drop i) = stW k v i * k + x := by rw [e1, valL_snoc]; rfl
  have ld : LetW k ((lw (v ++ letterB x)).drop i) := fun c hc => lw_let hxa c (List.mem_of_mem_drop hc)
  have e3 : stW k (v ++ letterB x) (i + 1) = (stW k v i * k + x) % k ^ (n - 1) := by
    rw [← e2]
    unfold stW
    rw [← List.drop_drop]
    have hld : ((lw (v ++ letterB x)).drop i).length = n := by rw [List.length_drop, lw_length, hxs]; omega
    match h : (lw (v ++ letterB x)).drop i with
    | [] => rw [h] at hld; simp at hld; omega
    | c :: l =>
      rw [h] at hld ld
      rw [List.length_cons] at hld
      rw [List.drop_one, List.tail_cons, valL_cons, show l.length = n - 1 by omega, Nat.mul_comm c, Nat.mul_add_mod]
      have hlt := valL_lt (l := l) (fun d hd => ld d (List.mem_cons_of_mem _ hd))
      rw [show l.length = n - 1 by omega] at hlt
      exact (Nat.mod_eq_of_lt hlt).symm
  rw [hit_is ok hw hi hxs hxa, e2, e3]
  by_cases h : outC o (stW k v i * k + x) = (lw w).getD i 0
  · rw [decide_eq_true h, if_pos h]; simp
  · rw [decide_eq_false h, if_neg h]; simp
/-- All sources of a word: as many as are counted through the states. -/
theorem srcs_count (ok : CodeOk k n o) (hw : w.data.toList.all (isL (k : Int)) = true) : (srcs k n o w w.size).length = srcN k (k ^ (n - 1)) (outC o) (lw w) := by
  have hlw := lw_length w
  have h : ∀ j, j ≤ w.size → sumL (srcs k n o w j) (fun v => wordL k (k ^ (n - 1)) (outC o) ((lw w).drop j) (fun _ => 1) (stW k v j)) = srcN k (k ^ (n - 1)) (outC o) (lw w) := by
    intro j
    induction j with
    | zero =>
      intro _
      show sumL (allW k (n - 1)) (fun v => wordL k (k ^ (n - 1)) (outC o) (lw w) (fun _ => 1) (valL k (lw v))) = _
      exact sumL_all ok.k3 _ _
    | succ j ih =>
      intro hj
      rw [← ih (by omega), srcs_step ok hw (by omega) (wordL k (k ^ (n - 1)) (outC o) ((lw w).drop (j + 1)) fun _ => 1)]
      refine sumL_congr fun v _ => ?_
      have e : (lw w).drop j = (lw w).getD j 0 :: (lw w).drop (j + 1) := by
        rw [List.drop_eq_getElem_cons (by omega), List.getD_eq_getElem?_getD, List.getElem?_eq_getElem (by omega)]; rfl
      rw [e, wordL]
  have h1 := h w.size (Nat.le_refl _)
  rw [← h1, ← sumL_one]
  refine sumL_congr fun v _ => ?_
  rw [List.drop_of_length_le (by omega)]; rfl
/-- How many there can be on the way. -/
theorem srcs_le (k2 : 1 ≤ k) : ∀ i, (srcs k n o w i).length ≤ k ^ (n - 1 + i)
  | 0 => by rw [srcs, allW_length, Nat.add_zero]; exact Nat.le_refl _
  | i + 1 => by
    rw [srcs]
    refine Nat.le_trans (List.length_filter_le _ _) ?_
    rw [longer_length, ← Nat.add_assoc, Nat.pow_succ]
    exact Nat.mul_le_mul_right _ (srcs_le k2 i)
end
end Go.Proofs.Ytcoiodfggaanbaa
