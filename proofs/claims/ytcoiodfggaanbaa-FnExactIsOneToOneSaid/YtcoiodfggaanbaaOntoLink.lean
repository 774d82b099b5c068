/-
  PLAIN FACTS ON CODES THAT ARE ONTO, FROM BYTES TO STATES (no program in this text): a word's letters as numbers, its place among all words, and that what a code makes of a word is what is given through the states.
-/
import Derived.Test.YtcoiodfggaanbaaOntoRun
namespace Go.Proofs.Ytcoiodfggaanbaa
open Go

/-- Letters as numbers. -/
def lw (w : ByteArray) : List Nat := w.data.toList.map fun b => b.toNat - 97
def outC (o : ByteArray) (p : Nat) : Nat := (byteAt o p).toNat - 97
/-- The number that letters are, read as digits. -/
def valL (k : Nat) (l : List Nat) : Nat := l.foldl (fun a x => a * k + x) 0
theorem lw_length (w : ByteArray) : (lw w).length = w.size := by unfold lw; rw [List.length_map, ba_len]
theorem lw_let {k : Nat} {w : ByteArray} (h : w.data.toList.all (isL (k : Int)) = true) : LetW k (lw w) := by
  intro c hc
  unfold lw at hc
  rw [List.mem_map] at hc
  obtain ⟨b, hb, rfl⟩ := hc
  exact (digit_lt (List.all_eq_true.1 h b hb)).2
theorem outC_lt {k n : Nat} {o : ByteArray} (h : CodeOk k n o) (p : Nat) : outC o p < k := by
  unfold outC
  by_cases hp : p < o.size
  · exact (digit_lt (byteAt_all h.all hp)).2
  · have e : byteAt o p = 0 := by
      unfold byteAt
      rw [List.getD_eq_getElem?_getD, List.getElem?_eq_none (by rw [ba_len]; omega)]; rfl
    rw [e]
    have := h.k2
    show 0 - 97 < k
    omega
theorem valL_snoc (k : Nat) (l : List Nat) (x : Nat) : valL k (l ++ [x]) = valL k l * k + x := by
  unfold valL; rw [List.foldl_append]; rfl
theorem fold_from (k : Nat) : ∀ (l : List Nat) (a : Nat), l.foldl (fun a x => a * k + x) a = a * k ^ l.length + valL k l
  | [], a => by simp [valL]
  | x :: l, a => by
    unfold valL
    rw [List.foldl_cons, List.foldl_cons, fold_from k l, fold_from k l (0 * k + x), List.length_cons, Nat.pow_succ, Nat.zero_mul, Nat.zero_add, Nat.add_mul, Nat.mul_assoc, Nat.mul_comm k, Nat.add_assoc]
theorem valL_cons (k x : Nat) (l : List Nat) : valL k (x :: l) = x * k ^ l.length + valL k l := by
  have h := fold_from k l (0 * k + x)
  rw [Nat.zero_mul, Nat.zero_add] at h
  unfold valL
  rw [List.foldl_cons, Nat.zero_mul, Nat.zero_add, h]; rfl
theorem valL_lt {k : Nat} : ∀ {l : List Nat}, LetW k l → valL k l < k ^ l.length
  | [], _ => by simp [valL]
  | x :: l, h => by
    have hx := h x (List.mem_cons_self ..)
    have ih := valL_lt (l := l) (fun c hc => h c (List.mem_cons_of_mem _ hc))
    rw [valL_cons, List.length_cons, Nat.pow_succ, Nat.mul_comm (k ^ l.length)]
    have h1 : (x + 1) * k ^ l.length ≤ k * k ^ l.length := Nat.mul_le_mul_right _ hx
    rw [Nat.add_mul, Nat.one_mul] at h1
    omega
theorem byteAt_lw (x : ByteArray) (i : Nat) : (byteAt x i).toNat - 97 = (lw x).getD i 0 := by
  unfold byteAt lw
  rw [List.getD_eq_getElem?_getD, List.getD_eq_getElem?_getD, List.getElem?_map]
  cases x.data.toList[i]? with
  | none => rfl
  | some b => rfl
theorem idxTo_val (k : Nat) (x : ByteArray) : ∀ i, i ≤ x.size → idxTo k x i = valL k ((lw x).take i)
  | 0, _ => rfl
  | i + 1, h => by
    have hl : i < (lw x).length := by rw [lw_length]; omega
    rw [idxTo, idxTo_val k x i (by omega), List.take_succ_eq_append_getElem hl, valL_snoc, byteAt_lw, List.getD_eq_getElem?_getD, List.getElem?_eq_getElem hl]; rfl
theorem idxB_val (k : Nat) (x : ByteArray) : idxB k x = valL k (lw x) := by
  unfold idxB
  rw [idxTo_val k x _ (Nat.le_refl _), ← lw_length, List.take_length]
theorem lw_extract (w : ByteArray) (i j : Nat) : lw (w.extract i j) = ((lw w).drop i).take (j - i) := by
  unfold lw
  rw [ba_extract, List.map_take, List.map_drop]
/-- What is given through the states, place by place. -/
theorem run_places {k m : Nat} {out : Nat → Nat} : ∀ (ys a : List Nat), a.length = m → LetW k a → LetW k ys →
    runL k (k ^ m) out (valL k a) ys = (List.range ys.length).map fun i => out (valL k (((a ++ ys).drop i).take (m + 1)))
  | [], a, _, _, _ => rfl
  | x :: ys, a, ha, la, ly => by
    have hx : x < k := ly x (List.mem_cons_self ..)
    have lys : LetW k ys := fun c hc => ly c (List.mem_cons_of_mem _ hc)
    have lax : LetW k (a ++ [x]) := LetW.append la (fun c hc => by rw [List.mem_singleton] at hc; subst hc; exact hx)
    have hd : ((a ++ [x]).drop 1).length = m := by rw [List.length_drop, List.length_append, ha]; simp
    have ld : LetW k ((a ++ [x]).drop 1) := fun c hc => lax c (List.mem_of_mem_drop hc)
    have es : (valL k a * k + x) % k ^ m = valL k ((a ++ [x]).drop 1) := by
      rw [← valL_snoc]
      match h : a ++ [x] with
      | [] => exact absurd h (by simp)
      | c :: l =>
        rw [h] at hd ld
        rw [List.drop_one, List.tail_cons] at hd ld ⊢
        rw [valL_cons, hd, Nat.mul_comm c, Nat.mul_add_mod]
        have hlt := valL_lt ld
        rw [hd] at hlt
        exact Nat.mod_eq_of_lt hlt
    have ih := run_places (out := out) ys ((a ++ [x]).drop 1) hd ld lys
    show out (valL k a * k + x) :: runL k (k ^ m) out ((valL k a * k + x) % k ^ m) ys = _
    rw [es, ih, List.length_cons, List.range_succ_eq_map, List.map_cons, List.map_map]
    congr 1
    · rw [← valL_snoc, List.drop_zero]
      congr 2
      rw [List.take_append, List.take_of_length_le (by omega), ha, Nat.add_sub_cancel_left]; rfl
    · refine List.map_congr_left fun i _ => ?_
      show out (valL k ((((a ++ [x]).drop 1 ++ ys).drop i).take (m + 1))) = out (valL k (((a ++ x :: ys).drop (i + 1)).take (m + 1)))
      have e : (a ++ x :: ys).drop (i + 1) = ((a ++ [x]).drop 1 ++ ys).drop i := by
        have e1 : a ++ x :: ys = (a ++ [x]) ++ ys := by simp
        rw [e1, Nat.add_comm i 1, ← List.drop_drop, List.drop_append_of_le_length (l₁ := a ++ [x]) (by rw [List.length_append]; simp)]
      rw [e]
/-- What a code makes of a word that is not shorter than its states. -/
theorem applied_run {k n : Nat} {o v : ByteArray} (ok : CodeOk k n o) (hv : n - 1 ≤ v.size) (ha : v.data.toList.all (isL (k : Int)) = true) :
    lw (applied k n o v) = runL k (k ^ (n - 1)) (outC o) (valL k ((lw v).take (n - 1))) ((lw v).drop (n - 1)) := by
  have hl := lw_let ha
  have hlen := lw_length v
  have n1 := ok.n1
  rw [run_places _ _ (by rw [List.length_take]; omega) (fun c hc => hl c (List.mem_of_mem_take hc)) (fun c hc => hl c (List.mem_of_mem_drop hc)), List.take_append_drop, List.length_drop, hlen]
  unfold applied lw
  rw [appTo_data, List.map_map, show v.size - (n - 1) = v.size + 1 - n by omega]
  refine List.map_congr_left fun i hi => ?_
  rw [List.mem_range] at hi
  show (byteAt o (idxB k (v.extract i (i + n)))).toNat - 97 = outC o _
  unfold outC
  rw [idxB_val, lw_extract, Nat.add_sub_cancel_left, show n - 1 + 1 = n by omega]
  rfl
end Go.Proofs.Ytcoiodfggaanbaa
