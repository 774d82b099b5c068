/-
  PLAIN FACTS ON CODES (no program in this text): which numbers and letters are a code, the place of a word among all words of its length, the letters that a code gives, a word's letters on a ring, a code that is written out word by word.
-/
import Derived.Test.YtcoiodfggaanbaaWordNum
namespace Go.Proofs.Ytcoiodfggaanbaa
open Go Go.RowKit

/-! ### Bytes -/
def byteAt (o : ByteArray) (i : Nat) : UInt8 := o.data.toList.getD i 0
theorem byteAt_is {o : ByteArray} {i : Nat} (h : i < o.size) : byteAt o i = o[i] := by
  unfold byteAt
  rw [List.getD_eq_getElem?_getD, List.getElem?_eq_getElem (show i < o.data.toList.length from h)]
  rfl
def oneB (b : UInt8) : ByteArray := ⟨#[b]⟩
theorem oneB_size (b : UInt8) : (oneB b).size = 1 := rfl
theorem extract_one {o : ByteArray} {i : Nat} (h : i < o.size) : o.extract i (i + 1) = oneB (byteAt o i) := by
  apply ba_ext
  rw [ba_extract, Nat.add_sub_cancel_left]
  have hl : i < o.data.toList.length := h
  rw [List.drop_eq_getElem_cons hl, List.take_succ_cons, List.take_zero]
  show [_] = [byteAt o i]
  rw [byteAt_is h]; rfl
theorem extract_all {o : ByteArray} {p : UInt8 → Bool} (h : o.data.toList.all p = true) (i j : Nat) : (o.extract i j).data.toList.all p = true := by
  rw [ba_extract, List.all_eq_true]
  rw [List.all_eq_true] at h
  exact fun x hx => h x (List.mem_of_mem_drop (List.mem_of_mem_take hx))
theorem cut_size {o : ByteArray} {i n : Nat} (h : i + n ≤ o.size) : (o.extract i (i + n)).size = n := by rw [ByteArray.size_extract]; omega
theorem byteAt_all {o : ByteArray} {p : UInt8 → Bool} (h : o.data.toList.all p = true) {i : Nat} (hi : i < o.size) : p (byteAt o i) = true := by
  rw [byteAt_is hi]
  rw [List.all_eq_true] at h
  exact h _ (List.getElem_mem (l := o.data.toList) hi)
theorem oneB_all {p : UInt8 → Bool} {b : UInt8} (h : p b = true) : (oneB b).data.toList.all p = true := by simp [oneB, h]

/-! ### Places of words -/
def idxTo (k : Nat) (x : ByteArray) : Nat → Nat
  | 0 => 0
  | i + 1 => idxTo k x i * k + ((byteAt x i).toNat - 97)
def idxB (k : Nat) (x : ByteArray) : Nat := idxTo k x x.size
theorem digit_lt {k : Nat} {b : UInt8} (h : isL (k : Int) b = true) : 97 ≤ b.toNat ∧ b.toNat - 97 < k := by
  unfold isL at h
  simp only [Bool.and_eq_true, decide_eq_true_eq] at h
  omega
theorem idxTo_lt {k : Nat} {x : ByteArray} (hx : x.data.toList.all (isL (k : Int)) = true) : ∀ i, i ≤ x.size → idxTo k x i < k ^ i
  | 0, _ => by simp [idxTo]
  | i + 1, h => by
    have ih := idxTo_lt hx i (by omega)
    have hd := digit_lt (byteAt_all hx (i := i) (by omega))
    rw [idxTo, Nat.pow_succ]
    have h1 : (idxTo k x i + 1) * k ≤ k ^ i * k := Nat.mul_le_mul_right _ ih
    rw [Nat.succ_mul] at h1
    omega
theorem idxB_lt {k : Nat} {x : ByteArray} (hx : x.data.toList.all (isL (k : Int)) = true) : idxB k x < k ^ x.size := idxTo_lt hx _ (Nat.le_refl _)

/-! ### Codes -/
/-- There are codes with k letters and words of length n. -/
def codeForm (k n : Int) : Bool := ((decide (2 ≤ k) && decide (k ≤ 3)) && (decide (1 ≤ n) && decide (n ≤ 4))) && decide (k.toNat ^ n.toNat ≤ 27)
def isCodeB (k n : Int) (o : ByteArray) : Bool := (codeForm k n && decide (o.size = k.toNat ^ n.toNat)) && o.data.toList.all (isL k)
structure FormOk (k n : Nat) : Prop where
  k2 : 2 ≤ k
  k3 : k ≤ 3
  n1 : 1 ≤ n
  n4 : n ≤ 4
  le : k ^ n ≤ 27
structure CodeOk (k n : Nat) (o : ByteArray) : Prop extends FormOk k n where
  len : o.size = k ^ n
  all : o.data.toList.all (isL (k : Int)) = true
theorem formOk_of {K N : Int} (h : codeForm K N = true) : ∃ k n : Nat, K = (k : Int) ∧ N = (n : Int) ∧ FormOk k n := by
  unfold codeForm at h
  simp only [Bool.and_eq_true, decide_eq_true_eq] at h
  obtain ⟨⟨⟨h1, h2⟩, h3, h4⟩, h5⟩ := h
  obtain ⟨k, rfl⟩ := Int.eq_ofNat_of_zero_le (show 0 ≤ K by omega)
  obtain ⟨n, rfl⟩ := Int.eq_ofNat_of_zero_le (show 0 ≤ N by omega)
  exact ⟨k, n, rfl, rfl, by omega, by omega, by omega, by omega, by simpa using h5⟩
theorem form_is {k n : Nat} (h : FormOk k n) : codeForm (k : Int) (n : Int) = true := by
  have h5 := h.le
  have := h.k2; have := h.k3; have := h.n1; have := h.n4
  unfold codeForm
  simp only [Bool.and_eq_true, decide_eq_true_eq, Int.toNat_natCast]
  omega
theorem form_no {k n : Nat} (h : ¬ FormOk k n) : codeForm (k : Int) (n : Int) = false := by
  rw [← Bool.not_eq_true]
  intro e
  obtain ⟨k', n', e1, e2, ok⟩ := formOk_of e
  obtain rfl : k' = k := by omega
  obtain rfl : n' = n := by omega
  exact h ok
theorem codeOk_of {K N : Int} {o : ByteArray} (h : isCodeB K N o = true) : ∃ k n : Nat, K = (k : Int) ∧ N = (n : Int) ∧ CodeOk k n o := by
  unfold isCodeB at h
  simp only [Bool.and_eq_true] at h
  obtain ⟨⟨h1, h2⟩, h3⟩ := h
  obtain ⟨k, n, rfl, rfl, ok⟩ := formOk_of h1
  exact ⟨k, n, rfl, rfl, ⟨ok, by simpa using h2, h3⟩⟩
theorem code_is {k n : Nat} {o : ByteArray} (h : CodeOk k n o) : isCodeB (k : Int) (n : Int) o = true := by
  unfold isCodeB
  rw [form_is h.toFormOk, h.all, h.len]
  simp
theorem code_none (k n : Int) (o : ByteArray) (h : codeForm k n = false) : isCodeB k n o = false := by
  unfold isCodeB; rw [h]; rfl
theorem code_form {k n : Int} {o : ByteArray} (h : isCodeB k n o = true) : codeForm k n = true := by
  unfold isCodeB at h
  simp only [Bool.and_eq_true] at h
  exact h.1.1
theorem pow_low {k n : Nat} (h1 : 2 ≤ k) (h3 : k ≤ 3) (h4 : n ≤ 4) : k ^ n ≤ 81 := by
  have hk : k = 2 ∨ k = 3 := by omega
  have hn : n = 0 ∨ n = 1 ∨ n = 2 ∨ n = 3 ∨ n = 4 := by omega
  rcases hk with rfl | rfl <;> rcases hn with rfl | rfl | rfl | rfl | rfl <;> decide
theorem FormOk.three {k n : Nat} (h : FormOk k n) : k ^ n ≤ 729 := Nat.le_trans h.le (by decide)

/-! ### What a code gives -/
/-- The letter that a code gives to a word. -/
def letterC (k : Nat) (o x : ByteArray) : UInt8 := byteAt o (idxB k x)
/-- The first i letters that a code gives to a word's parts. -/
def appTo (k n : Nat) (o w : ByteArray) (i : Nat) : ByteArray := ⟨((List.range i).map fun j => letterC k o (w.extract j (j + n))).toArray⟩
def applied (k n : Nat) (o w : ByteArray) : ByteArray := appTo k n o w (w.size + 1 - n)
theorem appTo_data (k n : Nat) (o w : ByteArray) (i : Nat) : (appTo k n o w i).data.toList = (List.range i).map fun j => letterC k o (w.extract j (j + n)) := by simp [appTo]
theorem appTo_zero (k n : Nat) (o w : ByteArray) : appTo k n o w 0 = ByteArray.empty := rfl
theorem appTo_next (k n : Nat) (o w : ByteArray) (i : Nat) : appTo k n o w (i + 1) = appTo k n o w i ++ oneB (letterC k o (w.extract i (i + n))) := by
  apply ba_ext
  rw [ba_append, appTo_data, appTo_data, List.range_succ, List.map_append]; rfl
theorem appTo_size (k n : Nat) (o w : ByteArray) (i : Nat) : (appTo k n o w i).size = i := by rw [← ba_len, appTo_data, List.length_map, List.length_range]
theorem applied_size (k n : Nat) (o w : ByteArray) : (applied k n o w).size = w.size + 1 - n := appTo_size _ _ _ _ _
theorem applied_one {k n : Nat} {o x : ByteArray} (h : x.size = n) : applied k n o x = oneB (letterC k o x) := by
  unfold applied
  rw [h, Nat.add_sub_cancel_left, appTo_next, appTo_zero, Nat.zero_add, ← h, ByteArray.extract_zero_size]
  exact ba_ext (by rw [ba_append]; rfl)
theorem letterC_ok {k n : Nat} {o x : ByteArray} (h : CodeOk k n o) (hx : x.size = n) (ha : x.data.toList.all (isL (k : Int)) = true) : idxB k x < o.size := by
  have := idxB_lt ha
  rw [hx] at this
  rw [h.len]; exact this
theorem letterC_all {k n : Nat} {o x : ByteArray} (h : CodeOk k n o) (hx : x.size = n) (ha : x.data.toList.all (isL (k : Int)) = true) : isL (k : Int) (letterC k o x) = true :=
  byteAt_all h.all (letterC_ok h hx ha)
theorem applied_all {k n : Nat} {o w : ByteArray} (h : CodeOk k n o) (ha : w.data.toList.all (isL (k : Int)) = true) : (applied k n o w).data.toList.all (isL (k : Int)) = true := by
  unfold applied
  rw [appTo_data, List.all_eq_true]
  intro b hb
  rw [List.mem_map] at hb
  obtain ⟨j, hj, rfl⟩ := hb
  rw [List.mem_range] at hj
  exact letterC_all h (cut_size (by omega)) (extract_all ha _ _)

/-- What ApplyCode answers. -/
def appOk (K N : Int) (o v : ByteArray) : Bool := isCodeB K N o && isW K v
def appS (K N : Int) (o v : ByteArray) : ByteArray := if appOk K N o v = true then applied K.toNat N.toNat o v else ByteArray.empty
theorem appOk_of {K N : Int} {o v : ByteArray} (h : appOk K N o v = true) : ∃ k n : Nat, K = (k : Int) ∧ N = (n : Int) ∧ CodeOk k n o ∧ v.size ≤ 16 ∧ v.data.toList.all (isL (k : Int)) = true := by
  unfold appOk at h
  rw [Bool.and_eq_true] at h
  obtain ⟨k, n, rfl, rfl, ok⟩ := codeOk_of h.1
  refine ⟨k, n, rfl, rfl, ok, isW_len h.2, ?_⟩
  have h2 := h.2
  unfold isW at h2
  rw [Bool.and_eq_true] at h2
  exact h2.2
theorem appS_yes {k n : Nat} {o v : ByteArray} (h : appOk (k : Int) (n : Int) o v = true) : appS (k : Int) (n : Int) o v = applied k n o v := by
  unfold appS; rw [if_pos h, Int.toNat_natCast, Int.toNat_natCast]
theorem appS_no {K N : Int} {o v : ByteArray} (h : appOk K N o v = false) : appS K N o v = ByteArray.empty := by
  unfold appS; rw [h]; rfl

/-! ### Rings -/
/-- A word, continued with itself by b letters. -/
def ringB (w : ByteArray) (b : Nat) : ByteArray := (timesB w (b + 1)).extract 0 (w.size + b)
theorem times_le {w : ByteArray} (b : Nat) (h : 0 < w.size) : b ≤ (timesB w b).size := by
  rw [timesB_size]; exact Nat.le_mul_of_pos_right _ h
theorem ringB_size {w : ByteArray} (b : Nat) (h : 0 < w.size) : (ringB w b).size = w.size + b := by
  have : b ≤ b * w.size := Nat.le_mul_of_pos_right _ h
  unfold ringB
  rw [ByteArray.size_extract, timesB_size, Nat.succ_mul]; omega
theorem ringB_cut (w : ByteArray) (b : Nat) : w ++ (timesB w b).extract 0 b = ringB w b := by
  apply ba_ext
  unfold ringB
  rw [ba_append, ba_extract, ba_extract, List.drop_zero, List.drop_zero, Nat.sub_zero, Nat.sub_zero, timesB_data, timesB_data, Nat.add_comm b 1, Lib.repeatL_add, Lib.repeatL_one, ← ba_len w, List.take_length_add_append]
theorem ringB_of {w : ByteArray} {m b : Nat} (h : w.size + b ≤ (timesB w m).size) (h0 : 0 < w.size) : (timesB w m).extract 0 (w.size + b) = ringB w b := by
  apply ba_ext
  have h2 : w.size + b ≤ (timesB w (b + 1)).size := by
    have : b ≤ b * w.size := Nat.le_mul_of_pos_right _ h0
    rw [timesB_size, Nat.succ_mul]; omega
  unfold ringB
  rw [ba_extract, ba_extract, List.drop_zero, List.drop_zero, Nat.sub_zero]
  rw [← ba_len (timesB w m), timesB_data] at h
  rw [← ba_len (timesB w (b + 1)), timesB_data] at h2
  rw [timesB_data, timesB_data]
  have e1 := List.take_append_of_le_length (l₂ := Lib.repeatL w.data.toList (b + 1)) h
  have e2 := List.take_append_of_le_length (l₂ := Lib.repeatL w.data.toList m) h2
  rw [← e1, ← e2, ← Lib.repeatL_add, ← Lib.repeatL_add, Nat.add_comm m]
theorem repeat_all {p : UInt8 → Bool} {l : List UInt8} (h : l.all p = true) (b : Nat) : (Lib.repeatL l b).all p = true := by
  induction b with
  | zero => simp [Lib.repeatL]
  | succ b ih => rw [Lib.repeatL_add, Lib.repeatL_one, List.all_append, ih, h]; rfl
theorem ringB_all {p : UInt8 → Bool} {w : ByteArray} (h : w.data.toList.all p = true) (b : Nat) : (ringB w b).data.toList.all p = true :=
  extract_all (by rw [timesB_data]; exact repeat_all h _) _ _

/-- What ApplyRing answers. -/
def ringOk (K N : Int) (o v : ByteArray) : Bool := appOk K N o v && decide (v.size ≠ 0)
def ringS (K N : Int) (o v : ByteArray) : ByteArray := if ringOk K N o v = true then applied K.toNat N.toNat o (ringB v (N.toNat - 1)) else ByteArray.empty
theorem ringS_yes {k n : Nat} {o v : ByteArray} (h : ringOk (k : Int) (n : Int) o v = true) : ringS (k : Int) (n : Int) o v = applied k n o (ringB v (n - 1)) := by
  unfold ringS; rw [if_pos h, Int.toNat_natCast, Int.toNat_natCast]
theorem ringS_no {K N : Int} {o v : ByteArray} (h : ringOk K N o v = false) : ringS K N o v = ByteArray.empty := by
  unfold ringS; rw [h]; rfl

/-! ### All words -/
theorem letterB_all {k j : Nat} (hk : k ≤ 3) (hj : j < k) : isL (k : Int) (UInt8.ofNat (97 + j)) = true := by
  have h : (UInt8.ofNat (97 + j)).toNat = 97 + j := by simp; omega
  unfold isL
  rw [h]
  simp only [Bool.and_eq_true, decide_eq_true_eq]
  omega
theorem allW_all {k : Nat} (hk : k ≤ 3) : ∀ n, ∀ x ∈ allW k n, x.data.toList.all (isL (k : Int)) = true
  | 0 => fun x hx => by
    rw [allW, List.mem_singleton] at hx
    subst hx; rfl
  | n + 1 => fun x hx => by
    rw [allW, longer, List.mem_flatMap] at hx
    obtain ⟨w, hw, hx⟩ := hx
    rw [List.mem_map] at hx
    obtain ⟨j, hj, rfl⟩ := hx
    rw [ba_append, List.all_append, allW_all hk n w hw]
    show (true && [UInt8.ofNat (97 + j)].all _) = true
    simp only [Bool.true_and, List.all_cons, List.all_nil, Bool.and_true]
    exact letterB_all hk (List.mem_range.1 hj)

/-! ### A code written out -/
/-- What F makes of the first i of the words, one behind the other. -/
def catTo (F : ByteArray → ByteArray) (ws : List ByteArray) (i : Nat) : ByteArray := ⟨((ws.take i).flatMap fun x => (F x).data.toList).toArray⟩
def catW (F : ByteArray → ByteArray) (ws : List ByteArray) : ByteArray := catTo F ws ws.length
theorem catTo_data (F : ByteArray → ByteArray) (ws : List ByteArray) (i : Nat) : (catTo F ws i).data.toList = (ws.take i).flatMap fun x => (F x).data.toList := by simp [catTo]
theorem catTo_zero (F : ByteArray → ByteArray) (ws : List ByteArray) : catTo F ws 0 = ByteArray.empty := rfl
theorem catTo_next (F : ByteArray → ByteArray) {ws : List ByteArray} {i : Nat} (h : i < ws.length) : catTo F ws (i + 1) = catTo F ws i ++ F (ws.getD i ByteArray.empty) := by
  apply ba_ext
  rw [ba_append, catTo_data, catTo_data, List.take_succ_eq_append_getElem h, List.flatMap_append, List.getD_eq_getElem?_getD, List.getElem?_eq_getElem h]
  simp
theorem catTo_size {F : ByteArray → ByteArray} {ws : List ByteArray} (hF : ∀ x ∈ ws, (F x).size = 1) : ∀ {i : Nat}, i ≤ ws.length → (catTo F ws i).size = i
  | 0, _ => rfl
  | i + 1, h => by
    have hi : i < ws.length := by omega
    rw [catTo_next F hi, ByteArray.size_append, catTo_size hF (by omega : i ≤ ws.length), List.getD_eq_getElem?_getD, List.getElem?_eq_getElem hi, Option.getD_some, hF _ (List.getElem_mem hi)]
theorem catW_congr {F G : ByteArray → ByteArray} {ws : List ByteArray} (h : ∀ x ∈ ws, F x = G x) : catW F ws = catW G ws := by
  apply ba_ext
  unfold catW
  rw [catTo_data, catTo_data, List.take_length]
  induction ws with
  | nil => rfl
  | cons a l ih => rw [List.flatMap_cons, List.flatMap_cons, h a (List.mem_cons_self ..), ih (fun x hx => h x (List.mem_cons_of_mem _ hx))]
/-- The code of applying d and then c. -/
def composedF (k nd : Nat) (od oc : ByteArray) (x : ByteArray) : ByteArray := oneB (letterC k oc (applied k nd od x))
def composed (k nc nd : Nat) (oc od : ByteArray) : ByteArray := catW (composedF k nd od oc) (allW k (nc + nd - 1))
def copyF (at_ : Nat) (x : ByteArray) : ByteArray := x.extract at_ (at_ + 1)
def copied (k n at_ : Nat) : ByteArray := catW (copyF at_) (allW k n)
/-- What ComposeCodes and CopyCode answer. -/
def compB (K N : Int) (o : ByteArray) (K' N' : Int) (o' : ByteArray) : Bool := ((isCodeB K N o && isCodeB K' N' o') && decide (K = K')) && codeForm K (N + N' - 1)
def compO (K N N' : Int) (o o' : ByteArray) : ByteArray := composed K.toNat N.toNat N'.toNat o o'
def copyB (K N a : Int) : Bool := codeForm K N && (decide (0 ≤ a) && decide (a < N))
def copyO (K N a : Int) : ByteArray := copied K.toNat N.toNat a.toNat
theorem composed_at {k nc nd : Nat} {oc od x : ByteArray} (hx : x.size = nc + nd - 1) (h1 : 1 ≤ nd) : applied k nc oc (applied k nd od x) = composedF k nd od oc x := by
  have hs : (applied k nd od x).size = nc := by rw [applied_size]; omega
  unfold composedF
  rw [applied_one hs]
end Go.Proofs.Ytcoiodfggaanbaa
