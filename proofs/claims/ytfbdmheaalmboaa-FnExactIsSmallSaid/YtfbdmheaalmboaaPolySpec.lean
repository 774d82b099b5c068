/-
  The model's polynomials: which are in bounds, one without zeros at the end, products, values; nothing that was there before is changed.
-/
import Derived.Test.YtfbdmheaalmboaaPolyFacts
import Derived.Test.YtfbdmheaalmboaaIntsLaw
import Derived.Test.YtfbdmheaalmboaaAppendZero
import Derived.Deep.AppendLies
namespace Go.Proofs.Ytfbdmheaalmboaa
open Go Go.RowKit

theorem RowS.numR {w : World} {A : Option Addr} {xs : List Int} (h : RowS w A xs) {k : Nat} (hk : k < xs.length) : ∃ b off, A = some ⟨b, off, none⟩ ∧ w.cell? ⟨b, off + k, none⟩ = some (.int .i64 (xs.getD k 0)) ∧ b < w.heap.size := by
  obtain ⟨b, off, hA, hat, hb⟩ := h (by omega)
  exact ⟨b, off, hA, hat k hk, hb⟩
theorem fits_not {p : List Int} {most k : Nat} (h : (decide (-1000000 ≤ p.getD k 0) && decide (p.getD k 0 ≤ 1000000)) = false) : fitsB p most = false := by
  cases e : fitsB p most with
  | false => rfl
  | true =>
    have := (fits_at e).2 k
    rw [decide_eq_true (by omega : -1000000 ≤ p.getD k 0), decide_eq_true (by omega : p.getD k 0 ≤ 1000000)] at h
    cases h
theorem fits_end {p : List Int} {most : Nat} (h : ∀ j, j < p.length → -1000000 ≤ p.getD j 0 ∧ p.getD j 0 ≤ 1000000) : fitsB p most = decide (p.length ≤ most) := by
  unfold fitsB
  have : (p.all fun x => decide (-1000000 ≤ x ∧ x ≤ 1000000)) = true := by
    rw [List.all_eq_true]
    intro x hx
    obtain ⟨k, hk, rfl⟩ := List.getElem_of_mem hx
    have := h k hk
    rw [List.getD_eq_getElem?_getD, List.getElem?_eq_getElem hk, Option.getD_some] at this
    rw [decide_eq_true_iff]; exact this
  rw [this, Bool.true_and]

set_option maxRecDepth 100000 in
theorem spec_fits (A : Option Addr) (c : Nat) (p : List Int) (most : Nat) (hn : p.length ≤ 1099511627776) (w : World) (h : RowS w A p) :
    Calls Try.prog 45 #[.slice A p.length c, .int .i64 (most : Int)] w fun e w' => e = .returned (.bool (fitsB p most)) ∧ w' = w := by
  have H := Lib.hid h
  have HI := Lib.hid m_in
  clear h
  go_enter Try.func45, Try.ntmps45
  go_wp2
  go_loop [5] (fun i => ∃ k : Nat, k ≤ p.length ∧ i = .int .i64 k ∧ Hid (∀ j, j < k → -1000000 ≤ p.getD j 0 ∧ p.getD j 0 ≤ 1000000)) (fun i => p.length - (intOf i).toNat)
  case atStart => exact ⟨0, Nat.zero_le _, rfl, Lib.hid (fun j h => by omega)⟩
  case round =>
    obtain ⟨k, hk, rfl, hto⟩ := hrel
    by_cases hlt : k < p.length
    · obtain ⟨b, off, rfl, hc, hb⟩ := H.out.numR hlt
      have HNO := Lib.hid (fits_not (p := p) (most := most) (k := k))
      have HNX : Hid (-1000000 ≤ p.getD k 0 ∧ p.getD k 0 ≤ 1000000 → ∀ j, j < k + 1 → -1000000 ≤ p.getD j 0 ∧ p.getD j 0 ≤ 1000000) := Lib.hid (fun h j hj => by
        by_cases e : j = k
        · subst e; exact h
        · exact hto.out j (by omega))
      generalize p.getD k 0 = y at *
      go_wp2_with fail
      refine (HI.out _ _ _ _).mono ?_
      rintro e w1 ⟨rfl, rfl⟩
      cases hx : (decide (-1000000 ≤ y) && decide (y ≤ 1000000)) with
      | false =>
        go_wp2
        go_ret
        exact ⟨by rw [HNO.out hx]; rfl, rfl⟩
      | true =>
        have hy2 : -1000000 ≤ y ∧ y ≤ 1000000 := by simpa using hx
        clear hx hto
        go_wp2
        go_round
        case rel => exact ⟨k + 1, by omega, by go_num, Lib.hid (HNX.out hy2)⟩
        case measure => simp [intOf]; omega
    · obtain rfl : k = p.length := by omega
      have HE := Lib.hid (fits_end (most := most) hto.out)
      go_wp2
      go_ret
      exact ⟨by rw [HE.out]; rfl, rfl⟩

/-! ### Without zeros at the end -/
theorem nums_one (xs : List Int) : ∀ u ∈ xs.map (Value.int .i64), u.oneCell' = true := by
  intro u hu
  obtain ⟨x, _, rfl⟩ := List.mem_map.1 hu
  rfl
theorem OwnA.cells {w : World} {B g cap : Nat} {p : List Int} (h : OwnA w B (.slice (some ⟨g, 0, none⟩) p.length cap) p) (lo k : Nat) : ∀ j u, (((p.drop lo).take k).map (Value.int .i64))[j]? = some u → w.cell? ((⟨g, lo, none⟩ : Addr).add j) = some u := by
  intro j u hu
  rw [List.getElem?_map] at hu
  obtain ⟨x, hx, rfl⟩ := Option.map_eq_some_iff.1 hu
  rw [List.getElem?_take] at hx
  split at hx
  · rw [List.getElem?_drop] at hx
    have hj := (List.getElem?_eq_some_iff.1 hx).1
    rw [show (⟨g, lo, none⟩ : Addr).add j = ⟨g, lo + j, none⟩ by unfold Addr.add; split <;> simp_all, World.ownsRow.cellAt h (lo + j) (by omega), List.getElem?_map, hx]; rfl
  · cases hx
theorem OwnA.num {w : World} {B g cap : Nat} {p : List Int} (h : OwnA w B (.slice (some ⟨g, 0, none⟩) p.length cap) p) {k : Nat} (hk : k < p.length) : w.cell? ⟨g, k, none⟩ = some (.int .i64 (p.getD k 0)) := by
  rw [World.ownsRow.cellAt h k (by omega), List.getElem?_map, List.getElem?_eq_getElem hk, List.getD_eq_getElem?_getD, List.getElem?_eq_getElem hk]; rfl
theorem OwnA.room {w : World} {B g cap : Nat} {p : List Int} (h : OwnA w B (.slice (some ⟨g, 0, none⟩) p.length cap) p) : p.length ≤ cap ∧ cap ≤ maxLen := by
  rcases h.2 with ⟨h, _⟩ | ⟨g', cap', cur, hv, _, _, h1, h2, _⟩
  · cases h
  · simp only [Value.slice.injEq] at hv
    obtain ⟨_, _, rfl⟩ := hv
    exact ⟨h1, h2⟩
/-- A new slice that holds nothing. -/
theorem emptyA {B : Nat} {w : World} (hB : B ≤ w.heap.size) : (w.alloc (.cells #[] 3)).ownsRow B 3 1 (.slice (some ⟨w.heap.size, 0, none⟩) 0 0) 0 [] := World.ownsRow_made (base := B) (e := 3) (size := 1) w #[] 0 hB (by unfold maxLen; omega) rfl
theorem cut_stop {p : List Int} {k : Nat} (hk : k ≤ p.length) (h : cutLen p p.length = cutLen p k) (hs : k = 0 ∨ p.getD (k - 1) 0 ≠ 0) : cutL p = p.take k := by
  unfold cutL
  rw [h]
  cases k with
  | zero => rfl
  | succ k =>
    rw [cutLen, if_neg]
    rcases hs with h | h
    · omega
    · exact h

set_option maxRecDepth 100000 in
set_option maxHeartbeats 1600000 in
theorem spec_cut (B g cap : Nat) (p : List Int) (hp : 0 < p.length) (hn : p.length ≤ 1048576) (w : World) (h : OwnA w B (.slice (some ⟨g, 0, none⟩) p.length cap) p) :
    Calls Try.prog 41 #[.slice (some ⟨g, 0, none⟩) p.length cap] w (NewA (cutL p) w) := by
  obtain ⟨j0, hj0, hy0, hy1, hy2⟩ := info_parts infoInt
  obtain ⟨hr1, hr2⟩ := h.room
  have hg := (World.ownsRow.lt h g rfl).2
  have H := Lib.hid h
  clear h
  go_enter Try.func41, Try.ntmps41
  go_wp2
  go_loop [3] (fun nv => ∃ k : Nat, k ≤ p.length ∧ nv = .int .i64 (k : Int) ∧ Hid (cutLen p p.length = cutLen p k)) (fun nv => (intOf nv).toNat)
  case atStart => exact ⟨p.length, Nat.le_refl _, rfl, Lib.hid rfl⟩
  case round =>
    obtain ⟨k, hk, rfl, hto⟩ := hrel
    cases k with
    | zero =>
      have HE := Lib.hid (cut_stop hk hto.out (Or.inl rfl))
      have HN := Lib.hid (emptyA (B := w.heap.size) (w := w) (Nat.le_refl _))
      go_wp2
      go_ret
      exact ⟨_, rfl, by rw [HE.out]; exact HN.out, below_new⟩
    | succ k =>
      have k1 := H.out.num (k := k) (by omega)
      have HST : Hid (p.getD k 0 ≠ 0 → cutL p = p.take (k + 1)) := Lib.hid fun h => cut_stop hk hto.out (Or.inr h)
      have HNX : Hid (p.getD k 0 = 0 → cutLen p p.length = cutLen p k) := Lib.hid fun h => by rw [hto.out, cutLen, if_pos h]
      generalize p.getD k 0 = x at *
      by_cases hx : x = 0
      · subst hx
        have HNX := Lib.hid (HNX.out rfl)
        go_wp2
        go_round
        case rel => exact ⟨k, by omega, by go_num, HNX⟩
        case measure => simp [intOf]
      · have HE := Lib.hid (HST.out hx)
        have HN := Lib.hid (emptyA (B := w.heap.size) (w := w) (Nat.le_refl _))
        have HC : Hid (∀ j u, ((p.take (k + 1)).map (Value.int .i64))[j]? = some u → (w.alloc (.cells #[] 3)).cell? ((⟨g, 0, none⟩ : Addr).add j) = some u) := Lib.hid (by
          have h2 : OwnA (w.alloc (.cells #[] 3)) B (.slice (some ⟨g, 0, none⟩) p.length cap) p := H.out.alloc _
          exact h2.cells 0 (k + 1))
        have HL : Hid ((p.take (k + 1)).length = k + 1) := Lib.hid (by rw [List.length_take]; omega)
        have hHL := HL.out
        generalize p.take (k + 1) = q at *
        go_wp2_with (at_builtin; refine wpList_append_lies _ rfl (.tmp 18) (.tmp 21) 29 rfl w.heap.size 3 j0 (.int .i64 0) 1 8 Try.underlying29 hj0 hy0 hy1 hy2 rfl (by decide) _ _ _ rfl HN.out ⟨g, 0, none⟩ (k + 1) cap (q.map (.int .i64)) rfl (by rw [List.length_map]; omega) HC.out (nums_one q) (by omega) (by unfold maxLen; omega) (by omega) (by simp) (w.heap.size + 1) (by simp) ?_; intro gg cap2 w6 ho6 hg6 hat6 hlt6; have HO6 : Hid (OwnA w6 w.heap.size (.slice (some ⟨gg, 0, none⟩) (k + 1) cap2) (cutL p)) := Lib.hid (by rw [HE.out]; unfold OwnA; rw [hHL]; rw [List.nil_append, Nat.zero_add] at ho6; exact ho6); have HB6 : Hid (Below w.heap.size w w6) := Lib.hid (below_new.grown hg6 (by simp) fun q hq => by have h2 : w.heap.size = q := Option.some.inj hq; omega); clear ho6 hg6 hat6)
        go_ret
        exact ⟨_, rfl, HO6.out, HB6.out⟩

/-! ### Values -/
def geo : Nat → Nat
  | 0 => 0
  | n + 1 => geo n * 1000 + 1000000
theorem hor_abs {p : List Int} {x : Int} (hp : ∀ k, (p.getD k 0).natAbs ≤ 1000000) (hx : x.natAbs ≤ 1000) : ∀ n, (hor p x n).natAbs ≤ geo n
  | 0 => Nat.le_refl _
  | n + 1 => by
    have h1 := hor_abs hp hx n
    have h2 := hp (p.length - 1 - n)
    have h3 : (hor p x n * x).natAbs ≤ geo n * 1000 := by rw [Int.natAbs_mul]; exact Nat.mul_le_mul h1 hx
    rw [hor, geo]
    omega
theorem geo_le {n : Nat} (h : n ≤ 5) : geo n ≤ 1001001001001000000 := by
  have : n = 0 ∨ n = 1 ∨ n = 2 ∨ n = 3 ∨ n = 4 ∨ n = 5 := by omega
  rcases this with rfl | rfl | rfl | rfl | rfl | rfl <;> decide
theorem hor_step {p : List Int} (x : Int) {j : Nat} (hj : j < p.length) : hor p x (p.length - (j + 1)) * x + p.getD j 0 = hor p x (p.length - j) := by
  rw [show p.length - j = (p.length - (j + 1)) + 1 by omega, hor, show p.length - 1 - (p.length - (j + 1)) = j by omega]

set_option maxRecDepth 100000 in
set_option maxHeartbeats 800000 in
theorem spec_polyAt (A : Option Addr) (c : Nat) (p : List Int) (x : Int) (hn : p.length ≤ 1048576) (w : World) (h : RowS w A p) :
    Calls Try.prog 28 #[.slice A p.length c, .int .i64 x] w fun e w' => e = .returned (.tuple #[.int .i64 ((atP p x).getD 0), .bool (atP p x).isSome]) ∧ w' = w := by
  have H := Lib.hid h
  have HF := Lib.hid (spec_fits A c p 5 (by omega) w h)
  have HI := Lib.hid (m_in x (-1000) 1000 w)
  clear h
  cases hf : fitsB p 5 with
  | false =>
    have HE : Hid (atP p x = none) := Lib.hid (by unfold atP; rw [hf]; rfl)
    rw [hf] at HF
    clear hf
    go_enter Try.func28, Try.ntmps28
    go_wp2_with fail
    refine HF.out.mono ?_
    rintro e w1 ⟨rfl, rfl⟩
    go_wp2
    go_ret2
    exact ⟨by rw [HE.out]; rfl, rfl⟩
  | true =>
    obtain ⟨hl5, hab⟩ := fits_at hf
    cases hx : (decide (-1000 ≤ x) && decide (x ≤ 1000)) with
    | false =>
      have HE : Hid (atP p x = none) := Lib.hid (by
        unfold atP
        rw [if_neg]
        rw [Bool.and_eq_true, decide_eq_true_iff]
        rintro ⟨_, h1, h2⟩
        rw [decide_eq_true h1, decide_eq_true h2] at hx
        cases hx)
      rw [hf] at HF
      rw [hx] at HI
      clear hf hx hab
      go_enter Try.func28, Try.ntmps28
      go_wp2_with fail
      refine HF.out.mono ?_
      rintro e w1 ⟨rfl, rfl⟩
      go_wp2_with fail
      refine HI.out.mono ?_
      rintro e w2 ⟨rfl, rfl⟩
      go_wp2
      go_ret2
      exact ⟨by rw [HE.out]; rfl, rfl⟩
    | true =>
      have hx2 : -1000 ≤ x ∧ x ≤ 1000 := by simpa using hx
      have HE : Hid (atP p x = some (hor p x p.length)) := Lib.hid (by unfold atP; rw [hf, Bool.true_and, if_pos (decide_eq_true hx2)])
      rw [hf] at HF
      rw [hx] at HI
      have HAB : Hid (∀ n, (hor p x n).natAbs ≤ geo n) := Lib.hid (hor_abs hab (by omega))
      have HPB := Lib.hid hab
      clear hf hx hab
      go_enter Try.func28, Try.ntmps28
      go_wp2_with fail
      refine HF.out.mono ?_
      rintro e w1 ⟨rfl, rfl⟩
      go_wp2_with fail
      refine HI.out.mono ?_
      rintro e w2 ⟨rfl, rfl⟩
      go_wp2
      go_loop [6, 7] (fun v k => ∃ j : Nat, j ≤ p.length ∧ v = .int .i64 (hor p x (p.length - j)) ∧ k = .int .i64 ((j : Int) - 1)) (fun _ k => (intOf k + 1).toNat)
      case atStart => exact ⟨p.length, Nat.le_refl _, by rw [Nat.sub_self]; rfl, rfl⟩
      case round =>
        obtain ⟨j, hj, rfl, rfl⟩ := hrel
        cases j with
        | zero =>
          rw [Nat.sub_zero]
          generalize hor p x p.length = v at *
          go_wp2
          go_ret2
          exact ⟨by rw [HE.out]; rfl, rfl⟩
        | succ j =>
          obtain ⟨b, off, rfl, hc, hb⟩ := H.out.numR (k := j) (by omega)
          have HST := Lib.hid (hor_step (p := p) x (j := j) (by omega))
          have h1 := HAB.out (p.length - (j + 1))
          have h2 := HPB.out j
          have h3 := geo_le (n := p.length - (j + 1)) (by omega)
          have h4 : (hor p x (p.length - (j + 1)) * x).natAbs ≤ 1001001001001000000 := by
            have h5 := HAB.out (p.length - (j + 1) + 1)
            have h6 := geo_le (n := p.length - (j + 1) + 1) (by omega)
            rw [geo] at h6
            rw [Int.natAbs_mul]
            have := Nat.mul_le_mul h1 (show x.natAbs ≤ 1000 by omega)
            omega
          have HEQ : Hid (((j + 1 : Nat) : Int) - 1 = (j : Int)) := Lib.hid (by omega)
          rw [HEQ.out]
          generalize hor p x (p.length - (j + 1)) = v at *
          generalize p.getD j 0 = y at *
          have h7 : -1001001001001000000 ≤ v * x ∧ v * x ≤ 1001001001001000000 := by omega
          have h8 : -1001001001001000000 ≤ v ∧ v ≤ 1001001001001000000 := by omega
          have h9 : -1000000 ≤ y ∧ y ≤ 1000000 := by omega
          obtain ⟨h7a, h7b⟩ := h7
          obtain ⟨h8a, h8b⟩ := h8
          obtain ⟨h9a, h9b⟩ := h9
          clear h1 h2 h3 h4
          go_wp2
          go_round
          case rel => exact ⟨j, by omega, by rw [HST.out], by go_num⟩
          case measure => simp [intOf]

/-! ### Small matrices -/
theorem small_not {m : List (List Int)} {k t : Nat} (hk : k < m.length) (ht : t < (m.getD k []).length) (h : 9 < cellOf m k t) : smallM m = false := by
  cases e : smallM m with
  | false => rfl
  | true =>
    unfold smallM at e
    rw [Bool.and_eq_true, List.all_eq_true] at e
    have h1 := e.2 m[k] (List.getElem_mem hk)
    have e2 : m.getD k [] = m[k] := by simp [List.getD, hk]
    rw [e2] at ht
    rw [List.all_eq_true] at h1
    have h2 := h1 (m[k])[t] (List.getElem_mem ht)
    rw [decide_eq_true_iff] at h2
    unfold cellOf at h
    rw [e2, List.getD_eq_getElem?_getD, List.getElem?_eq_getElem ht, Option.getD_some] at h
    omega
theorem small_end {m : List (List Int)} (h : ∀ i, i < m.length → ∀ j, j < (m.getD i []).length → cellOf m i j ≤ 9) : smallM m = (isMat m && decide (m.length ≤ 4)) := by
  unfold smallM
  have : (m.all fun r => r.all fun x => decide (x ≤ 9)) = true := by
    rw [List.all_eq_true]
    intro r hr
    obtain ⟨i, hi, rfl⟩ := List.getElem_of_mem hr
    rw [List.all_eq_true]
    intro x hx
    obtain ⟨j, hj, rfl⟩ := List.getElem_of_mem hx
    have e2 : m.getD i [] = m[i] := by simp [List.getD, hi]
    have h1 := h i hi j (by rw [e2]; exact hj)
    unfold cellOf at h1
    rw [e2, List.getD_eq_getElem?_getD, List.getElem?_eq_getElem hj, Option.getD_some] at h1
    rw [decide_eq_true_iff]; exact h1
  rw [this, Bool.and_true]

set_option maxRecDepth 100000 in
set_option maxHeartbeats 1600000 in
theorem spec_isSmall (A : Option Addr) (c : Nat) (m : List (List Int)) (hn : m.length ≤ 1099511627776) (ht : ∀ k, k < m.length → (m.getD k []).length ≤ 1099511627776) (w : World) (hg : GridS w A m) :
    Calls Try.prog 11 #[.slice A m.length c] w fun e w' => e = .returned (.bool (smallM m)) ∧ w' = w := by
  have HG := Lib.hid hg
  have HT := Lib.hid ht
  have HI := Lib.hid (spec_isMatrix A c m hn ht w hg)
  clear hg ht
  go_enter Try.func11, Try.ntmps11
  go_wp2
  go_loop [3] (fun i => ∃ k : Nat, k ≤ m.length ∧ i = .int .i64 k ∧ Hid (∀ i, i < k → ∀ j, j < (m.getD i []).length → cellOf m i j ≤ 9)) (fun i => m.length - (intOf i).toNat)
  case atStart => exact ⟨0, Nat.zero_le _, rfl, Lib.hid (fun j h => by omega)⟩
  case round =>
    obtain ⟨k, hk, rfl, hto⟩ := hrel
    by_cases hlt : k < m.length
    · obtain ⟨b, off, A', c', rfl, hc, hrow, hb⟩ := HG.out.row hlt
      have hxl := HT.out k hlt
      have HNO : Hid (∀ t, t < (m.getD k []).length → 9 < (m.getD k []).getD t 0 → smallM m = false) := Lib.hid fun t h1 h2 => small_not hlt h1 h2
      have HNX : Hid ((∀ j, j < (m.getD k []).length → (m.getD k []).getD j 0 ≤ 9) → ∀ i, i < k + 1 → ∀ j, j < (m.getD i []).length → cellOf m i j ≤ 9) := Lib.hid fun h i hi j hj => by
        by_cases e : i = k
        · subst e; exact h j hj
        · exact hto.out i (by omega) j hj
      have HR := Lib.hid hrow
      clear hrow hto
      generalize m.getD k [] = x at *
      go_wp2
      go_loop [4] (fun j => ∃ t : Nat, t ≤ x.length ∧ j = .int .i64 t ∧ Hid (∀ u, u < t → x.getD u 0 ≤ 9)) (fun j => x.length - (intOf j).toNat)
      case atStart => exact ⟨0, Nat.zero_le _, rfl, Lib.hid (fun j h => by omega)⟩
      case round =>
        obtain ⟨t, htl, rfl, hok⟩ := hrel
        by_cases htt : t < x.length
        · obtain ⟨b2, off2, rfl, hcx, hb2⟩ := HR.out.numR htt
          have HNO2 := Lib.hid (HNO.out t htt)
          have HOK : Hid (x.getD t 0 ≤ 9 → ∀ u, u < t + 1 → x.getD u 0 ≤ 9) := Lib.hid (fun h u hu => by
            by_cases e : u = t
            · subst e; exact h
            · exact hok.out u (by omega))
          clear hok
          generalize x.getD t 0 = y at *
          by_cases hy : 9 < y
          · have HE := Lib.hid (HNO2.out hy)
            go_wp2
            go_ret
            exact ⟨by rw [HE.out]; rfl, rfl⟩
          · have HOK2 := Lib.hid (HOK.out (by omega))
            go_wp2
            go_round
            case rel => exact ⟨t + 1, by omega, by go_num, HOK2⟩
            case measure => simp [intOf]; omega
        · obtain rfl : t = x.length := by omega
          have HNX2 := Lib.hid (HNX.out hok.out)
          clear hok
          go_wp2
          go_round
          case rel => exact ⟨k + 1, by omega, by go_num, HNX2⟩
          case measure => simp [intOf]; omega
    · obtain rfl : k = m.length := by omega
      have HE := Lib.hid (small_end hto.out)
      clear hto
      cases hm : isMat m with
      | false =>
        rw [hm] at HI HE
        go_wp2_with fail
        refine HI.out.mono ?_
        rintro e w1 ⟨rfl, rfl⟩
        go_wp2
        go_ret
        exact ⟨by rw [HE.out]; rfl, rfl⟩
      | true =>
        rw [hm] at HI HE
        have HE2 : Hid (smallM m = decide ((m.length : Int) ≤ 4)) := Lib.hid (by rw [HE.out, Bool.true_and]; exact decide_eq_decide.2 (by omega))
        go_wp2_with fail
        refine HI.out.mono ?_
        rintro e w1 ⟨rfl, rfl⟩
        go_wp2
        go_ret
        exact ⟨by rw [HE2.out]; rfl, rfl⟩
end Go.Proofs.Ytfbdmheaalmboaa
