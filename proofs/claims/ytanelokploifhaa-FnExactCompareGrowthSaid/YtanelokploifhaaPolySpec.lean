/-
  The model's polynomials: which are in bounds, one without zeros at the end, products, values; nothing that was there before is changed.
-/
import Derived.Test.YtanelokploifhaaBaseTexts
import Derived.Test.YtanelokploifhaaMidTexts
import Derived.Test.YtanelokploifhaaAppendZero
import Derived.Deep.AppendLies
namespace Go.Proofs.Ytanelokploifhaa
open Go Go.RowKit

theorem RowS.numR {w : World} {A : Option Addr} {xs : List Int} (h : RowS w A xs) {k : Nat} (hk : k < xs.length) : ∃ b off, A = some ⟨b, off, none⟩ ∧ w.cell? ⟨b, off + k, none⟩ = some (.int .i64 (xs.getD k 0)) ∧ b < w.heap.size := by
  obtain ⟨b, off, hA, hat, hb⟩ := h (by omega)
  exact ⟨b, off, hA, hat k hk, hb⟩
theorem fits_not {p : List Int} {most k : Nat} (h : (decide (-1000000 ≤ p.getD k 0) && decide (p.getD k 0 ≤ 1000000)) = false) : fitsB p most = false := by
  cases e : fitsB p most with
  | false => rfl
  | true =>
    have := (fits_at e).2 k
    rw [decide_eq_true (by omega : -1000000 ≤ p.getD k 0), decide_eq_true (by omega : p.getD k 0 ≤ 1000000)] at h
    cases h
theorem fits_end {p : List Int} {most : Nat} (h : ∀ j, j < p.length → -1000000 ≤ p.getD j 0 ∧ p.getD j 0 ≤ 1000000) : fitsB p most = decide (p.length ≤ most) := by
  unfold fitsB
  have : (p.all fun x => decide (-1000000 ≤ x ∧ x ≤ 1000000)) = true := by
    rw [List.all_eq_true]
    intro x hx
    obtain ⟨k, hk, rfl⟩ := List.getElem_of_mem hx
    have := h k hk
    rw [List.getD_eq_getElem?_getD, List.getElem?_eq_getElem hk, Option.getD_some] at this
    rw [decide_eq_true_iff]; exact this
  rw [this, Bool.true_and]

theorem nums_one (xs : List Int) : ∀ u ∈ xs.map (Value.int .i64), u.oneCell' = true := by
  intro u hu
  obtain ⟨x, _, rfl⟩ := List.mem_map.1 hu
  rfl
theorem OwnA.cells {w : World} {B g cap : Nat} {p : List Int} (h : OwnA w B (.slice (some ⟨g, 0, none⟩) p.length cap) p) (lo k : Nat) : ∀ j u, (((p.drop lo).take k).map (Value.int .i64))[j]? = some u → w.cell? ((⟨g, lo, none⟩ : Addr).add j) = some u := by
  intro j u hu
  rw [List.getElem?_map] at hu
  obtain ⟨x, hx, rfl⟩ := Option.map_eq_some_iff.1 hu
  rw [List.getElem?_take] at hx
  split at hx
  · rw [List.getElem?_drop] at hx
    have hj := (List.getElem?_eq_some_iff.1 hx).1
    rw [show (⟨g, lo, none⟩ : Addr).add j = ⟨g, lo + j, none⟩ by unfold Addr.add; split <;> simp_all, World.ownsRow.cellAt h (lo + j) (by omega), List.getElem?_map, hx]; rfl
  · cases hx
theorem OwnA.num {w : World} {B g cap : Nat} {p : List Int} (h : OwnA w B (.slice (some ⟨g, 0, none⟩) p.length cap) p) {k : Nat} (hk : k < p.length) : w.cell? ⟨g, k, none⟩ = some (.int .i64 (p.getD k 0)) := by
  rw [World.ownsRow.cellAt h k (by omega), List.getElem?_map, List.getElem?_eq_getElem hk, List.getD_eq_getElem?_getD, List.getElem?_eq_getElem hk]; rfl
theorem OwnA.room {w : World} {B g cap : Nat} {p : List Int} (h : OwnA w B (.slice (some ⟨g, 0, none⟩) p.length cap) p) : p.length ≤ cap ∧ cap ≤ maxLen := by
  rcases h.2 with ⟨h, _⟩ | ⟨g', cap', cur, hv, _, _, h1, h2, _⟩
  · cases h
  · simp only [Value.slice.injEq] at hv
    obtain ⟨_, _, rfl⟩ := hv
    exact ⟨h1, h2⟩
/-- A new slice that holds nothing. -/
theorem emptyA {B : Nat} {w : World} (hB : B ≤ w.heap.size) : (w.alloc (.cells #[] 3)).ownsRow B 3 1 (.slice (some ⟨w.heap.size, 0, none⟩) 0 0) 0 [] := World.ownsRow_made (base := B) (e := 3) (size := 1) w #[] 0 hB (by unfold maxLen; omega) rfl
theorem cut_stop {p : List Int} {k : Nat} (hk : k ≤ p.length) (h : cutLen p p.length = cutLen p k) (hs : k = 0 ∨ p.getD (k - 1) 0 ≠ 0) : cutL p = p.take k := by
  unfold cutL
  rw [h]
  cases k with
  | zero => rfl
  | succ k =>
    rw [cutLen, if_neg]
    rcases hs with h | h
    · omega
    · exact h

def geo : Nat → Nat
  | 0 => 0
  | n + 1 => geo n * 1000 + 1000000
theorem hor_abs {p : List Int} {x : Int} (hp : ∀ k, (p.getD k 0).natAbs ≤ 1000000) (hx : x.natAbs ≤ 1000) : ∀ n, (hor p x n).natAbs ≤ geo n
  | 0 => Nat.le_refl _
  | n + 1 => by
    have h1 := hor_abs hp hx n
    have h2 := hp (p.length - 1 - n)
    have h3 : (hor p x n * x).natAbs ≤ geo n * 1000 := by rw [Int.natAbs_mul]; exact Nat.mul_le_mul h1 hx
    rw [hor, geo]
    omega
theorem geo_le {n : Nat} (h : n ≤ 5) : geo n ≤ 1001001001001000000 := by
  have : n = 0 ∨ n = 1 ∨ n = 2 ∨ n = 3 ∨ n = 4 ∨ n = 5 := by omega
  rcases this with rfl | rfl | rfl | rfl | rfl | rfl <;> decide
theorem hor_step {p : List Int} (x : Int) {j : Nat} (hj : j < p.length) : hor p x (p.length - (j + 1)) * x + p.getD j 0 = hor p x (p.length - j) := by
  rw [show p.length - j = (p.length - (j + 1)) + 1 by omega, hor, show p.length - 1 - (p.length - (j + 1)) = j by omega]

theorem small_not {m : List (List Int)} {k t : Nat} (hk : k < m.length) (ht : t < (m.getD k []).length) (h : 9 < cellOf m k t) : smallM m = false := by
  cases e : smallM m with
  | false => rfl
  | true =>
    unfold smallM at e
    rw [Bool.and_eq_true, List.all_eq_true] at e
    have h1 := e.2 m[k] (List.getElem_mem hk)
    have e2 : m.getD k [] = m[k] := by simp [List.getD, hk]
    rw [e2] at ht
    rw [List.all_eq_true] at h1
    have h2 := h1 (m[k])[t] (List.getElem_mem ht)
    rw [decide_eq_true_iff] at h2
    unfold cellOf at h
    rw [e2, List.getD_eq_getElem?_getD, List.getElem?_eq_getElem ht, Option.getD_some] at h
    omega
theorem small_end {m : List (List Int)} (h : ∀ i, i < m.length → ∀ j, j < (m.getD i []).length → cellOf m i j ≤ 9) : smallM m = (isMat m && decide (m.length ≤ 4)) := by
  unfold smallM
  have : (m.all fun r => r.all fun x => decide (x ≤ 9)) = true := by
    rw [List.all_eq_true]
    intro r hr
    obtain ⟨i, hi, rfl⟩ := List.getElem_of_mem hr
    rw [List.all_eq_true]
    intro x hx
    obtain ⟨j, hj, rfl⟩ := List.getElem_of_mem hx
    have e2 : m.getD i [] = m[i] := by simp [List.getD, hi]
    have h1 := h i hi j (by rw [e2]; exact hj)
    unfold cellOf at h1
    rw [e2, List.getD_eq_getElem?_getD, List.getElem?_eq_getElem hj, Option.getD_some] at h1
    rw [decide_eq_true_iff]; exact h1
  rw [this, Bool.and_true]

set_option maxRecDepth 100000 in
set_option maxHeartbeats 1600000 in
theorem spec_isSmall (A : Option Addr) (c : Nat) (m : List (List Int)) (hn : m.length ≤ 1099511627776) (ht : ∀ k, k < m.length → (m.getD k []).length ≤ 1099511627776) (w : World) (hg : GridS w A m) :
    Calls Try.prog 22 #[.slice A m.length c] w fun e w' => e = .returned (.bool (smallM m)) ∧ w' = w := by
  have HG := Lib.hid hg
  have HT := Lib.hid ht
  have HI := Lib.hid (spec_isMatrix A c m hn ht w hg)
  clear hg ht
  go_enter Try.func22, Try.ntmps22
  go_wp2
  go_loop [3] (fun i => ∃ k : Nat, k ≤ m.length ∧ i = .int .i64 k ∧ Hid (∀ i, i < k → ∀ j, j < (m.getD i []).length → cellOf m i j ≤ 9)) (fun i => m.length - (intOf i).toNat)
  case atStart => exact ⟨0, Nat.zero_le _, rfl, Lib.hid (fun j h => by omega)⟩
  case round =>
    obtain ⟨k, hk, rfl, hto⟩ := hrel
    by_cases hlt : k < m.length
    · obtain ⟨b, off, A', c', rfl, hc, hrow, hb⟩ := HG.out.row hlt
      have hxl := HT.out k hlt
      have HNO : Hid (∀ t, t < (m.getD k []).length → 9 < (m.getD k []).getD t 0 → smallM m = false) := Lib.hid fun t h1 h2 => small_not hlt h1 h2
      have HNX : Hid ((∀ j, j < (m.getD k []).length → (m.getD k []).getD j 0 ≤ 9) → ∀ i, i < k + 1 → ∀ j, j < (m.getD i []).length → cellOf m i j ≤ 9) := Lib.hid fun h i hi j hj => by
        by_cases e : i = k
        · subst e; exact h j hj
        · exact hto.out i (by omega) j hj
      have HR := Lib.hid hrow
      clear hrow hto
      generalize m.getD k [] = x at *
      go_wp2
      go_loop [4] (fun j => ∃ t : Nat, t ≤ x.length ∧ j = .int .i64 t ∧ Hid (∀ u, u < t → x.getD u 0 ≤ 9)) (fun j => x.length - (intOf j).toNat)
      case atStart => exact ⟨0, Nat.zero_le _, rfl, Lib.hid (fun j h => by omega)⟩
      case round =>
        obtain ⟨t, htl, rfl, hok⟩ := hrel
        by_cases htt : t < x.length
        · obtain ⟨b2, off2, rfl, hcx, hb2⟩ := HR.out.numR htt
          have HNO2 := Lib.hid (HNO.out t htt)
          have HOK : Hid (x.getD t 0 ≤ 9 → ∀ u, u < t + 1 → x.getD u 0 ≤ 9) := Lib.hid (fun h u hu => by
            by_cases e : u = t
            · subst e; exact h
            · exact hok.out u (by omega))
          clear hok
          generalize x.getD t 0 = y at *
          by_cases hy : 9 < y
          · have HE := Lib.hid (HNO2.out hy)
            go_wp2
            go_ret
            exact ⟨by rw [HE.out]; rfl, rfl⟩
          · have HOK2 := Lib.hid (HOK.out (by omega))
            go_wp2
            go_round
            case rel => exact ⟨t + 1, by omega, by go_num, HOK2⟩
            case measure => simp [intOf]; omega
        · obtain rfl : t = x.length := by omega
          have HNX2 := Lib.hid (HNX.out hok.out)
          clear hok
          go_wp2
          go_round
          case rel => exact ⟨k + 1, by omega, by go_num, HNX2⟩
          case measure => simp [intOf]; omega
    · obtain rfl : k = m.length := by omega
      have HE := Lib.hid (small_end hto.out)
      clear hto
      cases hm : isMat m with
      | false =>
        rw [hm] at HI HE
        go_wp2_with fail
        refine HI.out.mono ?_
        rintro e w1 ⟨rfl, rfl⟩
        go_wp2
        go_ret
        exact ⟨by rw [HE.out]; rfl, rfl⟩
      | true =>
        rw [hm] at HI HE
        have HE2 : Hid (smallM m = decide ((m.length : Int) ≤ 4)) := Lib.hid (by rw [HE.out, Bool.true_and]; exact decide_eq_decide.2 (by omega))
        go_wp2_with fail
        refine HI.out.mono ?_
        rintro e w1 ⟨rfl, rfl⟩
        go_wp2
        go_ret
        exact ⟨by rw [HE2.out]; rfl, rfl⟩
end Go.Proofs.Ytanelokploifhaa
