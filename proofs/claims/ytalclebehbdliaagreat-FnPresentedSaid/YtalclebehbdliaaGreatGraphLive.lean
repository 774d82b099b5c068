/-
  The model's LivelyOf: the vertices through which endless paths go, in new memory; nothing that was there before is changed.
-/
import Derived.Test.YtalclebehbdliaaGreatFactTexts
import Derived.Test.YtalclebehbdliaaGreatIntsLaw
namespace Go.Proofs.YtalclebehbdliaaGreat
open Go Go.RowKit

theorem infoBool : (Tryz.prog.info? 4).map (fun i => (i.zero, i.size, i.bytes)) = some (some (.bool false), 1, 1) := by kernel_rfl
def boolsOf (n : Nat) (S : Nat → Bool) : List Value := (List.range n).map fun i => Value.bool (S i)
theorem boolsOf_at {n : Nat} {S : Nat → Bool} {k : Nat} (hk : k < n) : (boolsOf n S)[k]? = some (.bool (S k)) := by simp [boolsOf, hk]
theorem boolsOf_set {n : Nat} {S : Nat → Bool} {k : Nat} (b : Bool) : (boolsOf n S).set k (.bool b) = boolsOf n fun i => if i = k then b else S i := by
  refine List.ext_getElem (by simp [boolsOf]) fun i h1 h2 => ?_
  rw [List.getElem_set]
  by_cases e : k = i
  · subst e; simp [boolsOf]
  · rw [if_neg e]; simp [boolsOf, Ne.symm e]
theorem boolsOf_congr {n : Nat} {S T : Nat → Bool} (h : ∀ i, i < n → S i = T i) : boolsOf n S = boolsOf n T := by
  unfold boolsOf
  exact List.map_congr_left fun i hi => by rw [h i (List.mem_range.1 hi)]
theorem boolsOf_false (n : Nat) : List.replicate n (Value.bool false) = boolsOf n fun i => decide (i < 0) := by
  unfold boolsOf
  refine List.ext_getElem (by simp) fun i h1 h2 => ?_
  simp

def outOf (m : List (List Int)) (S : Nat → Bool) (k t : Nat) : Bool := (List.range t).any fun j => S j && decide (0 < cellOf m k j)
def inOf (m : List (List Int)) (S : Nat → Bool) (k t : Nat) : Bool := (List.range t).any fun j => S j && decide (0 < cellOf m j k)
theorem outOf_next (m : List (List Int)) (S : Nat → Bool) (k t : Nat) : outOf m S k (t + 1) = (outOf m S k t || (S t && decide (0 < cellOf m k t))) := by
  unfold outOf; rw [List.range_succ, List.any_append]; simp
theorem inOf_next (m : List (List Int)) (S : Nat → Bool) (k t : Nat) : inOf m S k (t + 1) = (inOf m S k t || (S t && decide (0 < cellOf m t k))) := by
  unfold inOf; rw [List.range_succ, List.any_append]; simp
theorem liveStep_as (m : List (List Int)) (S : Nat → Bool) (k : Nat) : liveStep m S k = (S k && outOf m S k m.length && inOf m S k m.length) := rfl
def cnt (n : Nat) (S : Nat → Bool) : Nat := ((List.range n).filter S).length
theorem cnt_le (n : Nat) (S : Nat → Bool) : cnt n S ≤ n := by
  unfold cnt
  have := List.length_filter_le S (List.range n)
  rwa [List.length_range] at this
theorem cnt_less {n k : Nat} {S : Nat → Bool} (hk : k < n) (h : S k = true) : cnt n (fun i => if i = k then false else S i) < cnt n S := by
  refine filter_lt (fun x hx => ?_) _ ⟨k, List.mem_range.2 hk, h, by simp⟩
  by_cases e : x = k
  · simp [e] at hx
  · simpa [e] using hx

def isTrueV : Option Value → Bool
  | some (.bool b) => b
  | _ => false
/-- How many are left, while something has changed. -/
def liveMeas (g n : Nat) (v : Value) (w : World) : Nat := match v with
  | .bool true => 1 + ((List.range n).filter fun i => isTrueV (w.cell? ⟨g, i, none⟩)).length
  | _ => 0
theorem liveMeas_true {g n : Nat} {w : World} {S : Nat → Bool} (h : ∀ i, i < n → w.cell? ⟨g, i, none⟩ = some (.bool (S i))) : liveMeas g n (.bool true) w = 1 + cnt n S := by
  show 1 + ((List.range n).filter fun i => isTrueV (w.cell? ⟨g, i, none⟩)).length = 1 + ((List.range n).filter S).length
  rw [List.filter_congr (q := S) fun i hi => by rw [h i (List.mem_range.1 hi)]; rfl]
theorem liveMeas_false (g n : Nat) (w : World) : liveMeas g n (.bool false) w = 0 := rfl

/-- The booleans, in new memory. -/
def BoolsPost (n : Nat) (S : Nat → Bool) (w : World) (e : Ending) (w' : World) : Prop :=
  e = .returned (.slice (some ⟨w.heap.size, 0, none⟩) n n) ∧ w'.ownsRow w.heap.size 4 1 (.slice (some ⟨w.heap.size, 0, none⟩) n n) n (boolsOf n S) ∧ Below w.heap.size w w' ∧ w.heap.size < w'.heap.size

/-- What holds in the midst of a sweep. -/
structure Sweep (m : List (List Int)) (S0 S : Nat → Bool) (b : Bool) (k : Nat) : Prop where
  good : ∀ T, Good m T → ∀ i, T i = true → S i = true
  sub : ∀ i, S i = true → i < m.length
  same : b = false → (∀ i, i < m.length → S i = S0 i) ∧ ∀ i, i < k → S i = true → liveStep m S i = true
  less : b = true → cnt m.length S < cnt m.length S0
  le : cnt m.length S ≤ cnt m.length S0
theorem Sweep.keep {m : List (List Int)} {S0 S : Nat → Bool} {b : Bool} {k : Nat} (h : Sweep m S0 S b k) (hk : (S k && !(outOf m S k m.length && inOf m S k m.length)) = false) : Sweep m S0 S b (k + 1) := by
  refine ⟨h.good, h.sub, fun hb => ⟨(h.same hb).1, fun i hi hS => ?_⟩, h.less, h.le⟩
  by_cases e : i = k
  · subst e
    rw [liveStep_as]
    rw [hS] at hk ⊢
    cases h1 : outOf m S i m.length <;> cases h2 : inOf m S i m.length <;> simp [h1, h2] at hk ⊢
  · exact (h.same hb).2 i (by omega) hS
theorem Sweep.drop {m : List (List Int)} {S0 S : Nat → Bool} {b : Bool} {k : Nat} (h : Sweep m S0 S b k) (hkl : k < m.length) (hk : (S k && !(outOf m S k m.length && inOf m S k m.length)) = true) : Sweep m S0 (fun i => if i = k then false else S i) true (k + 1) := by
  rw [Bool.and_eq_true] at hk
  have hlt := cnt_less hkl hk.1
  refine ⟨fun T hT i hi => ?_, fun i hi => ?_, fun e => (by cases e), fun _ => Nat.lt_of_lt_of_le hlt h.le, Nat.le_of_lt (Nat.lt_of_lt_of_le hlt h.le)⟩
  · by_cases e : i = k
    · subst e
      have h1 := good_in_step hT (h.good T hT) i hi
      rw [liveStep_as, Bool.and_eq_true, Bool.and_eq_true] at h1
      rw [h1.1.2, h1.2] at hk
      simp at hk
    · rw [if_neg e]; exact h.good T hT i hi
  · by_cases e : i = k
    · rw [if_pos e] at hi; cases hi
    · rw [if_neg e] at hi; exact h.sub i hi

set_option maxRecDepth 100000 in
set_option maxHeartbeats 3200000 in
theorem spec_live (A : Option Addr) (c : Nat) (m : List (List Int)) (hm : MatFacts m) (w : World) (hg : GridS w A m) :
    Calls Tryz.prog 102 #[.slice A m.length c] w (BoolsPost m.length (liveM m) w) := by
  obtain ⟨i0, hi0, hz0, hz1, hz2⟩ := info_parts infoBool
  have hle := hm.le
  have HF := Lib.hid hm
  have HG := Lib.hid hg
  clear hm hg
  go_enter Tryz.func102, Tryz.ntmps102
  go_wp2_with (at_make; refine wpList_make_full _ rfl _ _ 103 rfl w.heap.size 4 i0 (.bool false) 1 Tryz.underlying103 hi0 hz0 hz1 .i64 .i64 _ _ m.length rfl rfl rfl rfl (by rw [hz2]; omega) (by unfold maxLen; omega) (Nat.le_refl _) ?_; intro w1 hown hgrow)
  have hown0 : w1.ownsRow w.heap.size 4 1 (.slice (some ⟨w.heap.size, 0, none⟩) m.length m.length) m.length (boolsOf m.length fun i => decide (i < 0)) := by
    have e : (madeCells (Value.bool false).cells (m.length * 1)).toList = List.replicate m.length (.bool false) := by rw [Nat.mul_one]; exact toList_madeCells_one _ _
    rw [← boolsOf_false, ← e]; exact hown
  have hbel : Below w.heap.size w w1 := (Below.refl _ _).grown hgrow (Nat.le_refl _) (fun k hk => by cases hk)
  have hlt1 : w.heap.size < w1.heap.size := (hown.lt _ rfl).2
  clear hown hgrow
  go_loopw [4] (fun i wr => ∃ k : Nat, k ≤ m.length ∧ i = .int .i64 k ∧ wr.ownsRow w.heap.size 4 1 (.slice (some ⟨w.heap.size, 0, none⟩) m.length m.length) m.length (boolsOf m.length fun i => decide (i < k)) ∧ Below w.heap.size w wr ∧ w.heap.size < wr.heap.size) (fun i _ => m.length - (intOf i).toNat)
  case atStart => exact ⟨0, Nat.zero_le _, rfl, hown0, hbel, hlt1⟩
  case round =>
    obtain ⟨k, hk, rfl, ho, hbl, hs⟩ := hrel
    by_cases hlt : k < m.length
    · have hc := (ho.cellAt k (by omega)).trans (boolsOf_at hlt)
      have hf := ho.frozenAt k
      have hst := (ho.stored k (.bool true)).1
      rw [boolsOf_set, boolsOf_congr (T := fun i => decide (i < k + 1)) (fun i _ => by
        by_cases e : i = k
        · rw [if_pos e, decide_eq_true (by omega)]
        · rw [if_neg e]; exact decide_eq_decide.2 (by omega))] at hst
      have HO := Lib.hid hst
      have HB := Lib.hid hbl
      clear hst ho hbl
      go_wp2
      go_roundw
      case rel => exact ⟨k + 1, by omega, by go_num, HO.out, HB.out.setCell (Nat.le_refl _) _, by simpa using hs⟩
      case measure => simp [intOf]; omega
    · obtain rfl : k = m.length := by omega
      have HO := Lib.hid ho
      have HB := Lib.hid hbl
      clear ho hbl hown0 hbel
      obtain ⟨W1, rfl⟩ : ∃ W1 : World, W1 = wr := ⟨_, rfl⟩
      go_wp2
      go_loopw [5] (fun v wr => ∃ (S : Nat → Bool) (b : Bool), v = .bool b ∧ wr.ownsRow w.heap.size 4 1 (.slice (some ⟨w.heap.size, 0, none⟩) m.length m.length) m.length (boolsOf m.length S) ∧ Below w.heap.size w wr ∧ w.heap.size < wr.heap.size ∧ Hid ((∀ T, Good m T → ∀ i, T i = true → S i = true) ∧ (∀ i, S i = true → i < m.length) ∧ (b = false → ∀ i, S i = true → liveStep m S i = true))) (fun v wr => liveMeas w.heap.size m.length v wr)
      case atStart => exact ⟨fun i => decide (i < m.length), true, rfl, HO.out, HB.out, hs, Lib.hid ⟨fun T hT i hi => decide_eq_true (hT i hi).1, fun i hi => of_decide_eq_true hi, fun e => by cases e⟩⟩
      case round =>
        obtain ⟨S0, b, rfl, ho, hbl, hs, hinv⟩ := hrel
        cases b with
        | false =>
          have hS : S0 = liveM m := live_only (good_of_step hinv.out.2.1 (hinv.out.2.2 rfl)) hinv.out.1
          subst hS
          have HO2 := Lib.hid ho
          clear ho
          go_wp2
          go_ret
          exact ⟨rfl, HO2.out, hbl, hs⟩
        | true =>
          have hmeas := liveMeas_true (g := w.heap.size) (n := m.length) (w := wr) (S := S0) (fun i hi => (ho.cellAt i (by omega)).trans (boolsOf_at hi))
          have HMEAS := Lib.hid hmeas
          have HO2 := Lib.hid ho
          have HB2 := Lib.hid hbl
          have HI0 : Hid (Sweep m S0 S0 false 0) := Lib.hid ⟨hinv.out.1, hinv.out.2.1, fun _ => ⟨fun _ _ => rfl, fun i hi => by omega⟩, fun e => (by cases e), Nat.le_refl _⟩
          clear ho hbl hmeas hinv
          obtain ⟨W2, rfl⟩ : ∃ W2 : World, W2 = wr := ⟨_, rfl⟩
          go_wp2
          go_loopw [5, 6] (fun v iv wr => ∃ (k : Nat) (S : Nat → Bool) (b : Bool), k ≤ m.length ∧ iv = .int .i64 k ∧ v = .bool b ∧ wr.ownsRow w.heap.size 4 1 (.slice (some ⟨w.heap.size, 0, none⟩) m.length m.length) m.length (boolsOf m.length S) ∧ Below w.heap.size w wr ∧ w.heap.size < wr.heap.size ∧ Hid (Sweep m S0 S b k)) (fun _ i _ => m.length - (intOf i).toNat)
          case atStart => exact ⟨0, S0, false, Nat.zero_le _, rfl, rfl, HO2.out, HB2.out, hs, HI0⟩
          case round =>
            obtain ⟨k, S, b, hk, rfl, rfl, ho, hbl, hs3, hsw⟩ := hrel
            obtain ⟨W3, rfl⟩ : ∃ W3 : World, W3 = wr := ⟨_, rfl⟩
            by_cases hkl : k < m.length
            · have hcs : ∀ u, u < m.length → W3.cell? ⟨w.heap.size, u, none⟩ = some (.bool (S u)) := fun u hu => (ho.cellAt u (by omega)).trans (boolsOf_at hu)
              have HCS := Lib.hid hcs
              have HGW := Lib.hid (HG.out.below hbl)
              have HO3 := Lib.hid ho
              have HB3 := Lib.hid hbl
              clear ho hbl hcs
              go_wp2
              go_loop [7, 8, 9] (fun f t j => ∃ u : Nat, u ≤ m.length ∧ f = .bool (outOf m S k u) ∧ t = .bool (inOf m S k u) ∧ j = .int .i64 u) (fun _ _ j => m.length - (intOf j).toNat)
              case atStart => exact ⟨0, Nat.zero_le _, rfl, rfl, rfl⟩
              case round =>
                obtain ⟨u, hu, rfl, rfl, rfl⟩ := hrel
                by_cases hul : u < m.length
                · have hc := HCS.out u hul
                  obtain ⟨b1, o1, b2, o2, c2, rfl, q1, q2, _, _⟩ := HGW.out.num hkl (j := u) (by rw [HF.out.row k hkl]; exact hul)
                  obtain ⟨b1', o1', b3, o3, c3, hbb, q3, q4, _, _⟩ := HGW.out.num hul (j := k) (by rw [HF.out.row u hul]; exact hkl)
                  simp only [Option.some.injEq, Addr.mk.injEq, and_true] at hbb
                  obtain ⟨rfl, rfl⟩ := hbb
                  rw [HF.out.row k hkl] at q1
                  rw [HF.out.row u hul] at q3
                  have HN1 := Lib.hid (outOf_next m S k u)
                  have HN2 := Lib.hid (inOf_next m S k u)
                  generalize cellOf m k u = x at *
                  generalize cellOf m u k = y at *
                  generalize outOf m S k u = f at *
                  generalize inOf m S k u = t at *
                  generalize hSu : S u = su at *
                  cases f <;> cases t <;> cases su <;>
                  · go_wp2
                    go_round
                    case rel => exact ⟨u + 1, by omega, by rw [HN1.out]; simp, by rw [HN2.out]; simp, by go_num⟩
                    case measure => simp [intOf]; omega
                · obtain rfl : u = m.length := by omega
                  have hc := HCS.out k hkl
                  have HKEEP := Lib.hid (hsw.out.keep)
                  have HDROP := Lib.hid (hsw.out.drop hkl)
                  have hf3 := HO3.out.frozenAt k
                  have hst := (HO3.out.stored k (.bool false)).1
                  rw [boolsOf_set] at hst
                  have HST := Lib.hid hst
                  clear hst
                  generalize outOf m S k m.length = f at *
                  generalize inOf m S k m.length = t at *
                  generalize hSk : S k = sk at *
                  cases sk with
                  | false =>
                    have HS2 := Lib.hid (HKEEP.out rfl)
                    go_wp2
                    go_roundw
                    case rel => exact ⟨k + 1, S, b, by omega, by go_num, rfl, HO3.out, HB3.out, hs3, HS2⟩
                    case measure => simp [intOf]; omega
                  | true =>
                    cases f with
                    | false =>
                      have HS2 := Lib.hid (HDROP.out rfl)
                      go_wp2
                      go_roundw
                      case rel => exact ⟨k + 1, _, true, by omega, by go_num, rfl, HST.out, HB3.out.setCell (Nat.le_refl _) _, by simpa using hs3, HS2⟩
                      case measure => simp [intOf]; omega
                    | true =>
                      cases t with
                      | false =>
                        have HS2 := Lib.hid (HDROP.out rfl)
                        go_wp2
                        go_roundw
                        case rel => exact ⟨k + 1, _, true, by omega, by go_num, rfl, HST.out, HB3.out.setCell (Nat.le_refl _) _, by simpa using hs3, HS2⟩
                        case measure => simp [intOf]; omega
                      | true =>
                        have HS2 := Lib.hid (HKEEP.out rfl)
                        go_wp2
                        go_roundw
                        case rel => exact ⟨k + 1, S, b, by omega, by go_num, rfl, HO3.out, HB3.out, hs3, HS2⟩
                        case measure => simp [intOf]; omega
            · obtain rfl : k = m.length := by omega
              have HM3 : Hid (liveMeas w.heap.size m.length (.bool b) W3 < liveMeas w.heap.size m.length (.bool true) W2) := Lib.hid (by
                rw [HMEAS.out]
                cases b with
                | false => rw [liveMeas_false]; omega
                | true =>
                  rw [liveMeas_true (S := S) fun i hi => (ho.cellAt i (by omega)).trans (boolsOf_at hi)]
                  have := hsw.out.less rfl
                  omega)
              have HINV : Hid ((∀ T, Good m T → ∀ i, T i = true → S i = true) ∧ (∀ i, S i = true → i < m.length) ∧ (b = false → ∀ i, S i = true → liveStep m S i = true)) := Lib.hid ⟨hsw.out.good, hsw.out.sub, fun hb i hi => (hsw.out.same hb).2 i (hsw.out.sub i hi) hi⟩
              have HO3 := Lib.hid ho
              clear ho
              go_wp2
              go_roundw
              case rel => exact ⟨S, b, rfl, HO3.out, hbl, hs3, HINV⟩
              case measure => exact HM3.out
end Go.Proofs.YtalclebehbdliaaGreat
