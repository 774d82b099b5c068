/-
  The program's determinant of a table that is right, by its first row: what the plain words say; nothing that was there before is changed.
-/
import Derived.Test.YtanelokploifhaaDoorPolyLess
import Derived.Test.YtanelokploifhaaDoorBaseTexts
import Derived.Test.YtanelokploifhaaDoorModelTexts
import Derived.Shelf.Abstract
namespace Go.Proofs.YtanelokploifhaaDoor
open Go Go.RowKit Go.Shelf

/-- The slice holds the table, each row has room for itself, and so has the table. -/
def GridR (w : World) (A : Option Addr) (c : Nat) (m : List (List Int)) : Prop := GridC w A m ∧ m.length ≤ c
theorem OwnG.gridR {w : World} {B : Nat} {v : Value} {m : List (List Int)} (h : OwnG w B v m) : ∃ A c, v = .slice A m.length c ∧ GridR w A c m := by
  obtain ⟨A, c, rfl, hg⟩ := h.gridC
  obtain ⟨vs, ho, hr⟩ := h
  obtain ⟨A2, c2, e, hc⟩ := row_room ho
  simp only [Value.slice.injEq, true_and] at e
  obtain ⟨_, rfl⟩ := e
  exact ⟨A, c, rfl, hg, hc⟩
theorem GridR.below {w w' : World} {A : Option Addr} {c : Nat} {m : List (List Int)} (h : GridR w A c m) (hb : Below w.heap.size w w') : GridR w' A c m := ⟨h.1.below hb, h.2⟩
theorem GridC.tail {w : World} {b off p2 : Nat} {t : List (List Int)} (h : GridC w (some ⟨b, off, none⟩) t) (hp : p2 = off + 1 ∨ t.length - 1 = 0) : GridC w (some ⟨b, p2, none⟩) (t.drop 1) := by
  intro h0
  rw [List.length_drop] at h0
  obtain ⟨b', off', hA, hs, hg⟩ := h (by omega)
  simp only [Option.some.injEq, Addr.mk.injEq, and_true] at hA
  obtain ⟨rfl, rfl⟩ := hA
  refine ⟨b, p2, rfl, fun k hk => ?_, hg⟩
  rw [List.length_drop] at hk
  obtain ⟨A', c', h1, h2⟩ := hs (k + 1) (by omega)
  have e : (t.drop 1).getD k [] = t.getD (k + 1) [] := by rw [List.getD_eq_getElem?_getD, List.getElem?_drop, List.getD_eq_getElem?_getD, Nat.add_comm 1 k]
  have e2 : p2 + k = off + (k + 1) := by omega
  exact ⟨A', c', by rw [e2, e]; exact h1, by rw [e]; exact h2⟩
theorem cell_in {w : World} {p : Addr} {v : Value} (h : w.cell? p = some v) : p.block < w.heap.size := World.block_lt_of_cell? w p h
set_option maxRecDepth 100000 in
theorem slice_tail (b off n c : Nat) (hn : n + 1 ≤ c) : ∃ p2, (p2 = off + 1 ∨ n = 0) ∧ ∀ w, (Instr.slice 24 (.slice (some ⟨b, off, none⟩) (n + 1) c) (some (.int .i64 1)) none none).run Tryd.prog w = .ok (.slice (some ⟨b, p2, none⟩) n (c - 1)) w := by
  have ht : Tryd.prog.underlying 24 = some (.slice (Tryd.prog.elem 24)) := Tryd.underlying24
  have he : Tryd.prog.elem 24 = 48 := by kernel_rfl
  by_cases h : c = 1
  · refine ⟨off, Or.inr (by omega), fun w => ?_⟩
    rw [run_slice_l w _ _ _ _ ht .i64 1 (by omega) (by omega), he, size_row]
    simp [Result.andThen, sliced, h]
  · refine ⟨off + 1, Or.inl rfl, fun w => ?_⟩
    rw [run_slice_l w _ _ _ _ ht .i64 1 (by omega) (by omega), he, size_row]
    simp [Result.andThen, sliced, h, add_zero_at]

set_option maxRecDepth 100000 in
set_option maxHeartbeats 3200000 in
theorem det_term (n : Nat) (hn : n ≤ 3) (IH : ∀ (A : Option Addr) (c : Nat) (t : List (List Int)), Sq 10000 n t → ∀ (w : World), GridR w A c t → Calls Tryd.prog 45 #[.slice A n c] w (Scalar (.int .i64 (detT t)) w))
    (gt b off c : Nat) (t : List (List Int)) (hs : Sq 10000 (n + 1) t) (hc : n + 1 ≤ c) (j : Nat) (hj : j < n + 1) (W : World) (h1 : W.cell? ⟨gt, 0, none⟩ = some (.slice (some ⟨b, off, none⟩) (n + 1) c)) (hg : GridC W (some ⟨b, off, none⟩) t) :
    Calls Tryd.prog 67 #[.int .i64 (j : Int), .int .i64 (cellOf t 0 j), .pointer (some ⟨gt, 0, none⟩)] W (Scalar (.int .i64 (sgn j * cellOf t 0 j * detT (lessT t j))) W) := by
  have hs2 := (hs.less hj).1
  have hgt : gt < W.heap.size := cell_in h1
  have HPW := Lib.hid (fun w => impl_power (-1) j (by omega) (fun k _ => by rw [sgn_pow]; rcases sgn_two k with e | e <;> rw [e] <;> decide) w)
  rw [sgn_pow] at HPW
  have hx := hs.cell 0 j (by omega) hj
  have hd := Nat.le_trans hs2.abs (detB_mono 10000 (by omega) (Nat.le_refl _))
  have hd3 : (detT (lessT t j)).natAbs ≤ 6000000000000 := Nat.le_trans hs2.abs (detB_le3 hn)
  have hsg := sgn_two j
  obtain ⟨p2, hp2, hsl⟩ := slice_tail b off n c hc
  have hl1 : (t.drop 1).length = n := by rw [List.length_drop, hs.len]; rfl
  have hln : ((t.drop 1).map (lessR j)).length = n := by rw [List.length_map, hl1]
  have HWO : Hid (∀ w', Below W.heap.size W w' → Calls Tryd.prog 69 #[.slice (some ⟨b, p2, none⟩) n (c - 1), .int .i64 (j : Int)] w' (NewG (lessT t j) w')) := Lib.hid fun w' hb => by
    have h := impl_without (some ⟨b, p2, none⟩) (c - 1) (t.drop 1) (n + 1) (by omega) (by omega) (fun i hi => by
      have e : (t.drop 1).getD i [] = t.getD (i + 1) [] := by rw [List.getD_eq_getElem?_getD, List.getElem?_drop, List.getD_eq_getElem?_getD, Nat.add_comm 1 i]
      rw [e, hs.row (i + 1) (by omega)]) j hj w' ((hg.below hb).tail (by rw [hs.len]; exact hp2))
    rw [hl1] at h
    exact h
  have HLN : Hid ((lessT t j).length = n) := Lib.hid hln
  have HDT : Hid (∀ A c w', GridR w' A c (lessT t j) → Calls Tryd.prog 45 #[.slice A n c] w' (Scalar (.int .i64 (detT (lessT t j))) w')) := Lib.hid fun A c w' h => IH A c _ hs2 w' h
  have HC0 : Hid (∀ w', Below W.heap.size W w' → w'.cell? ⟨gt, 0, none⟩ = some (.slice (some ⟨b, off, none⟩) (n + 1) c)) := Lib.hid fun w' hb => (hb.cell (p := ⟨gt, 0, none⟩) hgt).trans h1
  clear IH hs hs2 hg hd hp2 hl1 hln hgt hc hj
  generalize detT (lessT t j) = d at *
  generalize cellOf t 0 j = x at *
  generalize lessT t j = t2 at *
  generalize sgn j = σ at *
  have HW : Hid (IntKind.i64.wrap (IntKind.i64.wrap (σ * x) * d) = σ * x * d) := Lib.hid (by
    have e1 : IntKind.i64.wrap (σ * x) = σ * x := by rcases hsg with e | e <;> rw [e, IntKind.wrap_i64] <;> omega
    rw [e1]
    have e2 := term_abs hsg hx hd3
    generalize σ * x * d = z at *
    rw [IntKind.wrap_i64]; omega)
  clear hsg hx hd3
  go_enter Tryd.func67, Tryd.ntmps67
  go_wp2
  go_region_held3 (fun w' => w'.cell? ⟨gt, 0, none⟩ = some (.slice (some ⟨b, off, none⟩) (n + 1) c)) (first | exact z0 | exact y0 | go_keep) (first | (go_at_call 68; refine (HPW.out _).mono ?_; rintro e w5 ⟨rfl, rfl⟩) | (go_at_call 69; refine (HWO.out _ (by first | exact Below.refl _ _ | exact (Below.refl _ _).drew)).mono ?_; rintro e w6 ⟨v6, rfl, ho6, hb6⟩; obtain ⟨A6, c6, rfl, hg6⟩ := ho6.gridR; rw [HLN.out]; have hq6 : Below W.heap.size W w6 := (Below.refl W.heap.size W).drew.trans hb6; have hs6 := hq6.size; have y0 := HC0.out w6 hq6) | (go_at_call 45; refine (HDT.out A6 c6 w6 hg6).mono ?_; rintro e w7 ⟨rfl, hb7⟩; have hq7 : Below W.heap.size W w7 := hq6.trans (hb7.mono hs6); have z0 := HC0.out w7 hq7))
  go_wp2
  go_ret
  exact ⟨by rw [HW.out]; rfl, hq7⟩

theorem enters_det (args : Array Value) (w : World) : (callFunc 67 args).run Tryd.prog w = .ok (.enter 67 args) w := enters_of Tryd.func67 (by kernel_rfl) rfl args w
theorem box_at (w : World) (v : Value) (t : TypeId) : (w.alloc (.cells #[v] t)).cell? ⟨w.heap.size, 0, none⟩ = some v := by
  unfold World.cell?; rw [heap_alloc_new w _]; rfl

set_option maxRecDepth 100000 in
set_option maxHeartbeats 3200000 in
theorem impl_det : ∀ (n : Nat), n ≤ 4 → ∀ (A : Option Addr) (c : Nat) (t : List (List Int)), Sq 10000 n t → ∀ (w : World), GridR w A c t →
    Calls Tryd.prog 45 #[.slice A n c] w (Scalar (.int .i64 (detT t)) w) := by
  intro n
  induction n with
  | zero =>
    intro _ A c t hs w _
    have hd : detT t = 1 := by unfold detT; rw [hs.len]; rfl
    rw [hd]
    have hb : Below w.heap.size w (w.alloc (.cells #[.slice A 0 c] 24)) := (Below.refl _ _).alloc (Nat.le_refl _) _
    have hc := box_at w (.slice A 0 c) 24
    have HB := Lib.hid hb
    clear hb hs hd
    go_enter Tryd.func45, Tryd.ntmps45
    go_wp2
    go_ret
    exact ⟨rfl, HB.out⟩
  | succ n ih =>
    intro hn A c t hs w hg
    obtain ⟨b, off, A0, c0, rfl, k1, hr, hc0, hb⟩ := hg.1.rowAt (k := 0) (by rw [hs.len]; omega)
    rw [hs.row 0 (by omega)] at k1
    have hcn : n + 1 ≤ c := by have := hg.2; rw [hs.len] at this; exact this
    obtain ⟨W1, hW1⟩ : ∃ W1, w.alloc (.cells #[.slice (some ⟨b, off, none⟩) (n + 1) c] 24) = W1 := ⟨_, rfl⟩
    have hb1 : Below w.heap.size w W1 := by rw [← hW1]; exact (Below.refl _ _).alloc (Nat.le_refl _) _
    have hbox : W1.cell? ⟨w.heap.size, 0, none⟩ = some (.slice (some ⟨b, off, none⟩) (n + 1) c) := by rw [← hW1]; exact box_at w _ _
    have hlt : w.heap.size < W1.heap.size := cell_in hbox
    have hl0 : (t.getD 0 []).length = n + 1 := hs.row 0 (by omega)
    have hT : TermI W1.heap.size W1 67 #[.pointer (some ⟨w.heap.size, 0, none⟩)] (t.getD 0 []) (fun j => sgn j * cellOf t 0 j * detT (lessT t j)) := fun k W hk hW => by
      rw [hl0] at hk
      exact det_term n (by omega) (ih (by omega)) w.heap.size b off c t hs hcn k hk W ((hW.cell (p := ⟨w.heap.size, 0, none⟩) hlt).trans hbox) (hg.1.below (hb1.trans (hW.mono hb1.size)))
    have HS := Lib.hid (sum_ints W1.heap.size W1 67 #[.pointer (some ⟨w.heap.size, 0, none⟩)] enters_det A0 c0 (t.getD 0 []) _ hT (by omega) (fun k hk => by
      have h1 := hs.part (k := k) (by omega)
      have h2 := detB_mono 10000 hn (Nat.le_refl _)
      omega) W1 (Below.refl _ _) (Nat.le_refl _) (hr.below hb1))
    rw [hl0, ← hs.det] at HS
    have k2 : W1.cell? ⟨b, off, none⟩ = some (.slice A0 (n + 1) c0) := (hb1.cell (p := ⟨b, off, none⟩) hb).trans k1
    have HB1 := Lib.hid hb1
    have hnz : ((n : Int) + 1 == 0) = false := by rw [beq_eq_false_iff_ne]; omega
    have hn0 : (0 : Int) < (n : Int) + 1 := by omega
    clear ih hs hg hr hc0 k1 hT hl0 hb1 hcn
    go_enter Tryd.func45, Tryd.ntmps45
    go_wp2_with fail
    refine HS.out.mono ?_
    rintro e w2 ⟨rfl, hb2⟩
    have HB2 := Lib.hid (below_behind HB1.out hb2)
    clear hb2
    go_wp2
    go_ret
    exact ⟨rfl, HB2.out⟩
end Go.Proofs.YtanelokploifhaaDoor
