/-
  ShiftText of the model: at every shift in memory the text that the plain words say; nothing that was there before is changed.
-/
import Derived.Test.YtomaanpmjlgpfaaDoorShiftText
namespace Go.Proofs.YtomaanpmjlgpfaaDoor
open Go Go.RowKit

set_option maxRecDepth 100000 in
set_option maxHeartbeats 3200000 in
theorem spec_shiftText (L : Int) (g c : Nat) (ps : List ByteArray) (hl : ps.length ≤ 1048576) (ht : total ps ≤ 1048576) (w : World) (hs : StrsAt w g 0 ps) (hg : g < w.heap.size) :
    Calls Tryd.prog 6 #[.agg #[.int .i64 L, .slice (some ⟨g, 0, none⟩) ps.length c]] w (TextPost (textOf L ps) w) := by
  obtain ⟨i0, hi, hz0, hz1, hz2⟩ := info_parts infoStr
  have hb := (Below.refl w.heap.size w).alloc (Nat.le_refl _) (.cells #[.int .i64 L, .slice (some ⟨g, 0, none⟩) ps.length c] 27)
  have hs1 := hs.below hb hg
  have HI := Lib.hid (spec_isShift L (some ⟨g, 0, none⟩) c ps hl (fun k hk => by have := size_le_total hk; omega) _ (.of hs1 (Nat.lt_of_lt_of_le hg hb.size)))
  have HST := Lib.hid (fun w' (h : Below w.heap.size w w') => (show StrsAt w' g 0 ps from hs.below h hg))
  have HX := Lib.hid (fun w' (h : Below (w.heap.size + 1) (w.alloc (.cells #[.int .i64 L, .slice (some ⟨g, 0, none⟩) ps.length c] 27)) w') =>
    (⟨(h.cell (p := ⟨w.heap.size, 0, none⟩) (by show w.heap.size < _; omega)).trans (by simp), (h.cell (p := ⟨w.heap.size, 1, none⟩) (by show w.heap.size < _; omega)).trans (by simp), hb.trans (h.mono (by omega))⟩ :
      w'.cell? ⟨w.heap.size, 0, none⟩ = some (.int .i64 L) ∧ w'.cell? ⟨w.heap.size, 1, none⟩ = some (.slice (some ⟨g, 0, none⟩) ps.length c) ∧ Below w.heap.size w w'))
  clear hs hb hs1
  go_enter Tryd.func6, Tryd.ntmps6
  go_wp2_with fail
  refine HI.out.mono ?_
  rintro e w1 ⟨rfl, hb1⟩
  rw [World.size_alloc] at hb1
  obtain ⟨x0, x1, hB1⟩ := HX.out w1 hb1
  have s1 : w.heap.size + 1 ≤ w1.heap.size := by have := hb1.size; rw [World.size_alloc] at this; exact this
  have HB1 := Lib.hid hB1
  clear hb1 hB1
  cases hsh : isShift L ps with
  | false =>
    have HR : Hid (textOf L ps = ByteArray.empty) := Lib.hid (by unfold textOf; rw [if_neg (by rw [hsh]; simp)])
    clear hsh
    go_wp2
    go_ret
    exact ⟨by rw [HR.out]; rfl, HB1.out⟩
  | true =>
    obtain ⟨l1, l3, l8⟩ := isShift_letters hsh
    have HR : Hid (textOf L ps = ⟨(joinOf (fmtB L :: ps) ⟨#[32]⟩).toArray⟩) := Lib.hid (by unfold textOf; rw [if_pos hsh])
    have HF := Lib.hid (fun w' => spec_fmt L (by omega) (by omega) w')
    have hf1 := fmtB_size l1 l3
    have htt : total (fmtB L :: ps) ≤ 1048577 := by
      have : total (fmtB L :: ps) = (fmtB L).size + total ps := by simp [total]
      omega
    have HJ : Hid (∀ gg cc w', w'.ownsRow w1.heap.size 9 1 (.slice (some ⟨gg, 0, none⟩) (ps.length + 1) cc) (ps.length + 1) ((fmtB L :: ps).map Value.string) → Calls Tryd.prog 16 #[.slice (some ⟨gg, 0, none⟩) (ps.length + 1) cc, .string ⟨#[32]⟩] w' (StrPost (joinOf (fmtB L :: ps) ⟨#[32]⟩) w')) :=
      Lib.hid (fun gg cc w' ho => spec_join gg 0 cc (fmtB L :: ps) ⟨#[32]⟩ (by simp; omega) (by
          have : (⟨#[32]⟩ : ByteArray).size = 1 := rfl
          rw [this, List.length_cons]; omega) w' (StrsAt.of_owns ho (by simp)) (ho.lt gg rfl).2)
    clear hsh htt
    go_wp2
    by_cases h0 : ps.length = 0
    · obtain rfl : ps = [] := List.eq_nil_of_length_eq_zero h0
      refine wp_region_held_drew (S := (fun w' => w'.cell? ⟨w.heap.size, 0, none⟩ = some (.int .i64 L) ∧ w'.cell? ⟨w.heap.size, 1, none⟩ = some (.slice (some ⟨g, 0, none⟩) 0 c))) (by kernel_rfl) ?hS0a (fun hHeld => ?_)
      case hS0a => exact ⟨x0, x1⟩
      refine wpAnyH_take (i := 0) (v := ?v0a) rfl (by kernel_rfl) (by kernel_rfl) (by kernel_rfl) (fun _ _ _ h => h) (Or.inl ⟨by rfl, ?hy0a⟩) (by assumption) ?_
      case hy0a => (intro w hSw; (try dsimp only at hSw); go_simp; try with_reducible rfl)
      try simp only [Act.put, List.setIfInBounds_toArray]
      refine wpAnyH_take (i := 1) (v := ?v1a) rfl (by kernel_rfl) (by kernel_rfl) (by kernel_rfl) (fun _ _ _ h => h) (Or.inl ⟨by rfl, ?hy1a⟩) (by assumption) ?_
      case hy1a => (intro w hSw; (try dsimp only at hSw); go_simp; try with_reducible rfl)
      try simp only [Act.put]
      refine wpAnyH_take (i := 4) (v := ?v4a) rfl (by kernel_rfl) (by kernel_rfl) (by kernel_rfl) (fun _ _ _ h => h) (Or.inl ⟨by rfl, ?hy4a⟩) (by assumption) ?_
      case hy4a => (intro w hSw; (try dsimp only at hSw); go_simp; try with_reducible rfl)
      try simp only [Act.put]
      refine wpAnyH_take (i := 5) (v := ?v5a) rfl (by kernel_rfl) (by kernel_rfl) (by kernel_rfl) (fun _ _ _ h => h) (Or.inl ⟨by rfl, ?hy5a⟩) (by assumption) ?_
      case hy5a => (intro w hSw; (try dsimp only at hSw); go_simp; try with_reducible rfl)
      try simp only [Act.put]
      refine wpAnyH_ready (rs := [2]) (by kernel_rfl) (by simp) ?_
      refine AllReadyH.cons rfl (fun K hK => ?_) AllReadyH.nil
      go_simp
      go_at_call 17
      refine (HF.out _).mono ?_
      rintro e w2 ⟨rfl, hb2⟩
      have q2 : Below w1.heap.size w1 w2 := (Below.refl w1.heap.size w1).drew.trans hb2
      have hsz2 := q2.size
      have y0 := (q2.cell (p := ⟨w.heap.size, 0, none⟩) (by show w.heap.size < w1.heap.size; omega)).trans x0
      have y1 := (q2.cell (p := ⟨w.heap.size, 1, none⟩) (by show w.heap.size < w1.heap.size; omega)).trans x1
      go_wp2_with fail
      refine hK.out _ _ ?hS2a (fun hHeld => ?_)
      case hS2a => (try dsimp only); exact ⟨y0, y1⟩
      clear hK K
      try simp only [Act.put, List.setIfInBounds_toArray, List.set_cons_zero, List.set_cons_succ]
      refine wpAnyH_ready (rs := [3]) (by kernel_rfl) (by simp) ?_
      refine AllReadyH.cons rfl (fun K hK => ?_) AllReadyH.nil
      go_simp
      have q3 : Below w1.heap.size w1 (w2.alloc (.cells #[.string ⟨(Lib.itoa L).toArray⟩] 9)) := q2.alloc hsz2 _
      have z0 := (q3.cell (p := ⟨w.heap.size, 0, none⟩) (by show w.heap.size < w1.heap.size; omega)).trans x0
      have z1 := (q3.cell (p := ⟨w.heap.size, 1, none⟩) (by show w.heap.size < w1.heap.size; omega)).trans x1
      refine hK.out _ _ ?hS3a (fun hHeld => ?_)
      case hS3a => (try dsimp only); exact ⟨z0, z1⟩
      clear hK K
      try simp only [Act.put, List.setIfInBounds_toArray, List.set_cons_zero, List.set_cons_succ]
      have HL0 := Lib.hid (World.ownsRow_lit (base := w1.heap.size) (e := 9) (size := 1) w2 #[.string ⟨(Lib.itoa L).toArray⟩] 1 hsz2 (by decide) rfl)
      refine wpAnyH_ready (rs := [6]) (by kernel_rfl) (by simp) ?_
      refine AllReadyH.cons rfl (fun K hK => ?_) AllReadyH.nil
      refine step_append_zero rfl (.tmp 9) (.tmp 11) 22 rfl 9 i0 Tryd.underlying22 hi w2.heap.size 1 1 (Nat.le_refl _) ⟨g, 0, none⟩ c rfl rfl ?_
      refine hK.out _ _ ?hS6a (fun hHeld => ?_)
      case hS6a => (try dsimp only); exact ⟨z0, z1⟩
      clear hK K
      try simp only [Act.put, List.setIfInBounds_toArray]
      refine wpAnyH_ready (rs := [7]) (by kernel_rfl) (by simp) ?_
      refine AllReadyH.cons rfl (fun K hK => ?_) AllReadyH.nil
      go_simp
      go_at_call 16
      refine (HJ.out w2.heap.size 1 _ HL0.out).mono ?_
      rintro e w5 ⟨rfl, hb5⟩
      have q5 : Below w1.heap.size w1 w5 := q3.trans (hb5.mono q3.size)
      have v0 := (q5.cell (p := ⟨w.heap.size, 0, none⟩) (by show w.heap.size < w1.heap.size; omega)).trans x0
      have v1 := (q5.cell (p := ⟨w.heap.size, 1, none⟩) (by show w.heap.size < w1.heap.size; omega)).trans x1
      go_wp2_with fail
      refine hK.out _ _ ?hS7a (fun hHeld => ?_)
      case hS7a => (try dsimp only); exact ⟨v0, v1⟩
      clear hK K
      try simp only [Act.put, List.setIfInBounds_toArray, List.set_cons_zero, List.set_cons_succ]
      refine wpAnyH_ready (rs := [8]) (by kernel_rfl) (by simp) ?_
      refine AllReadyH.cons rfl (fun K hK => ?_) AllReadyH.nil
      go_simp
      refine hK.out _ _ ?hS8a (fun hHeld => ?_)
      case hS8a => (try dsimp only); exact ⟨v0, v1⟩
      clear hK K
      try simp only [Act.put, List.setIfInBounds_toArray, List.set_cons_zero, List.set_cons_succ]
      refine wpAnyH_done (by kernel_rfl) ?_ _
      go_wp2
      go_ret
      exact ⟨by rw [HR.out]; rfl, HB1.out.trans (q5.mono (by omega))⟩
    · skip
      refine wp_region_held_drew (S := (fun w' => w'.cell? ⟨w.heap.size, 0, none⟩ = some (.int .i64 L) ∧ w'.cell? ⟨w.heap.size, 1, none⟩ = some (.slice (some ⟨g, 0, none⟩) ps.length c))) (by kernel_rfl) ?hS0b (fun hHeld => ?_)
      case hS0b => exact ⟨x0, x1⟩
      refine wpAnyH_take (i := 0) (v := ?v0b) rfl (by kernel_rfl) (by kernel_rfl) (by kernel_rfl) (fun _ _ _ h => h) (Or.inl ⟨by rfl, ?hy0b⟩) (by assumption) ?_
      case hy0b => (intro w hSw; (try dsimp only at hSw); go_simp; try with_reducible rfl)
      try simp only [Act.put, List.setIfInBounds_toArray]
      refine wpAnyH_take (i := 1) (v := ?v1b) rfl (by kernel_rfl) (by kernel_rfl) (by kernel_rfl) (fun _ _ _ h => h) (Or.inl ⟨by rfl, ?hy1b⟩) (by assumption) ?_
      case hy1b => (intro w hSw; (try dsimp only at hSw); go_simp; try with_reducible rfl)
      try simp only [Act.put]
      refine wpAnyH_take (i := 4) (v := ?v4b) rfl (by kernel_rfl) (by kernel_rfl) (by kernel_rfl) (fun _ _ _ h => h) (Or.inl ⟨by rfl, ?hy4b⟩) (by assumption) ?_
      case hy4b => (intro w hSw; (try dsimp only at hSw); go_simp; try with_reducible rfl)
      try simp only [Act.put]
      refine wpAnyH_take (i := 5) (v := ?v5b) rfl (by kernel_rfl) (by kernel_rfl) (by kernel_rfl) (fun _ _ _ h => h) (Or.inl ⟨by rfl, ?hy5b⟩) (by assumption) ?_
      case hy5b => (intro w hSw; (try dsimp only at hSw); go_simp; try with_reducible rfl)
      try simp only [Act.put]
      refine wpAnyH_ready (rs := [2]) (by kernel_rfl) (by simp) ?_
      refine AllReadyH.cons rfl (fun K hK => ?_) AllReadyH.nil
      go_simp
      go_at_call 17
      refine (HF.out _).mono ?_
      rintro e w2 ⟨rfl, hb2⟩
      have q2 : Below w1.heap.size w1 w2 := (Below.refl w1.heap.size w1).drew.trans hb2
      have hsz2 := q2.size
      have y0 := (q2.cell (p := ⟨w.heap.size, 0, none⟩) (by show w.heap.size < w1.heap.size; omega)).trans x0
      have y1 := (q2.cell (p := ⟨w.heap.size, 1, none⟩) (by show w.heap.size < w1.heap.size; omega)).trans x1
      go_wp2_with fail
      refine hK.out _ _ ?hS2b (fun hHeld => ?_)
      case hS2b => (try dsimp only); exact ⟨y0, y1⟩
      clear hK K
      try simp only [Act.put, List.setIfInBounds_toArray, List.set_cons_zero, List.set_cons_succ]
      refine wpAnyH_ready (rs := [3]) (by kernel_rfl) (by simp) ?_
      refine AllReadyH.cons rfl (fun K hK => ?_) AllReadyH.nil
      go_simp
      have q3 : Below w1.heap.size w1 (w2.alloc (.cells #[.string ⟨(Lib.itoa L).toArray⟩] 9)) := q2.alloc hsz2 _
      have z0 := (q3.cell (p := ⟨w.heap.size, 0, none⟩) (by show w.heap.size < w1.heap.size; omega)).trans x0
      have z1 := (q3.cell (p := ⟨w.heap.size, 1, none⟩) (by show w.heap.size < w1.heap.size; omega)).trans x1
      refine hK.out _ _ ?hS3b (fun hHeld => ?_)
      case hS3b => (try dsimp only); exact ⟨z0, z1⟩
      clear hK K
      try simp only [Act.put, List.setIfInBounds_toArray, List.set_cons_zero, List.set_cons_succ]
      have HL0 := Lib.hid (World.ownsRow_lit (base := w1.heap.size) (e := 9) (size := 1) w2 #[.string ⟨(Lib.itoa L).toArray⟩] 1 hsz2 (by decide) rfl)
      refine wpAnyH_ready (rs := [6]) (by kernel_rfl) (by simp) ?_
      refine AllReadyH.cons rfl (fun K hK => ?_) AllReadyH.nil
      have HST2 := Lib.hid (HST.out _ (HB1.out.trans (q3.mono (by omega))))
      have u1 := strs_cells HST2.out
      have u2 := strs_one ps
      refine step_append_lies _ rfl (.tmp 9) (.tmp 11) 22 rfl w1.heap.size 9 i0 (.string ByteArray.empty) 1 16 Tryd.underlying22 hi hz0 hz1 hz2 rfl (by decide) _ _ _ rfl HL0.out ⟨g, 0, none⟩ ps.length c (ps.map Value.string) rfl (by simp) u1 u2 (by omega) (by unfold maxLen; omega) (by omega) (by simp; omega) (w2.heap.size + 1) (by simp) ?_
      intro gg cap2 w3 ho3 hg3 hat3 hlt3
      have q4 : Below w1.heap.size w1 w3 := q3.grown hg3 (by simp; omega) (fun q hq => by have h1 : w2.heap.size = q := Option.some.inj hq; omega)
      have s0 := (q4.cell (p := ⟨w.heap.size, 0, none⟩) (by show w.heap.size < w1.heap.size; omega)).trans x0
      have s1 := (q4.cell (p := ⟨w.heap.size, 1, none⟩) (by show w.heap.size < w1.heap.size; omega)).trans x1
      rw [Nat.add_comm] at ho3 ⊢
      refine hK.out _ _ ?hS6b (fun hHeld => ?_)
      case hS6b => (try dsimp only); exact ⟨s0, s1⟩
      clear hK K
      try simp only [Act.put, List.setIfInBounds_toArray]
      refine wpAnyH_ready (rs := [7]) (by kernel_rfl) (by simp) ?_
      refine AllReadyH.cons rfl (fun K hK => ?_) AllReadyH.nil
      go_simp
      go_at_call 16
      refine (HJ.out gg cap2 w3 ho3).mono ?_
      rintro e w5 ⟨rfl, hb5⟩
      have q5 : Below w1.heap.size w1 w5 := q4.trans (hb5.mono q4.size)
      have v0 := (q5.cell (p := ⟨w.heap.size, 0, none⟩) (by show w.heap.size < w1.heap.size; omega)).trans x0
      have v1 := (q5.cell (p := ⟨w.heap.size, 1, none⟩) (by show w.heap.size < w1.heap.size; omega)).trans x1
      go_wp2_with fail
      refine hK.out _ _ ?hS7b (fun hHeld => ?_)
      case hS7b => (try dsimp only); exact ⟨v0, v1⟩
      clear hK K
      try simp only [Act.put, List.setIfInBounds_toArray, List.set_cons_zero, List.set_cons_succ]
      refine wpAnyH_ready (rs := [8]) (by kernel_rfl) (by simp) ?_
      refine AllReadyH.cons rfl (fun K hK => ?_) AllReadyH.nil
      go_simp
      refine hK.out _ _ ?hS8b (fun hHeld => ?_)
      case hS8b => (try dsimp only); exact ⟨v0, v1⟩
      clear hK K
      try simp only [Act.put, List.setIfInBounds_toArray, List.set_cons_zero, List.set_cons_succ]
      refine wpAnyH_done (by kernel_rfl) ?_ _
      go_wp2
      go_ret
      exact ⟨by rw [HR.out]; rfl, HB1.out.trans (q5.mono (by omega))⟩
theorem atCopies_shiftText (W : World) (L : Int) (xs : List ByteArray) : AtCopiesT W 6 L xs (textOf L xs) :=
  fun g c w' _ hl ht _ hs hg => spec_shiftText L g c xs hl ht w' hs hg
theorem atCopies_impl_shiftText (W : World) (hp : Pow W) (L : Int) (xs : List ByteArray) : AtCopiesT W 8 L xs (textOf L xs) :=
  fun g c w' hB hl ht hc hs hg => impl_shiftText L g c xs hl ht hc w' hs hg (hp.below hB)
end Go.Proofs.YtomaanpmjlgpfaaDoor
