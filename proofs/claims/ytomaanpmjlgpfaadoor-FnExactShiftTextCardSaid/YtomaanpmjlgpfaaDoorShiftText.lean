/-
  ShiftText, the model's and the program's: at every shift in memory the text that the plain words say; nothing that was there before is changed.
-/
import Derived.Test.YtomaanpmjlgpfaaDoorAppendZero
import Derived.Test.YtomaanpmjlgpfaaDoorFmt
import Derived.Test.YtomaanpmjlgpfaaDoorJoinLaw
import Derived.Test.YtomaanpmjlgpfaaDoorShiftIs
import Derived.Test.YtomaanpmjlgpfaaDoorTextLaw
import Derived.Deep.AppendLies
import Derived.OrdersHeld
namespace Go.Proofs.YtomaanpmjlgpfaaDoor
open Go Go.RowKit

def fmtB (n : Int) : ByteArray := ⟨(Lib.itoa n).toArray⟩
def textOf (L : Int) (ps : List ByteArray) : ByteArray := if isShift L ps = true then ⟨(joinOf (fmtB L :: ps) ⟨#[32]⟩).toArray⟩ else ByteArray.empty
theorem fmtB_size {L : Int} (h1 : 1 ≤ L) (h3 : L ≤ 3) : (fmtB L).size = 1 := by
  unfold fmtB Lib.itoa
  rw [if_neg (by omega), Lib.decDigits, dif_pos (by omega)]; rfl

theorem strs_cells {w : World} {g : Nat} {ps : List ByteArray} (h : StrsAt w g 0 ps) : ∀ j u, (ps.map Value.string)[j]? = some u → w.cell? ((⟨g, 0, none⟩ : Addr).add j) = some u := by
  intro j u hu
  rw [List.getElem?_map] at hu
  obtain ⟨x, hx, rfl⟩ := Option.map_eq_some_iff.1 hu
  have hj := (List.getElem?_eq_some_iff.1 hx).1
  have := h j hj
  rw [Nat.zero_add] at this
  rw [show (⟨g, 0, none⟩ : Addr).add j = ⟨g, j, none⟩ by unfold Addr.add; split <;> simp_all, this, List.getD_eq_getElem?_getD, hx]; rfl
theorem strs_one (ps : List ByteArray) : ∀ u ∈ ps.map Value.string, u.oneCell' = true := by
  intro u hu
  obtain ⟨x, _, rfl⟩ := List.mem_map.1 hu
  rfl

set_option maxRecDepth 100000 in
set_option maxHeartbeats 3200000 in
theorem impl_shiftText (L : Int) (g c : Nat) (ps : List ByteArray) (hl : ps.length ≤ 1048576) (ht : total ps ≤ 1048576) (hcap : ps.length ≤ c) (w : World) (hs : StrsAt w g 0 ps) (hg : g < w.heap.size) (hp : Pow w) :
    Calls Tryd.prog 8 #[.agg #[.int .i64 L, .slice (some ⟨g, 0, none⟩) ps.length c]] w (TextPost (textOf L ps) w) := by
  obtain ⟨i0, hi, hz0, hz1, hz2⟩ := info_parts infoStr
  have hb := (Below.refl w.heap.size w).alloc (Nat.le_refl _) (.cells #[.int .i64 L, .slice (some ⟨g, 0, none⟩) ps.length c] 27)
  have hs1 := hs.below hb hg
  have HI := Lib.hid (impl_isShift L (some ⟨g, 0, none⟩) c ps hl (fun k hk => by have := size_le_total hk; omega) _ (.of hs1 (Nat.lt_of_lt_of_le hg hb.size)))
  have HST := Lib.hid (fun w' (h : Below w.heap.size w w') => (show StrsAt w' g 0 ps ∧ Pow w' from ⟨hs.below h hg, hp.below h⟩))
  have HX := Lib.hid (fun w' (h : Below (w.heap.size + 1) (w.alloc (.cells #[.int .i64 L, .slice (some ⟨g, 0, none⟩) ps.length c] 27)) w') =>
    (⟨(h.cell (p := ⟨w.heap.size, 0, none⟩) (by show w.heap.size < _; omega)).trans (by simp), (h.cell (p := ⟨w.heap.size, 1, none⟩) (by show w.heap.size < _; omega)).trans (by simp), hb.trans (h.mono (by omega))⟩ :
      w'.cell? ⟨w.heap.size, 0, none⟩ = some (.int .i64 L) ∧ w'.cell? ⟨w.heap.size, 1, none⟩ = some (.slice (some ⟨g, 0, none⟩) ps.length c) ∧ Below w.heap.size w w'))
  clear hs hb hs1 hp
  go_enter Tryd.func8, Tryd.ntmps8
  go_wp2_with fail
  refine HI.out.mono ?_
  rintro e w1 ⟨rfl, hb1⟩
  rw [World.size_alloc] at hb1
  obtain ⟨x0, x1, hB1⟩ := HX.out w1 hb1
  have s1 : w.heap.size + 1 ≤ w1.heap.size := by have := hb1.size; rw [World.size_alloc] at this; exact this
  have HB1 := Lib.hid hB1
  clear hb1 hB1
  cases hsh : isShift L ps with
  | false =>
    have HR : Hid (textOf L ps = ByteArray.empty) := Lib.hid (by unfold textOf; rw [if_neg (by rw [hsh]; simp)])
    clear hsh
    go_wp2
    go_ret
    exact ⟨by rw [HR.out]; rfl, HB1.out⟩
  | true =>
    obtain ⟨l1, l3, l8⟩ := isShift_letters hsh
    have HR : Hid (textOf L ps = ⟨(joinOf (fmtB L :: ps) ⟨#[32]⟩).toArray⟩) := Lib.hid (by unfold textOf; rw [if_pos hsh])
    have HF := Lib.hid (impl_fmt L (by omega) (by omega) w1 (HST.out w1 HB1.out).2)
    have hf1 := fmtB_size l1 l3
    have htt : total (fmtB L :: ps) ≤ 1048577 := by
      have : total (fmtB L :: ps) = (fmtB L).size + total ps := by simp [total]
      omega
    have HJ : Hid (∀ gg cc w', w'.ownsRow w1.heap.size 9 1 (.slice (some ⟨gg, 0, none⟩) (ps.length + 1) cc) (ps.length + 1) ((fmtB L :: ps).map Value.string) → Calls Tryd.prog 21 #[.slice (some ⟨gg, 0, none⟩) (ps.length + 1) cc, .string ⟨#[32]⟩] w' (StrPost (joinOf (fmtB L :: ps) ⟨#[32]⟩) w')) :=
      Lib.hid (fun gg cc w' ho => by
        have hcc : ps.length + 1 ≤ cc := by
          rcases ho.2 with ⟨h', _⟩ | ⟨g', cap', cur, h', _, _, hnc, _⟩
          · simp at h'
          · simp only [Value.slice.injEq, Option.some.injEq, Addr.mk.injEq, and_true, true_and] at h'
            obtain ⟨rfl, rfl⟩ := h'
            exact hnc
        exact impl_join gg 0 cc (fmtB L :: ps) ⟨#[32]⟩ (by simp; omega) (by simpa using hcc) (by
          have : (⟨#[32]⟩ : ByteArray).size = 1 := rfl
          rw [this, List.length_cons]; omega) w' (StrsAt.of_owns ho (by simp)) (ho.lt gg rfl).2)
    clear hsh htt
    go_wp2_with fail
    refine HF.out.mono ?_
    rintro e w2 ⟨rfl, hb2⟩
    have y0 := (hb2.cell (p := ⟨w.heap.size, 0, none⟩) (by show w.heap.size < w1.heap.size; omega)).trans x0
    have y1 := (hb2.cell (p := ⟨w.heap.size, 1, none⟩) (by show w.heap.size < w1.heap.size; omega)).trans x1
    have HB2 := Lib.hid hb2
    have hsz2 := hb2.size
    have z0 := ((Below.refl w2.heap.size w2).alloc (Nat.le_refl _) (.cells #[.string ⟨(Lib.itoa L).toArray⟩] 9)).cell (p := ⟨w.heap.size, 0, none⟩) (by show w.heap.size < w2.heap.size; omega) |>.trans y0
    have z1 := ((Below.refl w2.heap.size w2).alloc (Nat.le_refl _) (.cells #[.string ⟨(Lib.itoa L).toArray⟩] 9)).cell (p := ⟨w.heap.size, 1, none⟩) (by show w.heap.size < w2.heap.size; omega) |>.trans y1
    have HL0 := Lib.hid (World.ownsRow_lit (base := w1.heap.size) (e := 9) (size := 1) w2 #[.string ⟨(Lib.itoa L).toArray⟩] 1 hsz2 (by decide) rfl)
    have HBA := Lib.hid (HB1.out.trans ((hb2.alloc hsz2 (.cells #[.string ⟨(Lib.itoa L).toArray⟩] 9)).mono (by omega)))
    clear hb2 x0 x1 y0 y1
    by_cases h0 : ps.length = 0
    · obtain rfl : ps = [] := List.eq_nil_of_length_eq_zero h0
      have HJ1 := Lib.hid (HJ.out w2.heap.size 1 _ HL0.out)
      go_wp2_with (at_builtin; refine wpList_append_zero rfl (.tmp 11) (.tmp 13) 22 rfl 9 i0 Tryd.underlying22 hi w2.heap.size 1 1 (Nat.le_refl _) ⟨g, 0, none⟩ c rfl rfl ?_)
      refine HJ1.out.mono ?_
      rintro e w4 ⟨rfl, hb4⟩
      have HB4 := Lib.hid (below_after HBA.out hb4)
      clear hb4
      go_wp2
      go_ret
      exact ⟨by rw [HR.out]; rfl, HB4.out⟩
    · have HST2 := Lib.hid (HST.out _ HBA.out).1
      have u1 := strs_cells HST2.out
      have u2 := strs_one ps
      go_wp2_with (at_builtin; refine wpList_append_lies _ rfl (.tmp 11) (.tmp 13) 22 rfl w1.heap.size 9 i0 (.string ByteArray.empty) 1 16 Tryd.underlying22 hi hz0 hz1 hz2 rfl (by decide) _ _ _ rfl HL0.out ⟨g, 0, none⟩ ps.length c (ps.map Value.string) rfl (by simp) u1 u2 (by omega) (by unfold maxLen; omega) (by omega) (by simp; omega) (w2.heap.size + 1) (by simp) ?_; intro gg cap2 w3 ho3 hg3 hat3 hlt3; have HJ3 := Lib.hid (HJ.out gg cap2 w3 (by rw [Nat.add_comm]; exact ho3)); have HB3 := Lib.hid (HBA.out.grown hg3 (by simp; omega) (fun q hq => by have h1 : w2.heap.size = q := Option.some.inj hq; omega)); clear ho3 hg3 hat3; rw [Nat.add_comm] at HJ3)
      refine HJ3.out.mono ?_
      rintro e w4 ⟨rfl, hb4⟩
      have HB4 := Lib.hid (below_after HB3.out hb4)
      clear hb4
      go_wp2
      go_ret
      exact ⟨by rw [HR.out]; rfl, HB4.out⟩
end Go.Proofs.YtomaanpmjlgpfaaDoor
