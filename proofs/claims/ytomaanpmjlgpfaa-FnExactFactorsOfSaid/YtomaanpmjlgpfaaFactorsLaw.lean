/-
  The law on FactorsOf: at every string and every int it returns true; nothing that was there before is changed.
-/
import Derived.Test.YtomaanpmjlgpfaaFactors
import Derived.Test.YtomaanpmjlgpfaaListLaw
namespace Go.Proofs.Ytomaanpmjlgpfaa
open Go Go.RowKit

set_option maxRecDepth 100000 in
set_option maxHeartbeats 1600000 in
theorem law_factorsOf (s : ByteArray) (n : Int) (w : World) :
    Calls Try.prog 5 #[.string s, .int .i64 n] w fun e w' => e = .returned (.bool true) ∧ Below w.heap.size w w' := by
  by_cases hbig : 1048576 < s.size
  · go_enter Try.func5, Try.ntmps5
    go_wp2
    go_ret
    exact ⟨rfl, Below.refl _ _⟩
  have HS := Lib.hid (fun w => spec_factors s n (by omega) w)
  have HI := Lib.hid (fun w => impl_factors s n (by omega) w)
  have hle : (factorsOf s n).length ≤ 1000000 := factorsOf_length s n
  generalize factorsOf s n = ps at HS HI hle
  by_cases hpos : 0 < ps.length
  · go_enter Try.func5, Try.ntmps5
    go_wp2_with fail
    refine (HS.out w).mono fun e w1 h1 => ?_
    obtain ⟨g0, c0, rfl, ho0, hb1⟩ := h1.full hpos
    clear h1
    have hg0 := ho0.lt g0 rfl
    go_wp2_with fail
    refine (HI.out w1).mono fun e w2 h2 => ?_
    obtain ⟨g1, c1, rfl, ho1, hb2⟩ := h2.full hpos
    clear h2
    have hg1 := ho1.lt g1 rfl
    have hB2 : Below w.heap.size w w2 := hb1.trans (hb2.mono hb1.size)
    have HO0 := Lib.hid (StrsAt.of_owns ho0 rfl)
    have HO1 := Lib.hid ho1
    have s0 := Lib.hid (HO0.out.below hb2 hg0.2)
    have HE := Lib.hid (same_some g1 0 c1 g0 0 c0 ps (by omega) w2 (StrsAt.of_owns ho1 rfl) s0.out)
    clear ho0 ho1
    go_wp2_with fail
    refine HE.out.mono ?_
    rintro e w3 ⟨rfl, hb3⟩
    have hB3 : Below w.heap.size w w3 := hB2.trans (hb3.mono hB2.size)
    have HM : Hid (Calls Try.prog 40 #[.slice (some ⟨g1, 0, none⟩) ps.length c1, .int .i64 1] w3 (MarksPost w1.heap.size 1 g1 c1 ps.length w3)) :=
      Lib.hid (mark_row w1.heap.size 1 g1 c1 ps (by decide) (by decide) (by omega) w3 (owns_below HO1.out hb3))
    have s3 := Lib.hid (s0.out.below hb3 (Nat.lt_of_lt_of_le hg0.2 hb2.size))
    go_wp2_with fail
    refine HM.out.mono ?_
    rintro e w4 ⟨rfl, ho4, hg4⟩
    have hB4 : Below w.heap.size w w4 := hB3.grown hg4 hB3.size (fun k hk => by
      injection hk with hk
      subst hk
      exact Nat.le_trans hb1.size hg1.1)
    have s4 := Lib.hid (s3.out.grown hg4 (by omega))
    have h4 := (ho4.lt g1 rfl).2
    have m4 := Lib.hid (StrsAt.of_owns ho4 (by rw [marks_length]))
    have HH4 : Hid (Calls Try.prog 41 #[.slice (some ⟨g1, 0, none⟩) ps.length c1, .int .i64 1] w4 (HeldPost 1 ps.length w4)) :=
      Lib.hid (held_row 1 g1 c1 ps.length (by decide) (by decide) (by omega) w4 m4.out h4)
    clear ho4 hg4
    go_wp2_with fail
    refine HH4.out.mono ?_
    rintro e w5 ⟨rfl, hb5⟩
    have hB5 : Below w.heap.size w w5 := hB4.trans (hb5.mono hB4.size)
    go_wp2_with fail
    refine (HI.out w5).mono fun e w6 h6 => ?_
    obtain ⟨g2, c2, rfl, ho6, hb6⟩ := h6.full hpos
    clear h6
    have hB6 : Below w.heap.size w w6 := hB5.trans (hb6.mono hB5.size)
    have l5 := hb5.size
    have l6 := hb6.size
    have l04 : g0 < w4.heap.size := by have := hb2.size; have := hb3.size; omega
    have HE6 := Lib.hid (same_some g2 0 c2 g0 0 c0 ps (by omega) w6 (StrsAt.of_owns ho6 rfl) ((s4.out.below hb5 l04).below hb6 (by omega)))
    have m6 := Lib.hid ((m4.out.below hb5 h4).below hb6 (by omega))
    clear ho6
    go_wp2_with fail
    refine HE6.out.mono ?_
    rintro e w7 ⟨rfl, hb7⟩
    have hB7 : Below w.heap.size w w7 := hB6.trans (hb7.mono hB6.size)
    have HH7 : Hid (Calls Try.prog 41 #[.slice (some ⟨g1, 0, none⟩) ps.length c1, .int .i64 1] w7 (HeldPost 1 ps.length w7)) :=
      Lib.hid (held_row 1 g1 c1 ps.length (by decide) (by decide) (by omega) w7 (m6.out.below hb7 (by omega)) (by have := hb7.size; omega))
    go_wp2_with fail
    refine HH7.out.mono ?_
    rintro e w8 ⟨rfl, hb8⟩
    have hB8 : Below w.heap.size w w8 := hB7.trans (hb8.mono hB7.size)
    go_wp2_with fail
    go_ret
    exact ⟨rfl, hB8⟩
  · have HE := Lib.hid same_none
    have HM := Lib.hid mark_none
    have HH := Lib.hid held_none
    go_enter Try.func5, Try.ntmps5
    go_wp2_with fail
    refine (HS.out w).mono fun e w1 h1 => ?_
    obtain ⟨a0, c0, rfl, hb1⟩ := h1.bare hpos
    clear h1
    go_wp2_with fail
    refine (HI.out w1).mono fun e w2 h2 => ?_
    obtain ⟨a1, c1, rfl, hb2⟩ := h2.bare hpos
    clear h2
    have hB2 : Below w.heap.size w w2 := hb1.trans (hb2.mono hb1.size)
    go_wp2_with fail
    refine (HE.out _ _ _ _ _).mono ?_
    rintro e w3 ⟨rfl, rfl⟩
    go_wp2_with fail
    refine (HM.out _ _ _ _).mono ?_
    rintro e w4 ⟨rfl, rfl⟩
    go_wp2_with fail
    refine (HH.out _ _ _ _).mono ?_
    rintro e w5 ⟨rfl, rfl⟩
    go_wp2_with fail
    refine (HI.out w5).mono fun e w6 h6 => ?_
    obtain ⟨a2, c2, rfl, hb6⟩ := h6.bare hpos
    clear h6
    have hB6 : Below w.heap.size w w6 := hB2.trans (hb6.mono hB2.size)
    go_wp2_with fail
    refine (HE.out _ _ _ _ _).mono ?_
    rintro e w7 ⟨rfl, rfl⟩
    go_wp2_with fail
    refine (HH.out _ _ _ _).mono ?_
    rintro e w8 ⟨rfl, rfl⟩
    go_wp2_with fail
    go_ret
    exact ⟨rfl, hB6⟩
end Go.Proofs.Ytomaanpmjlgpfaa
