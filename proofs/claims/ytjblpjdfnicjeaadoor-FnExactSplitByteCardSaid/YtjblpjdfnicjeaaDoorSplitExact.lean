/-
  The law on SplitByte: at every string and every byte it returns true; nothing that was there before is changed.
-/
import Derived.Test.YtjblpjdfnicjeaaDoorSplitImpl
import Derived.Test.YtjblpjdfnicjeaaDoorMarkRow
namespace Go.Proofs.YtjblpjdfnicjeaaDoor
open Go Go.RowKit

theorem owns_below {w w' : World} {B e n : Nat} {v : Value} {xs : List Value} (h : w.ownsRow B e 1 v n xs) (hb : Below w.heap.size w w') : w'.ownsRow B e 1 v n xs := by
  refine h.kept (row := none) ⟨hb.os, hb.tape, hb.output, hb.size, fun j hj _ => hb.block j hj⟩ ?_
  cases hv : v.ownBlock with
  | none => exact Or.inl rfl
  | some k => exact Or.inr (by intro h; cases h)
theorem StrsAt.grown {w w' : World} {g b : Nat} {xs : List ByteArray} (h : StrsAt w b 0 xs) (hg : w.grownBy w' (some g)) (hne : b ≠ g) : StrsAt w' b 0 xs := by
  intro k hk
  exact hg.cell (h k hk) (by intro h; exact hne (Option.some.inj h))

set_option maxRecDepth 100000 in
set_option maxHeartbeats 1600000 in
theorem law_split (c : UInt8) (s : ByteArray) (hs : s.size ≤ 9223372036854775807) (w : World) (hsh : w.ShapedOpen Tryd.prog) :
    Calls Tryd.prog 8 #[.string s, .int .u8 (c.toNat : Int)] w fun e w' => e = .returned (.bool true) ∧ Below w.heap.size w w' := by
  by_cases hbig : 1048576 < s.size
  · clear hsh
    go_enter Tryd.func8, Tryd.ntmps8
    go_wp2
    go_ret
    exact ⟨rfl, Below.refl _ _⟩
  have HSH := Lib.hid hsh
  have HS := Lib.hid (spec_split c s (by omega) w)
  have HI := Lib.hid (fun w => impl_split c s (by omega) w)
  have hle := (parts_facts c s.size s (Nat.le_refl _)).1
  have hpos : 0 < (parts c s).length := by rw [parts_length]; omega
  generalize hP : parts c s = ps at hle hpos
  have HP := Lib.hid hP
  have spec : Hid (∀ e w', PartsPost c s w e w' → ∃ g cap, e = .returned (.slice (some ⟨g, 0, none⟩) ps.length cap) ∧ w'.ownsRow w.heap.size 9 1 (.slice (some ⟨g, 0, none⟩) ps.length cap) ps.length (ps.map Value.string) ∧ Below w.heap.size w w') := by
    intro e w' h; rw [← hP]; exact h
  have impl : Hid (∀ v e w', PartsPost c s v e w' → ∃ g cap, e = .returned (.slice (some ⟨g, 0, none⟩) ps.length cap) ∧ w'.ownsRow v.heap.size 9 1 (.slice (some ⟨g, 0, none⟩) ps.length cap) ps.length (ps.map Value.string) ∧ Below v.heap.size v w') := by
    intro v e w' h; rw [← hP]; exact h
  clear hsh hP HP
  go_enter Tryd.func8, Tryd.ntmps8
  go_wp2_with fail
  refine HS.out.mono fun e w1 h1 => ?_
  obtain ⟨g0, c0, rfl, ho0, hb1⟩ := spec.out _ _ h1
  clear h1
  have hg0 := ho0.lt g0 rfl
  have HI1 := Lib.hid (HI.out w1 (shaped_below HSH.out hb1))
  go_wp2_with fail
  refine HI1.out.mono fun e w2 h2 => ?_
  obtain ⟨g1, c1, rfl, ho1, hb2⟩ := impl.out _ _ _ h2
  clear h2
  have hg1 := ho1.lt g1 rfl
  have hB2 : Below w.heap.size w w2 := hb1.trans (hb2.mono hb1.size)
  have HO0 := Lib.hid (StrsAt.of_owns ho0 rfl)
  have HO1 := Lib.hid ho1
  have s0 := Lib.hid (HO0.out.below hb2 hg0.2)
  have HE := Lib.hid (same_some g1 0 c1 g0 0 c0 ps (by omega) w2 (StrsAt.of_owns ho1 rfl) s0.out)
  clear ho0 ho1
  go_wp2_with fail
  refine HE.out.mono ?_
  rintro e w3 ⟨rfl, hb3⟩
  have hB3 : Below w.heap.size w w3 := hB2.trans (hb3.mono hB2.size)
  have HM : Hid (Calls Tryd.prog 23 #[.slice (some ⟨g1, 0, none⟩) ps.length c1, .int .i64 1] w3 (MarksPost w1.heap.size 1 g1 c1 ps.length w3)) :=
    Lib.hid (mark_row w1.heap.size 1 g1 c1 ps (by decide) (by decide) (by omega) w3 (owns_below HO1.out hb3))
  have s3 := Lib.hid (s0.out.below hb3 (Nat.lt_of_lt_of_le hg0.2 hb2.size))
  go_wp2_with fail
  refine HM.out.mono ?_
  rintro e w4 ⟨rfl, ho4, hg4⟩
  have hB4 : Below w.heap.size w w4 := hB3.grown hg4 hB3.size (fun k hk => by
    injection hk with hk
    subst hk
    exact Nat.le_trans hb1.size hg1.1)
  have s4 := Lib.hid (s3.out.grown hg4 (by omega))
  have h4 := (ho4.lt g1 rfl).2
  have m4 := Lib.hid (StrsAt.of_owns ho4 (by rw [marks_length]))
  have HH4 : Hid (Calls Tryd.prog 24 #[.slice (some ⟨g1, 0, none⟩) ps.length c1, .int .i64 1] w4 (HeldPost 1 ps.length w4)) :=
    Lib.hid (held_row 1 g1 c1 ps.length (by decide) (by decide) (by omega) w4 m4.out h4)
  clear ho4 hg4
  go_wp2_with fail
  refine HH4.out.mono ?_
  rintro e w5 ⟨rfl, hb5⟩
  have hB5 : Below w.heap.size w w5 := hB4.trans (hb5.mono hB4.size)
  have HI5 := Lib.hid (HI.out w5 (shaped_below HSH.out hB5))
  go_wp2_with fail
  refine HI5.out.mono fun e w6 h6 => ?_
  obtain ⟨g2, c2, rfl, ho6, hb6⟩ := impl.out _ _ _ h6
  clear h6
  have hB6 : Below w.heap.size w w6 := hB5.trans (hb6.mono hB5.size)
  have l5 := hb5.size
  have l6 := hb6.size
  have l04 : g0 < w4.heap.size := by have := hb2.size; have := hb3.size; omega
  have HE6 := Lib.hid (same_some g2 0 c2 g0 0 c0 ps (by omega) w6 (StrsAt.of_owns ho6 rfl) ((s4.out.below hb5 l04).below hb6 (by omega)))
  have m6 := Lib.hid ((m4.out.below hb5 h4).below hb6 (by omega))
  clear ho6
  go_wp2_with fail
  refine HE6.out.mono ?_
  rintro e w7 ⟨rfl, hb7⟩
  have hB7 : Below w.heap.size w w7 := hB6.trans (hb7.mono hB6.size)
  have HH7 : Hid (Calls Tryd.prog 24 #[.slice (some ⟨g1, 0, none⟩) ps.length c1, .int .i64 1] w7 (HeldPost 1 ps.length w7)) :=
    Lib.hid (held_row 1 g1 c1 ps.length (by decide) (by decide) (by omega) w7 (m6.out.below hb7 (by omega)) (by have := hb7.size; omega))
  go_wp2_with fail
  refine HH7.out.mono ?_
  rintro e w8 ⟨rfl, hb8⟩
  have hB8 : Below w.heap.size w w8 := hB7.trans (hb8.mono hB7.size)
  go_wp2_with fail
  go_ret
  exact ⟨rfl, hB8⟩
end Go.Proofs.YtjblpjdfnicjeaaDoor
