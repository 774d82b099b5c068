/-
  The law on integers and numbers: whatever the bytes of the draw, it returns true, where strconv's variables hold what the program's text lays; nothing that was there before is changed.
-/
import Derived.Test.YtjblpjdfnicjeaaDoorDrawNum
import Derived.Test.YtjblpjdfnicjeaaDoorImplRead
namespace Go.Proofs.YtjblpjdfnicjeaaDoor
open Go Go.RowKit

theorem big_any (a : Option Addr) (n c : Nat) (w : World) :
    Calls Tryd.prog 9 #[.slice a n c] w fun e w' => e = .returned (.bool (decide (1048576 < n))) ∧ w = w' := by
  by_cases h : 1048576 < n
  · have hd : decide (1048576 < n) = true := by simpa using h
    rw [hd]
    go_enter Tryd.func9, Tryd.ntmps9
    go_wp2
    go_ret
    exact ⟨by simp; omega, rfl⟩
  · have hd : decide (1048576 < n) = false := by simpa using h
    rw [hd]
    go_enter Tryd.func9, Tryd.ntmps9
    go_wp2
    go_ret
    exact ⟨by simp; omega, rfl⟩

theorem nDigits_ge {u k : Nat} (h : 10 ^ k ≤ u) : k < Lib.nDigits u := by
  have h1 := Lib.lt_pow_nDigits u
  rcases Nat.lt_or_ge k (Lib.nDigits u) with h2 | h2
  · exact h2
  · have := Nat.pow_le_pow_right (show 0 < 10 by decide) h2
    omega
theorem intOfS_in {s : ByteArray} {z : Int} (hs : Lib.itoa z = s.data.toList) (h0 : -999999999999 ≤ z) (h1 : z ≤ 999999999999) : intOfS s = some z := numOf_some.2 ⟨h0, h1, hs⟩
theorem intOfS_out {s : ByteArray} {z : Int} (hs : Lib.itoa z = s.data.toList) (h : z < -999999999999 ∨ 999999999999 < z) : intOfS s = none :=
  numOf_none fun m h0 h1 he => by
    have := itoa_inj (he.trans hs.symm)
    omega
theorem size_pos {s : ByteArray} {z : Int} (hs : Lib.itoa z = s.data.toList) (h0 : 0 ≤ z) : s.size = Lib.nDigits z.toNat := by
  have e : s.size = s.data.toList.length := rfl
  rw [e, ← hs]
  unfold Lib.itoa
  rw [if_neg (by omega), Lib.decDigits_length]
theorem size_neg {s : ByteArray} {z : Int} (hs : Lib.itoa z = s.data.toList) (h0 : z < 0) : s.size = Lib.nDigits z.natAbs + 1 := by
  have e : s.size = s.data.toList.length := rfl
  rw [e, ← hs]
  unfold Lib.itoa
  rw [if_pos h0, List.length_cons, Lib.decDigits_length]
theorem nDigits_le {u k : Nat} (hk : 1 ≤ k) (h : u < 10 ^ k) : Lib.nDigits u ≤ k := by
  rw [← Lib.decDigits_length]; exact decDigits_length_le hk h

set_option maxRecDepth 100000 in
set_option maxHeartbeats 4000000 in
theorem law_numbers (a : Option Addr) (n c : Nat) (w : World) (hcode : n ≤ 1048576 → CodeAt w w.heap.size a n) (ht : Pow w) (he : Errs w) :
    Calls Tryd.prog 3 #[.slice a n c] w fun e w' => e = .returned (.bool true) ∧ Below w.heap.size w w' := by
  have HBig := Lib.hid (big_any a n c w)
  by_cases hn : n ≤ 1048576
  case neg =>
    have hd : decide (1048576 < n) = true := by simp; omega
    rw [hd] at HBig
    clear hcode ht he hd
    go_enter Tryd.func3, Tryd.ntmps3
    go_wp2_with fail
    refine HBig.out.mono ?_
    rintro e w' ⟨rfl, rfl⟩
    go_wp2_with fail
    go_ret
    exact ⟨rfl, Below.refl _ _⟩
  have hd : decide (1048576 < n) = false := by simp; omega
  rw [hd] at HBig
  have HT := Lib.hid ht
  have HE := Lib.hid he
  have HD := Lib.hid (draw_int a n c w (hcode hn) hn)
  have HX := Lib.hid (fun w' => draw_text a n c w w' (hcode hn) hn)
  clear hcode ht he hd
  go_enter Tryd.func3, Tryd.ntmps3
  go_wp2_with fail
  refine HBig.out.mono ?_
  rintro e w' ⟨rfl, rfl⟩
  go_wp2_with fail
  refine HD.out.mono ?_
  rintro e w1 ⟨z, z0, z1, rfl, hb1⟩
  obtain ⟨s, hs⟩ : ∃ s : ByteArray, Lib.itoa z = s.data.toList := ⟨⟨(Lib.itoa z).toArray⟩, rfl⟩
  have hshort : s.size ≤ 281474976710656 := by
    have := itoa_length_le (k := 19) (n := z) (by decide) (by omega)
    rw [hs] at this
    have e : s.data.toList.length = s.size := rfl
    omega
  have HF := Lib.hid (impl_fmt_as z z0 z1 s hs w1 (HT.out.below hb1))
  have HG := Lib.hid (fun w => spec_fmt_as z z0 z1 s hs w)
  have HS := Lib.hid hs
  clear hs
  go_wp2_with fail
  refine HF.out.mono ?_
  rintro e w2 ⟨rfl, hb2⟩
  have hB2 : Below w.heap.size w w2 := hb1.trans (hb2.mono hb1.size)
  clear hb1 hb2
  have key : (-999999999999 ≤ z ∧ z ≤ 999999999999) ∧ (s.size ≤ 12 ∨ (z < 0 ∧ s.size = 13)) ∨ (z < -999999999999 ∧ 14 ≤ s.size) ∨ (999999999999 < z ∧ 13 ≤ s.size) := by
    by_cases hz : 0 ≤ z
    · have hsz := size_pos HS.out hz
      by_cases hin : z ≤ 999999999999
      · have := nDigits_le (u := z.toNat) (k := 12) (by decide) (by omega)
        omega
      · have := nDigits_ge (u := z.toNat) (k := 12) (by omega)
        omega
    · have hsz := size_neg HS.out (by omega)
      by_cases hin : -999999999999 ≤ z
      · have := nDigits_le (u := z.natAbs) (k := 12) (by decide) (by omega)
        omega
      · have := nDigits_ge (u := z.natAbs) (k := 12) (by omega)
        omega
  rcases key with ⟨⟨i0, i1⟩, hk⟩ | hk | hk
  · have HI := Lib.hid (impl_parseInt_some s hshort z (Lib.hid (intOfS_in HS.out i0 i1)) w2 (HT.out.below hB2))
    go_wp2_with fail
    refine HI.out.mono ?_
    rintro e w3 ⟨rfl, hb3⟩
    have hB3 : Below w.heap.size w w3 := hB2.trans (hb3.mono hB2.size)
    clear hb3 hB2
    rcases hk with hk | ⟨hk, hk2⟩
    · have g1 : decide ((s.size : Int) ≤ 12) = true := by simp; omega
      go_wp2_with fail
      refine (HG.out _).mono ?_
      rintro e w4 ⟨rfl, hb4⟩
      have hB4 : Below w.heap.size w w4 := hB3.trans (hb4.mono hB3.size)
      clear hb4 hB3
      go_wp2_with fail
      refine (HX.out _ hB4).mono ?_
      rintro e w5 ⟨t, htz, rfl, hB5⟩
      have hQ := spec_parseNumber t (by omega)
      rcases hq : numOfS t with _ | y
      · rw [hq] at hQ
        have HQ := Lib.hid hQ
        have HP := Lib.hid (impl_parseNumber_none t (by omega) (Lib.hid hq) w5 (HT.out.below hB5) (HE.out.below hB5))
        clear hQ hq
        go_wp2_with fail
        refine HP.out.mono ?_
        rintro e w6 ⟨rfl, hb6⟩
        go_wp2_with fail
        refine (HQ.out _).mono ?_
        rintro e w7 ⟨rfl, hb7⟩
        simp only [numV, numB, Option.getD_none, Option.isSome_none]
        go_wp2
        go_ret
        exact ⟨rfl, hB5.trans ((hb6.trans (hb7.mono hb6.size)).mono hB5.size)⟩
      · rw [hq] at hQ
        obtain ⟨y0, y1, y2⟩ := numOf_some.1 hq
        have HQ := Lib.hid hQ
        have HP := Lib.hid (impl_parseNumber_some t (by omega) y (Lib.hid hq) w5 (HT.out.below hB5))
        have HR := Lib.hid (fun w => impl_fmt_as y (by omega) (by omega) t y2 w)
        have gy : decide (0 ≤ y) = true := by simpa using y0
        clear hQ hq y2
        go_wp2_with fail
        refine HP.out.mono ?_
        rintro e w6 ⟨rfl, hb6⟩
        go_wp2_with fail
        refine (HQ.out _).mono ?_
        rintro e w7 ⟨rfl, hb7⟩
        have hB7 : Below w.heap.size w w7 := hB5.trans ((hb6.trans (hb7.mono hb6.size)).mono hB5.size)
        clear hb6 hb7
        simp only [numV, numB, Option.getD_some, Option.isSome_some]
        go_wp2_with fail
        refine (HR.out _ (HT.out.below hB7)).mono ?_
        rintro e w8 ⟨rfl, hb8⟩
        go_wp2
        go_ret
        exact ⟨rfl, hB7.trans (hb8.mono hB7.size)⟩
    · have g1 : decide ((s.size : Int) ≤ 12) = false := by simp; omega
      have g2 : decide (z < 0) = true := by simpa using hk
      have g3 : decide ((s.size : Int) ≤ 13) = true := by simp; omega
      go_wp2_with fail
      refine (HG.out _).mono ?_
      rintro e w4 ⟨rfl, hb4⟩
      have hB4 : Below w.heap.size w w4 := hB3.trans (hb4.mono hB3.size)
      clear hb4 hB3
      go_wp2_with fail
      refine (HX.out _ hB4).mono ?_
      rintro e w5 ⟨t, htz, rfl, hB5⟩
      have hQ := spec_parseNumber t (by omega)
      rcases hq : numOfS t with _ | y
      · rw [hq] at hQ
        have HQ := Lib.hid hQ
        have HP := Lib.hid (impl_parseNumber_none t (by omega) (Lib.hid hq) w5 (HT.out.below hB5) (HE.out.below hB5))
        clear hQ hq
        go_wp2_with fail
        refine HP.out.mono ?_
        rintro e w6 ⟨rfl, hb6⟩
        go_wp2_with fail
        refine (HQ.out _).mono ?_
        rintro e w7 ⟨rfl, hb7⟩
        simp only [numV, numB, Option.getD_none, Option.isSome_none]
        go_wp2
        go_ret
        exact ⟨rfl, hB5.trans ((hb6.trans (hb7.mono hb6.size)).mono hB5.size)⟩
      · rw [hq] at hQ
        obtain ⟨y0, y1, y2⟩ := numOf_some.1 hq
        have HQ := Lib.hid hQ
        have HP := Lib.hid (impl_parseNumber_some t (by omega) y (Lib.hid hq) w5 (HT.out.below hB5))
        have HR := Lib.hid (fun w => impl_fmt_as y (by omega) (by omega) t y2 w)
        have gy : decide (0 ≤ y) = true := by simpa using y0
        clear hQ hq y2
        go_wp2_with fail
        refine HP.out.mono ?_
        rintro e w6 ⟨rfl, hb6⟩
        go_wp2_with fail
        refine (HQ.out _).mono ?_
        rintro e w7 ⟨rfl, hb7⟩
        have hB7 : Below w.heap.size w w7 := hB5.trans ((hb6.trans (hb7.mono hb6.size)).mono hB5.size)
        clear hb6 hb7
        simp only [numV, numB, Option.getD_some, Option.isSome_some]
        go_wp2_with fail
        refine (HR.out _ (HT.out.below hB7)).mono ?_
        rintro e w8 ⟨rfl, hb8⟩
        go_wp2
        go_ret
        exact ⟨rfl, hB7.trans (hb8.mono hB7.size)⟩
  · obtain ⟨k0, k1⟩ := hk
    have HI := Lib.hid (impl_parseInt_none s hshort (Lib.hid (intOfS_out HS.out (Or.inl k0))) w2 (HT.out.below hB2) (HE.out.below hB2))
    go_wp2_with fail
    refine HI.out.mono ?_
    rintro e w3 ⟨rfl, hb3⟩
    have hB3 : Below w.heap.size w w3 := hB2.trans (hb3.mono hB2.size)
    clear hb3 hB2
    · have g1 : decide ((s.size : Int) ≤ 12) = false := by simp; omega
      have g2 : decide (z < 0) = true := by simp; omega
      have g3 : decide ((s.size : Int) ≤ 13) = false := by simp; omega
      go_wp2_with fail
      refine (HG.out _).mono ?_
      rintro e w4 ⟨rfl, hb4⟩
      have hB4 : Below w.heap.size w w4 := hB3.trans (hb4.mono hB3.size)
      clear hb4 hB3
      go_wp2_with fail
      refine (HX.out _ hB4).mono ?_
      rintro e w5 ⟨t, htz, rfl, hB5⟩
      have hQ := spec_parseNumber t (by omega)
      rcases hq : numOfS t with _ | y
      · rw [hq] at hQ
        have HQ := Lib.hid hQ
        have HP := Lib.hid (impl_parseNumber_none t (by omega) (Lib.hid hq) w5 (HT.out.below hB5) (HE.out.below hB5))
        clear hQ hq
        go_wp2_with fail
        refine HP.out.mono ?_
        rintro e w6 ⟨rfl, hb6⟩
        go_wp2_with fail
        refine (HQ.out _).mono ?_
        rintro e w7 ⟨rfl, hb7⟩
        simp only [numV, numB, Option.getD_none, Option.isSome_none]
        go_wp2
        go_ret
        exact ⟨rfl, hB5.trans ((hb6.trans (hb7.mono hb6.size)).mono hB5.size)⟩
      · rw [hq] at hQ
        obtain ⟨y0, y1, y2⟩ := numOf_some.1 hq
        have HQ := Lib.hid hQ
        have HP := Lib.hid (impl_parseNumber_some t (by omega) y (Lib.hid hq) w5 (HT.out.below hB5))
        have HR := Lib.hid (fun w => impl_fmt_as y (by omega) (by omega) t y2 w)
        have gy : decide (0 ≤ y) = true := by simpa using y0
        clear hQ hq y2
        go_wp2_with fail
        refine HP.out.mono ?_
        rintro e w6 ⟨rfl, hb6⟩
        go_wp2_with fail
        refine (HQ.out _).mono ?_
        rintro e w7 ⟨rfl, hb7⟩
        have hB7 : Below w.heap.size w w7 := hB5.trans ((hb6.trans (hb7.mono hb6.size)).mono hB5.size)
        clear hb6 hb7
        simp only [numV, numB, Option.getD_some, Option.isSome_some]
        go_wp2_with fail
        refine (HR.out _ (HT.out.below hB7)).mono ?_
        rintro e w8 ⟨rfl, hb8⟩
        go_wp2
        go_ret
        exact ⟨rfl, hB7.trans (hb8.mono hB7.size)⟩
  · obtain ⟨k0, k1⟩ := hk
    have HI := Lib.hid (impl_parseInt_none s hshort (Lib.hid (intOfS_out HS.out (Or.inr k0))) w2 (HT.out.below hB2) (HE.out.below hB2))
    go_wp2_with fail
    refine HI.out.mono ?_
    rintro e w3 ⟨rfl, hb3⟩
    have hB3 : Below w.heap.size w w3 := hB2.trans (hb3.mono hB2.size)
    clear hb3 hB2
    · have g1 : decide ((s.size : Int) ≤ 12) = false := by simp; omega
      have g2 : decide (z < 0) = false := by simp; omega
      go_wp2_with fail
      refine (HG.out _).mono ?_
      rintro e w4 ⟨rfl, hb4⟩
      have hB4 : Below w.heap.size w w4 := hB3.trans (hb4.mono hB3.size)
      clear hb4 hB3
      go_wp2_with fail
      refine (HX.out _ hB4).mono ?_
      rintro e w5 ⟨t, htz, rfl, hB5⟩
      have hQ := spec_parseNumber t (by omega)
      rcases hq : numOfS t with _ | y
      · rw [hq] at hQ
        have HQ := Lib.hid hQ
        have HP := Lib.hid (impl_parseNumber_none t (by omega) (Lib.hid hq) w5 (HT.out.below hB5) (HE.out.below hB5))
        clear hQ hq
        go_wp2_with fail
        refine HP.out.mono ?_
        rintro e w6 ⟨rfl, hb6⟩
        go_wp2_with fail
        refine (HQ.out _).mono ?_
        rintro e w7 ⟨rfl, hb7⟩
        simp only [numV, numB, Option.getD_none, Option.isSome_none]
        go_wp2
        go_ret
        exact ⟨rfl, hB5.trans ((hb6.trans (hb7.mono hb6.size)).mono hB5.size)⟩
      · rw [hq] at hQ
        obtain ⟨y0, y1, y2⟩ := numOf_some.1 hq
        have HQ := Lib.hid hQ
        have HP := Lib.hid (impl_parseNumber_some t (by omega) y (Lib.hid hq) w5 (HT.out.below hB5))
        have HR := Lib.hid (fun w => impl_fmt_as y (by omega) (by omega) t y2 w)
        have gy : decide (0 ≤ y) = true := by simpa using y0
        clear hQ hq y2
        go_wp2_with fail
        refine HP.out.mono ?_
        rintro e w6 ⟨rfl, hb6⟩
        go_wp2_with fail
        refine (HQ.out _).mono ?_
        rintro e w7 ⟨rfl, hb7⟩
        have hB7 : Below w.heap.size w w7 := hB5.trans ((hb6.trans (hb7.mono hb6.size)).mono hB5.size)
        clear hb6 hb7
        simp only [numV, numB, Option.getD_some, Option.isSome_some]
        go_wp2_with fail
        refine (HR.out _ (HT.out.below hB7)).mono ?_
        rintro e w8 ⟨rfl, hb8⟩
        go_wp2
        go_ret
        exact ⟨rfl, hB7.trans (hb8.mono hB7.size)⟩
end Go.Proofs.YtjblpjdfnicjeaaDoor
