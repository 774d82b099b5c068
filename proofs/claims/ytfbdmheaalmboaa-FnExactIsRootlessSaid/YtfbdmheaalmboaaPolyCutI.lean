/-
  The program's CharPoly and TurnedPoly, and how it leaves zeros at the end out: what the plain words say, a list in new memory; nothing that was there before is changed.
-/
import Derived.Test.YtfbdmheaalmboaaPolyDetOfI
import Derived.Test.YtfbdmheaalmboaaShelfRev
import Derived.Lib.OwnBridge
namespace Go.Proofs.Ytfbdmheaalmboaa
open Go Go.RowKit Go.Shelf

def slLen : Value → Nat
  | .slice _ n _ => n
  | _ => 0
theorem own_front {w : World} {B g cap k : Nat} {p : List Int} (h : OwnA w B (.slice (some ⟨g, 0, none⟩) p.length cap) p) (hk : k ≤ p.length) : OwnA w B (.slice (some ⟨g, 0, none⟩) k cap) (p.take k) := by
  have hl : (p.take k).length = k := by rw [List.length_take]; omega
  unfold OwnA
  rw [hl]
  rcases h.2 with ⟨e0, _⟩ | ⟨g', cap', cur, e0, h1, h2, h3, h4, h5, h6⟩
  · cases e0
  · injection e0 with e1 _ e3
    injection e1 with e1
    injection e1 with e1
    subst e1; subst e3
    refine ⟨by rw [List.length_map, hl, Nat.mul_one], Or.inr ⟨g, cap, cur, rfl, h1, h2, by omega, h4, h5, ?_⟩⟩
    have h7 := congrArg (List.take k) h6
    rw [List.take_take, show min k (p.length * 1) = k by omega, ← List.map_take] at h7
    rw [Nat.mul_one]
    exact h7

set_option maxRecDepth 100000 in
set_option maxHeartbeats 1600000 in
theorem impl_cut (g cap B : Nat) (p : List Int) (hn : p.length ≤ 1000) (w : World) (ho : OwnA w B (.slice (some ⟨g, 0, none⟩) p.length cap) p) :
    Calls Try.prog 42 #[.slice (some ⟨g, 0, none⟩) p.length cap] w fun e w' => ∃ v, e = .returned v ∧ OwnA w B v (cutL p) ∧ w' = w := by
  have hcap : p.length ≤ cap := by
    obtain ⟨A2, c2, e, hc⟩ := row_room ho
    simp only [Value.slice.injEq, true_and] at e
    omega
  have HCELL : Hid (∀ k, k < p.length → w.cell? ⟨g, k, none⟩ = some (.int .i64 (p.getD k 0))) := Lib.hid fun k hk => OwnA.num ho hk
  have HEND : Hid (∀ k, k ≤ p.length → k = cutLen p p.length → OwnA w B (.slice (some ⟨g, 0, none⟩) k cap) (cutL p)) := Lib.hid fun k hk e => by
    unfold cutL
    rw [← e]
    exact own_front ho hk
  clear ho
  go_enter Try.func42, Try.ntmps42
  go_wp2
  go_loopw [0] (fun v wr => ∃ k : Nat, k ≤ p.length ∧ v = .slice (some ⟨g, 0, none⟩) k cap ∧ Hid (cutLen p k = cutLen p p.length) ∧ wr = w) (fun v _ => slLen v)
  case atStart => exact ⟨p.length, Nat.le_refl _, rfl, Lib.hid rfl, rfl⟩
  case round =>
    obtain ⟨k, hk, rfl, hcut, rfl⟩ := hrel
    cases k with
    | zero =>
      have HO := Lib.hid (HEND.out 0 (by omega) hcut.out)
      clear hcut
      go_wp2
      go_ret
      exact ⟨_, rfl, HO.out, rfl⟩
    | succ k =>
      have hc := HCELL.out k (by omega)
      have hsl := slice_to ⟨g, 0, none⟩ (k + 1) cap k (by omega)
      have g0 : (0 : Int) < (k : Int) + 1 := by omega
      have g1 : (0 : Int) ≤ (k : Int) := by omega
      have g2 : (k : Int) < (k : Int) + 1 := by omega
      have hcut1 := hcut.out
      rw [cutLen] at hcut1
      by_cases hx : p.getD k 0 = 0
      · rw [if_pos hx] at hcut1
        rw [hx] at hc
        have HC := Lib.hid hcut1
        clear hcut hcut1 hx
        go_wp2
        go_roundw
        case rel => exact ⟨k, by omega, rfl, HC, trivial⟩
        case measure => simp [slLen]
      · rw [if_neg hx] at hcut1
        have HO := Lib.hid (HEND.out (k + 1) hk hcut1)
        have hb : (p.getD k 0 == 0) = false := by rw [beq_eq_false_iff_ne]; exact hx
        clear hcut hcut1 hx
        generalize p.getD k 0 = x at *
        go_wp2
        go_ret
        exact ⟨_, rfl, HO.out, rfl⟩

set_option maxRecDepth 100000 in
set_option maxHeartbeats 1600000 in
theorem impl_turnedPoly (A : Option Addr) (c : Nat) (m : List (List Int)) (hn : m.length ≤ 1099511627776) (ht : ∀ k, k < m.length → (m.getD k []).length ≤ 1099511627776) (w : World) (hg : GridS w A m) :
    Calls Try.prog 18 #[.slice A m.length c] w (NewA (turnedM m) w) := by
  have HI := Lib.hid (impl_isSmall A c m hn ht w hg)
  unfold turnedM
  cases hm : smallM m with
  | false =>
    rw [hm] at HI
    rw [if_neg (by decide)]
    clear hg ht hm
    go_enter Try.func18, Try.ntmps18
    go_wp2_with fail
    refine HI.out.mono ?_
    rintro e w1 ⟨rfl, rfl⟩
    go_wp2
    go_ret
    exact ⟨_, rfl, World.ownsRow_nil _ _ _ _, Below.refl _ _⟩
  | true =>
    have HT := Lib.hid (impl_turnedCoef A c m hm w hg)
    have HC := Lib.hid (fun g cap B w' => impl_cut g cap B (turnedL m) (by rw [turnedL_len]; have := (small_facts hm).2.1; omega) w')
    have hl : 0 < (turnedL m).length := by rw [turnedL_len]; omega
    rw [hm] at HI
    rw [if_pos rfl]
    clear hg ht hm
    generalize turnedL m = p at *
    go_enter Try.func18, Try.ntmps18
    go_wp2_with fail
    refine HI.out.mono ?_
    rintro e w1 ⟨rfl, hw⟩
    obtain rfl : w = w1 := hw.symm
    clear HI hw
    go_wp2_with fail
    refine HT.out.mono ?_
    rintro e w2 ⟨v2, rfl, ho2, hb2⟩
    obtain ⟨g, cap, rfl, -, -⟩ := World.ownsRow.form ho2 hl
    have HC2 := Lib.hid (HC.out g cap w.heap.size w2 ho2)
    have HB2 := Lib.hid hb2
    clear ho2 hb2 HT HC
    go_wp2_with fail
    refine HC2.out.mono ?_
    rintro e w3 ⟨v3, rfl, ho3, hw⟩
    obtain rfl : w2 = w3 := hw.symm
    clear hw
    go_wp2
    go_ret
    exact ⟨_, rfl, ho3, HB2.out⟩

set_option maxRecDepth 100000 in
set_option maxHeartbeats 1600000 in
theorem impl_charPoly (A : Option Addr) (c : Nat) (m : List (List Int)) (hn : m.length ≤ 1099511627776) (ht : ∀ k, k < m.length → (m.getD k []).length ≤ 1099511627776) (w : World) (hg : GridS w A m) :
    Calls Try.prog 24 #[.slice A m.length c] w (NewA (charM m) w) := by
  have HI := Lib.hid (impl_isSmall A c m hn ht w hg)
  unfold charM
  cases hm : smallM m with
  | false =>
    rw [hm] at HI
    rw [if_neg (by decide)]
    clear hg ht hm
    go_enter Try.func24, Try.ntmps24
    go_wp2_with fail
    refine HI.out.mono ?_
    rintro e w1 ⟨rfl, rfl⟩
    go_wp2
    go_ret
    exact ⟨_, rfl, World.ownsRow_nil _ _ _ _, Below.refl _ _⟩
  | true =>
    have HT := Lib.hid (impl_turnedCoef A c m hm w hg)
    have hl : 0 < (turnedL m).length := by rw [turnedL_len]; omega
    have hl5 : (turnedL m).length ≤ 5 := by rw [turnedL_len]; have := (small_facts hm).2.1; omega
    have HR : Hid (∀ (g cap B : Nat) (w' : World), OwnA w' B (.slice (some ⟨g, 0, none⟩) (turnedL m).length cap) (turnedL m) → B ≤ w'.heap.size → Calls Try.prog 44 #[.slice (some ⟨g, 0, none⟩) (turnedL m).length cap] w' fun e w3 => e = .returned (.tuple #[]) ∧ OwnA w3 B (.slice (some ⟨g, 0, none⟩) (turnedL m).length cap) (charL m) ∧ Below B w' w3) := Lib.hid (by
      intro g cap B w' ho hB
      obtain ⟨g', cap', e, hBg, _, _, _, _, hh⟩ := Lib.holds_of_ownsRow ho (by simp)
      simp only [Value.slice.injEq, Option.some.injEq, Addr.mk.injEq, and_true, true_and] at e
      obtain ⟨rfl, rfl⟩ := e
      refine (Try.slices_Reverse_ints g 0 cap (turnedL m) w' hh (by omega)).mono ?_
      rintro e w3 ⟨he, q, rfl⟩
      have h := Lib.ownsRow_putRow (q := q) ho (ys := (turnedL m).reverse) (by simp) (Nat.le_refl _)
      rw [List.take_of_length_le (by simp)] at h
      refine ⟨he, ?_, Lib.below_putRow (enc := Value.int .i64) (q := q) (d := (turnedL m).reverse.toArray) (Below.refl B w') hBg⟩
      rw [← charL_rev]
      unfold OwnA
      rw [List.length_reverse]
      exact h)
    rw [hm] at HI
    rw [if_pos rfl]
    clear hg ht hm hl5
    generalize turnedL m = p at *
    generalize charL m = r at *
    go_enter Try.func24, Try.ntmps24
    go_wp2_with fail
    refine HI.out.mono ?_
    rintro e w1 ⟨rfl, hw⟩
    obtain rfl : w = w1 := hw.symm
    clear HI hw
    go_wp2_with fail
    refine HT.out.mono ?_
    rintro e w2 ⟨v2, rfl, ho2, hb2⟩
    obtain ⟨g, cap, rfl, -, -⟩ := World.ownsRow.form ho2 hl
    have HR2 := Lib.hid (HR.out g cap w.heap.size w2 ho2 hb2.size)
    have HB2 := Lib.hid hb2
    clear ho2 hb2 HT HR
    go_wp2_with fail
    refine HR2.out.mono ?_
    rintro e w3 ⟨rfl, ho3, hb3⟩
    have HO3 := Lib.hid ho3
    have HB3 := Lib.hid (HB2.out.trans hb3)
    clear ho3 hb3
    go_wp2
    go_ret
    exact ⟨_, rfl, HO3.out, HB3.out⟩
end Go.Proofs.Ytfbdmheaalmboaa
