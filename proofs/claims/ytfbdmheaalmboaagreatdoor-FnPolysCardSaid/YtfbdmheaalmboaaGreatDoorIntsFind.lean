/-
  The library's search in a slice of ints, for whatever function value that answers as a plain test does and lays nothing that is kept: whether one of them is hit; nothing that was there before is changed.
-/
import Derived.Test.YtfbdmheaalmboaaGreatDoorMidTexts
namespace Go.Proofs.YtfbdmheaalmboaaGreatDoor
open Go Go.RowKit

/-- The function value g with the captured places lb answers as p does, in every world behind W0 in which what lay below H0 lies. -/
def TestI (H0 : Nat) (W0 : World) (g : Nat) (lb : Array Value) (p : Int → Bool) (ok : Int → Prop) : Prop :=
  ∀ x W, ok x → Below H0 W0 W → Calls Tryz.prog g (#[.int .i64 x] ++ lb) W (Scalar (.bool (p x)) W)
/-- No int ahead of place k is hit. -/
def NoHitI (p : Int → Bool) (xs : List Int) (k : Nat) : Prop := ∀ j, j < k → p (xs.getD j 0) = false
theorem NoHitI.next {p : Int → Bool} {xs : List Int} {k : Nat} (h : NoHitI p xs k) (hk : p (xs.getD k 0) = false) : NoHitI p xs (k + 1) := by
  intro j hj
  by_cases e : j = k
  · subst e; exact hk
  · exact h j (by omega)
theorem int_mem {xs : List Int} {k : Nat} (h : k < xs.length) : xs.getD k 0 ∈ xs := by
  have e : xs.getD k 0 = xs[k] := by simp [List.getD, h]
  rw [e]; exact List.getElem_mem h
theorem any_none {p : Int → Bool} {xs : List Int} (h : NoHitI p xs xs.length) : xs.any p = false := by
  rw [List.any_eq_false]
  intro x hx
  obtain ⟨j, hj, rfl⟩ := List.getElem_of_mem hx
  have := h j hj
  rw [show xs.getD j 0 = xs[j] by simp [List.getD, hj]] at this
  rw [this]; simp
theorem any_some {p : Int → Bool} {xs : List Int} {k : Nat} (hk : k < xs.length) (h : p (xs.getD k 0) = true) : xs.any p = true := by
  rw [List.any_eq_true]
  exact ⟨_, int_mem hk, h⟩

set_option maxRecDepth 100000 in
set_option maxHeartbeats 800000 in
theorem index_ints (H0 : Nat) (W0 : World) (g : Nat) (lb : Array Value) (eg : ∀ args w, (callFunc g args).run Tryz.prog w = .ok (.enter g args) w) (p : Int → Bool) (ok : Int → Prop) (hp : TestI H0 W0 g lb p ok) (A : Option Addr) (c : Nat) (xs : List Int) (hok : ∀ x ∈ xs, ok x) (hn : xs.length ≤ 1000000) (w : World) (hw : Below H0 W0 w) (hH : H0 ≤ w.heap.size)
    (hs : RowS w A xs) :
    Calls Tryz.prog 76 #[.slice A xs.length c, .func (.func g) #[] lb] w fun e w' => Below w.heap.size w w' ∧ ((e = .returned (.int .i64 (-1)) ∧ NoHitI p xs xs.length) ∨ ∃ k : Nat, k < xs.length ∧ e = .returned (.int .i64 k) ∧ NoHitI p xs k ∧ p (xs.getD k 0) = true) := by
  have HP := Lib.hid (fun k (hk : k < xs.length) w1 (h1 : Below w.heap.size w w1) => hp (xs.getD k 0) w1 (hok _ (int_mem hk)) (hw.trans (h1.mono hH)))
  have HS := Lib.hid hs
  clear hs hp hok
  go_enter Tryz.func76, Tryz.ntmps76
  go_wp2
  go_loopw [8] (fun i wr => ∃ k : Nat, k ≤ xs.length ∧ i = .int .i64 k ∧ Hid (NoHitI p xs k) ∧ Hid (Below w.heap.size w wr)) (fun i _ => xs.length - (intOf i).toNat)
  case atStart => exact ⟨0, Nat.zero_le _, rfl, Lib.hid (fun j h => by omega), Lib.hid (Below.refl _ _)⟩
  case round =>
    obtain ⟨k, hk, rfl, hno, hbl⟩ := hrel
    by_cases hlt : k < xs.length
    · obtain ⟨b, off, rfl, hat, _⟩ := (HS.out.below hbl.out) (by omega)
      have hc := hat k hlt
      have hcall := HP.out k hlt _ hbl.out
      clear hat
      cases hq : p (xs.getD k 0) with
      | false =>
        rw [hq] at hcall
        have HC := Lib.hid hcall
        have HN := Lib.hid (hno.out.next hq)
        generalize xs.getD k 0 = x at *
        clear hcall hq
        go_wp2_with fail
        refine HC.out.mono ?_
        rintro e w' ⟨rfl, hb1⟩
        have HB1 := Lib.hid (below_behind hbl.out hb1)
        clear hb1
        go_wp2
        go_roundw
        case rel => exact ⟨k + 1, by omega, by go_num, HN, HB1⟩
        case measure => simp [intOf]; omega
      | true =>
        rw [hq] at hcall
        have HC := Lib.hid hcall
        have HN := Lib.hid (show k < xs.length ∧ NoHitI p xs k ∧ p (xs.getD k 0) = true from ⟨hlt, hno.out, hq⟩)
        generalize xs.getD k 0 = x at hc hcall HC
        clear hcall hq
        go_wp2_with fail
        refine HC.out.mono ?_
        rintro e w' ⟨rfl, hb1⟩
        have HB1 := Lib.hid (below_behind hbl.out hb1)
        clear hb1
        go_wp2
        go_ret
        exact ⟨HB1.out, .inr ⟨k, HN.out.1, rfl, HN.out.2⟩⟩
    · obtain rfl : k = xs.length := by omega
      go_wp2
      go_ret
      exact ⟨hbl.out, .inl ⟨rfl, hno.out⟩⟩

set_option maxRecDepth 100000 in
set_option maxHeartbeats 800000 in
theorem contains_ints (H0 : Nat) (W0 : World) (g : Nat) (lb : Array Value) (eg : ∀ args w, (callFunc g args).run Tryz.prog w = .ok (.enter g args) w) (p : Int → Bool) (ok : Int → Prop) (hp : TestI H0 W0 g lb p ok) (A : Option Addr) (c : Nat) (xs : List Int) (hok : ∀ x ∈ xs, ok x) (hn : xs.length ≤ 1000000) (w : World) (hw : Below H0 W0 w) (hH : H0 ≤ w.heap.size)
    (hs : RowS w A xs) :
    Calls Tryz.prog 63 #[.slice A xs.length c, .func (.func g) #[] lb] w (Scalar (.bool (xs.any p)) w) := by
  have HI := Lib.hid (index_ints H0 W0 g lb eg p ok hp A c xs hok hn w hw hH hs)
  clear hs hp hok
  go_enter Tryz.func63, Tryz.ntmps63
  go_wp2_with fail
  refine HI.out.mono ?_
  rintro e w1 ⟨hb, ⟨rfl, hno⟩ | ⟨k, hk, rfl, _, hq⟩⟩
  · have HA := Lib.hid (any_none hno)
    go_wp2
    go_ret
    exact ⟨by rw [HA.out]; rfl, hb⟩
  · have HA := Lib.hid (any_some hk hq)
    clear hq
    have h0 : (0 : Int) ≤ (k : Int) := by omega
    go_wp2
    go_ret
    exact ⟨by rw [HA.out]; simp, hb⟩
end Go.Proofs.YtfbdmheaalmboaaGreatDoor
