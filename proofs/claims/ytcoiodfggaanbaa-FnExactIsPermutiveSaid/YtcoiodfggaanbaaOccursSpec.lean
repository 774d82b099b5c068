/-
  Whether a string has a part: the model's OccursIn, at every two strings of at most 2^31 bytes; nothing is changed.
-/
import Derived.Test.YtcoiodfggaanbaaWordNum
import Derived.Test.YtcoiodfggaanbaaChecked
namespace Go.Proofs.Ytcoiodfggaanbaa
open Go Go.RowKit

def occ (s sub : ByteArray) : Bool := Lib.contains s.data.toList sub.data.toList
/-- The part doesn't begin before place k. -/
def NoOcc (s sub : ByteArray) (k : Nat) : Prop := ∀ j, j < k → j + sub.size ≤ s.size → Lib.occAt s.data.toList sub.data.toList j = false
theorem NoOcc.next {s sub : ByteArray} {k : Nat} (h : NoOcc s sub k) (ho : Lib.occAt s.data.toList sub.data.toList k = false) : NoOcc s sub (k + 1) := by
  intro j h1 h2
  by_cases e : j = k
  · subst e; exact ho
  · exact h j (by omega) h2
theorem NoOcc.no {s sub : ByteArray} {k : Nat} (h : NoOcc s sub k) (hk : s.size < k + sub.size) : occ s sub = false :=
  contains_no (fun i hi => by
    rw [ba_len, ba_len] at hi
    exact h i (by omega) hi)

set_option maxRecDepth 100000 in
theorem spec_occurs (s sub : ByteArray) (hs : s.size ≤ 2147483648) (hb : sub.size ≤ 2147483648) (w : World) :
    Calls Try.prog 79 #[.string s, .string sub] w fun e w' => e = .returned (.bool (occ s sub)) ∧ w' = w := by
  go_enter Try.func79, Try.ntmps79
  go_wp2
  go_loop [5] (fun i => ∃ k : Nat, k ≤ s.size + 1 ∧ i = .int .i64 k ∧ Hid (NoOcc s sub k)) (fun i => s.size + 1 - (intOf i).toNat)
  case atStart => exact ⟨0, Nat.zero_le _, rfl, Lib.hid (fun j h => by omega)⟩
  case round =>
    obtain ⟨k, hk, rfl, hno⟩ := hrel
    by_cases hlt : k + sub.size ≤ s.size
    · have hq : ((s.extract k (k + sub.size)).toList == sub.toList) = Lib.occAt s.data.toList sub.data.toList k := by rw [ba_same, occ_eq]
      cases ho : Lib.occAt s.data.toList sub.data.toList k with
      | true =>
        rw [ho] at hq
        have HO := Lib.hid (show occ s sub = true from contains_yes (i := k) (by rw [ba_len]; omega) ho)
        clear ho
        go_wp2
        go_ret
        exact ⟨by rw [HO.out]; rfl, rfl⟩
      | false =>
        rw [ho] at hq
        have HO := Lib.hid (hno.out.next ho)
        clear ho
        go_wp2
        go_round
        case rel => exact ⟨k + 1, by omega, by go_num, HO⟩
        case measure => simp [intOf]; omega
    · have HO := Lib.hid (hno.out.no (by omega))
      go_wp2
      go_ret
      exact ⟨by rw [HO.out]; rfl, rfl⟩

end Go.Proofs.Ytcoiodfggaanbaa
