/-
  The program's CountPaths: what the plain words say; nothing that was there before is changed.
-/
import Derived.Test.YthljogoggiejmaaGraphI
import Derived.Test.YthljogoggiejmaaMatPowI
namespace Go.Proofs.Ythljogoggiejmaa
open Go Go.RowKit

set_option maxRecDepth 100000 in
set_option maxHeartbeats 800000 in
theorem impl_countPaths (A : Option Addr) (c : Nat) (m : List (List Int)) (hl : m.length ≤ 1048576) (ht : tot m ≤ 1048576) (n : Int) (w : World) (hg : GridS w A m) :
    Calls Try.prog 28 #[.slice A m.length c, .int .i64 n] w (Scalar (.int .i64 (countM m n)) w) := by
  have HP := Lib.hid (impl_power A c m hl ht n w hg)
  unfold countM
  cases hp : powS m n with
  | none =>
    rw [hp] at HP
    clear hg
    go_enter Try.func28, Try.ntmps28
    go_wp2_with fail
    refine HP.out.mono ?_
    rintro e w1 ⟨v, rfl, ho, hb⟩
    clear ho
    go_wp2
    go_ret
    exact ⟨rfl, hb⟩
  | some p =>
    rw [hp] at HP
    have hz : isMat p = true := by
      unfold powS at hp
      split at hp
      · next hc => exact powM_isMat hc.1 _ hp
      · cases hp
    have fz := isMat_facts hz
    have tz := tot_isMat fz
    have lz := fz.le
    have HS : Hid (∀ A' c' w', GridS w' A' p → Calls Try.prog 34 #[.slice A' p.length c'] w' fun e w2 => e = .returned (.int .i64 (sumM p)) ∧ w2 = w') := Lib.hid fun A' c' w' h => impl_sumOf A' c' p (by omega) (fun k hk => by have := row_le_tot hk; omega) w' h
    clear hg hp hz fz tz lz
    go_enter Try.func28, Try.ntmps28
    go_wp2_with fail
    refine HP.out.mono ?_
    rintro e w1 ⟨v, rfl, ho, hb⟩
    obtain ⟨A', c', rfl, hg'⟩ := ho.gridS
    have HS1 := Lib.hid (HS.out A' c' w1 hg')
    clear ho hg'
    go_wp2_with fail
    refine HS1.out.mono ?_
    rintro e w2 ⟨rfl, hw⟩
    obtain rfl : w1 = w2 := hw.symm
    go_wp2
    go_ret
    exact ⟨rfl, hb⟩
end Go.Proofs.Ythljogoggiejmaa
