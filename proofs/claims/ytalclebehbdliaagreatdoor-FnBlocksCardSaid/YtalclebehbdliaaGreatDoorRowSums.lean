/-
  The program's TraceOf and SumOf: at every table they answer what the plain words say, and change nothing.
-/
import Derived.Test.YtalclebehbdliaaGreatDoorRowEnds
namespace Go.Proofs.YtalclebehbdliaaGreatDoor
open Go Go.RowKit

set_option maxRecDepth 100000 in
set_option maxHeartbeats 1600000 in
theorem impl_sumOf (A : Option Addr) (c : Nat) (m : List (List Int)) (hn : m.length ≤ 1099511627776) (ht : ∀ k, k < m.length → (m.getD k []).length ≤ 1099511627776) (w : World) (hg : GridS w A m) :
    Calls Tryz.prog 87 #[.slice A m.length c] w fun e w' => e = .returned (.int .i64 (sumM m)) ∧ w' = w := by
  have HG := Lib.hid hg
  have HI := Lib.hid (impl_isMatrix A c m hn ht w hg)
  clear hg ht
  unfold sumM
  cases hm : isMat m with
  | false =>
    rw [hm] at HI
    go_enter Tryz.func87, Tryz.ntmps87
    go_wp2_with fail
    refine HI.out.mono ?_
    rintro e w1 ⟨rfl, rfl⟩
    go_wp2
    go_ret
    exact ⟨rfl, rfl⟩
  | true =>
    rw [hm] at HI
    have hf := isMat_facts hm
    have hle := hf.le
    have HF := Lib.hid hf
    rw [if_pos rfl]
    clear hm hf
    go_enter Tryz.func87, Tryz.ntmps87
    go_wp2_with fail
    refine HI.out.mono ?_
    rintro e w1 ⟨rfl, rfl⟩
    go_wp2
    go_loop [3, 13] (fun s i => ∃ k : Nat, k ≤ m.length ∧ s = .int .i64 (sumTo k fun i => sumTo m.length fun j => cellOf m i j) ∧ i = .int .i64 k) (fun _ i => m.length - (intOf i).toNat)
    case atStart => exact ⟨0, Nat.zero_le _, rfl, rfl⟩
    case round =>
      obtain ⟨k, hk, rfl, rfl⟩ := hrel
      by_cases hlt : k < m.length
      · have hb1 := sumTo_le (f := fun i => sumTo m.length fun j => cellOf m i j) (B := 9000000) k (fun t ht => by
          have h := sumTo_le (f := fun j => cellOf m t j) (B := 1000000) m.length (fun u hu => HF.out.cell t u (by omega) hu)
          exact ⟨h.1, by omega⟩)
        have HN : Hid ((sumTo k fun i => sumTo m.length fun j => cellOf m i j) + (sumTo m.length fun j => cellOf m k j) = sumTo (k + 1) fun i => sumTo m.length fun j => cellOf m i j) := Lib.hid rfl
        generalize (sumTo k fun i => sumTo m.length fun j => cellOf m i j) = s at *
        have hb3 : s ≤ 81000000 := by omega
        obtain ⟨b, off, A', c', rfl, k0, hrow, _⟩ := HG.out.row hlt
        rw [HF.out.row k hlt] at k0
        obtain ⟨b2, off2, rfl, hat, _⟩ := hrow (by rw [HF.out.row k hlt]; omega)
        have HAT : Hid (∀ t, t < m.length → w1.cell? ⟨b2, off2 + t, none⟩ = some (.int .i64 (cellOf m k t))) := Lib.hid fun t htt => hat t (by rw [HF.out.row k hlt]; exact htt)
        clear hat
        go_wp2
        go_loop [3, 19] (fun s' j => ∃ t : Nat, t ≤ m.length ∧ s' = .int .i64 (s + sumTo t fun j => cellOf m k j) ∧ j = .int .i64 t) (fun _ j => m.length - (intOf j).toNat)
        case atStart => exact ⟨0, Nat.zero_le _, by simp [sumTo], rfl⟩
        case round =>
          obtain ⟨t, htl, rfl, rfl⟩ := hrel
          by_cases htt : t < m.length
          · have k2 := HAT.out t htt
            have hb4 := sumTo_le (f := fun j => cellOf m k j) (B := 1000000) t (fun u hu => HF.out.cell k u hlt (by omega))
            have hb2 := HF.out.cell k t hlt htt
            have HN2 : Hid ((sumTo t fun j => cellOf m k j) + cellOf m k t = sumTo (t + 1) fun j => cellOf m k j) := Lib.hid rfl
            generalize (sumTo t fun j => cellOf m k j) = s2 at *
            generalize cellOf m k t = y at *
            have hb5 : s2 ≤ 9000000 := by omega
            go_wp2
            go_round
            case rel => exact ⟨t + 1, by omega, by rw [← HN2.out]; go_num, by go_num⟩
            case measure => simp [intOf]; omega
          · obtain rfl : t = m.length := by omega
            go_wp2
            go_round
            case rel => exact ⟨k + 1, by omega, by rw [← HN.out], by go_num⟩
            case measure => simp [intOf]; omega
      · obtain rfl : k = m.length := by omega
        go_wp2
        go_ret
        exact ⟨rfl, rfl⟩
end Go.Proofs.YtalclebehbdliaaGreatDoor
