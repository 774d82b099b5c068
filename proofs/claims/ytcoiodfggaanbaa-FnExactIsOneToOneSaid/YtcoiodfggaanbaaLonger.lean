/-
  The program's longerWords: at every list of words in memory and every number of letters up to 3 it returns each word with each letter behind it, in new memory; nothing that was there before is changed.
-/
import Derived.Test.YtcoiodfggaanbaaAllW
import Derived.Laws.BytesArg
namespace Go.Proofs.Ytcoiodfggaanbaa
open Go Go.RowKit

theorem letter_conv (x : Nat) (y : Int) (hx : x < 3) (hy : y = 97 + (x : Int)) (w : World) : (convert 22 9 (.slice (some ⟨w.heap.size, 0, none⟩) 1 1)).run Try.prog (w.alloc (.cells #[.int .u8 y] 5))
    = .ok (.string (letterB x)) (w.alloc (.cells #[.int .u8 y] 5)) := by
  have h := run_convert_bytes_arg (P := Try.prog) (w.alloc (.cells #[.int .u8 y] 5)) 22 5 Try.underlying22 Try.underlying5 w.heap.size 0 1 1 [y] rfl (fun i hi => by
    obtain rfl : i = 0 := by omega
    simp [go_sem]) 9 Try.underlying9
  rw [h]
  have e : y.toNat = 97 + x := by omega
  simp [strOfNums, letterB, e]

set_option maxRecDepth 100000 in
set_option maxHeartbeats 1600000 in
theorem impl_longer (g cap m k : Nat) (ws : List ByteArray) (hk : k ≤ 3) (hm : m ≤ 16) (hl : ws.length ≤ 729) (hz : ∀ x ∈ ws, x.size = m) (w : World) (hs : StrsAt w g 0 ws) (hg : g < w.heap.size) :
    Calls Try.prog 92 #[.slice (some ⟨g, 0, none⟩) ws.length cap, .int .i64 k] w (ListPost (longer ws k) w) := by
  obtain ⟨i0, hi, hz0, hz1, hz2⟩ := info_parts infoStr
  have HS := Lib.hid hs
  have HZ := Lib.hid hz
  clear hs hz
  have hmul : ws.length * k ≤ 729 * 3 := Nat.mul_le_mul hl hk
  have hcast : ((ws.length : Int) * (k : Int)) = ((ws.length * k : Nat) : Int) := by rw [Int.natCast_mul]
  have hm0 : 0 ≤ (ws.length : Int) * (k : Int) := by rw [hcast]; omega
  have hm1 : (ws.length : Int) * (k : Int) ≤ 2187 := by rw [hcast]; omega
  have hw1 : IntKind.i64.wrap ((ws.length : Int) * (k : Int)) = (ws.length : Int) * (k : Int) := wrap_small _ hm0 (by omega)
  have hw2 : wrap64 ((ws.length : Int) * (k : Int)) = (ws.length : Int) * (k : Int) := by unfold wrap64; omega
  have HC := Lib.hid hcast
  clear hcast hw1
  go_enter Try.func92, Try.ntmps92
  go_wp2_with (at_make; refine wpList_make_own _ rfl _ _ 56 rfl w.heap.size 9 i0 (.string ByteArray.empty) 1 Try.underlying56 hi hz0 hz1 .i64 .i64 _ (ws.length * k) rfl rfl HC.out (by rw [hz2]; omega) (by unfold maxLen; omega) (Nat.le_refl _) ?_; intro w1 hown hgrow)
  have HB0 := Lib.hid ((Below.refl w.heap.size w).grown hgrow (Nat.le_refl _) (fun k hk => by cases hk))
  have HO0 := Lib.hid hown
  clear hown hgrow hm0 hm1 hw2
  go_wp2
  go_loopw [5, 16] (fun v i wr => ∃ j : Nat, j ≤ ws.length ∧ i = .int .i64 j ∧ wr.ownsRow w.heap.size 9 1 v (upTo ws k j 0).length ((upTo ws k j 0).map Value.string) ∧ Below w.heap.size w wr) (fun _ i _ => ws.length - (intOf i).toNat)
  case atStart => exact ⟨0, Nat.zero_le _, rfl, HO0.out, HB0.out⟩
  case round =>
    obtain ⟨j, hj, rfl, ho, hbl⟩ := hrel
    have HO := Lib.hid ho
    have HB := Lib.hid hbl
    clear ho hbl
    by_cases hjl : j < ws.length
    · have hcell := HS.out.below HB.out hg j hjl
      rw [Nat.zero_add] at hcell
      have hws := getD_size HZ.out hjl
      have HU := Lib.hid (upTo_next ws k j)
      obtain ⟨y, hy⟩ : ∃ y, ws.getD j ByteArray.empty = y := ⟨_, rfl⟩
      rw [hy] at hcell hws HU
      clear hy
      go_wp2
      go_loopw [5, 21] (fun v i wr => ∃ x : Nat, x ≤ k ∧ i = .int .i64 x ∧ wr.ownsRow w.heap.size 9 1 v (upTo ws k j x).length ((upTo ws k j x).map Value.string) ∧ Below w.heap.size w wr) (fun _ i _ => k - (intOf i).toNat)
      case atStart => exact ⟨0, Nat.zero_le _, rfl, HO.out, HB.out⟩
      case round =>
        obtain ⟨x, hx, rfl, ho2, hbl2⟩ := hrel
        have HO2 := Lib.hid ho2
        have HB2 := Lib.hid hbl2
        clear ho2 hbl2
        by_cases hxk : x < k
        · have hys : (upTo ws k j x).length + 1 ≤ 10000 := by
            have h1 := upTo_length ws k j x (by omega)
            have h2 : j * k ≤ 729 * 3 := Nat.mul_le_mul (by omega) hk
            omega
          have hcv := letter_conv x (97 + (x : Int)) (by omega) rfl
          have x7 := letterB_size x
          have x8 : y.size + (letterB x).size ≤ 9223372036854775807 := by rw [x7, hws]; omega
          have HU2 := Lib.hid (HU.out x)
          clear x7
          have hnew : ∀ (c : Obj) (q : Nat) (u : Value), [Value.string (y ++ letterB x)][q]? = some u → ((wr.alloc c).alloc (.cells #[.string (y ++ letterB x)] 9)).cell? ((⟨wr.heap.size + 1, 0, none⟩ : Addr).add q) = some u := by
            intro c q u hq
            have h := cell_one_new (wr.alloc c) (.string (y ++ letterB x)) 9 q u hq
            rw [World.size_alloc] at h
            exact h
          have HNEW := Lib.hid hnew
          clear hnew
          go_wp2_with (at_builtin; refine wpList_append_own _ rfl (.tmp 24) (.tmp 32) 56 rfl w.heap.size 9 i0 (.string ByteArray.empty) 1 16 Try.underlying56 hi hz0 hz1 hz2 rfl (by decide) _ _ _ rfl ((HO2.out.alloc _).alloc _) ⟨wr.heap.size + 1, 0, none⟩ 1 1 [.string (y ++ letterB x)] rfl rfl (HNEW.out _) (by intro u hu; rw [List.mem_singleton] at hu; subst hu; rfl) (by unfold maxLen; omega) (by omega) (by have := HB2.out.size; simp; omega) ?_; intro v1 w1 ho1 hg1 _; have hb1 : Below w.heap.size w w1 := ((HB2.out.alloc HB2.out.size _).alloc (by have := HB2.out.size; simp; omega) _).grown hg1 (by have := HB2.out.size; simp; omega) (fun k hk => (HO2.out.lt k hk).1); have HO3 := Lib.hid ho1; have HB3 := Lib.hid hb1; clear ho1 hb1 hg1)
          go_roundw
          case rel => exact ⟨x + 1, by omega, by go_num, by rw [HU2.out, List.length_append, List.map_append]; exact HO3.out, HB3.out⟩
          case measure => simp [intOf]; omega
        · obtain rfl : x = k := by omega
          go_wp2
          go_roundw
          case rel => exact ⟨j + 1, by omega, by go_num, by rw [upTo_zero, ← upTo_full ws x j hjl]; exact HO2.out, HB2.out⟩
          case measure => simp [intOf]; omega
    · obtain rfl : j = ws.length := by omega
      go_wp2
      go_ret
      have h := HO.out
      rw [upTo_zero, List.take_length] at h
      exact ⟨_, rfl, h, HB.out⟩
end Go.Proofs.Ytcoiodfggaanbaa
