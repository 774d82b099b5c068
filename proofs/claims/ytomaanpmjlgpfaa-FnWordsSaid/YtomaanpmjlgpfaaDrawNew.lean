/-
  The model's cursor is made in a new block, whatever the bytes; a pick out of a list of strings or ints that lies in a block of its own gives one of its elements.
-/
import Derived.Test.YtomaanpmjlgpfaaDraw
import Derived.Test.YtomaanpmjlgpfaaStrs
namespace Go.Proofs.Ytomaanpmjlgpfaa
open Go Go.RowKit

def NewPost (B : Nat) (a : Option Addr) (n c : Nat) (W0 : World) (e : Ending) (w' : World) : Prop := ∃ g, e = .returned (.pointer (some ⟨g, 0, none⟩)) ∧ Cur B a n c g W0 w' ∧ g < w'.heap.size

theorem codeAt_pos {W0 : World} {B : Nat} {a : Option Addr} {n : Nat} (h : CodeAt W0 B a n) (hn : 0 < n) : ∃ b off, a = some ⟨b, off, none⟩ ∧ b < B ∧ ∀ k, k < n → ∃ z, 0 ≤ z ∧ z ≤ 255 ∧ W0.cell? ⟨b, off + k, none⟩ = some (.int .u8 z) := by
  obtain ⟨b, off, _, ha, hb, _⟩ := h 0 hn
  refine ⟨b, off, ha, hb, fun k hk => ?_⟩
  obtain ⟨b', off', z, ha', _, z0, z1, hz⟩ := h k hk
  rw [ha] at ha'
  injection ha' with h1
  injection h1 with h2 h3
  subst h2; subst h3
  exact ⟨z, z0, z1, hz⟩

set_option maxRecDepth 100000 in
set_option maxHeartbeats 1600000 in
theorem l1New (B : Nat) (a : Option Addr) (n c : Nat) (W0 w : World) (hcode : CodeAt W0 B a n) (hn : n ≤ 1048576) (hb : Below B W0 w) (hB : B ≤ w.heap.size) :
    Calls Try.prog 59 #[.slice a n c] w (NewPost B a n c W0) := by
  rcases Nat.eq_zero_or_pos n with h0 | h0
  · subst h0
    clear hcode
    go_enter Try.func59, Try.ntmps59
    go_wp2
    refine wp_loop_rounds 1 ?_
    rw [rounds_succ]
    go_wp2
    go_ret
    exact ⟨w.heap.size, rfl, ⟨hb.alloc hB _, by simp; omega, hB, 0, _, Nat.le_refl _, heap_alloc_new w _⟩, by simp⟩
  · obtain ⟨b, off, rfl, hbB, hz⟩ := codeAt_pos hcode h0
    have HZ := Lib.hid hz
    clear hz hcode
    go_enter Try.func59, Try.ntmps59
    go_wp2
    go_loop [3, 4] (fun h i => ∃ (x : Int) (k : Nat), k ≤ n ∧ h = .int .i64 x ∧ i = .int .i64 k) (fun _ i => n - (intOf i).toNat)
    case atStart => exact ⟨_, 0, Nat.zero_le _, rfl, rfl⟩
    case round =>
      obtain ⟨x, k, hk, rfl, rfl⟩ := hrel
      by_cases hlt : k < n
      · by_cases h4 : k < 4000
        · obtain ⟨z, z0, z1, hz⟩ := HZ.out k hlt
          have hzw : w.cell? ⟨b, off + k, none⟩ = some (.int .u8 z) := (hb.cell (p := ⟨b, off + k, none⟩) hbB).trans hz
          clear hz
          have g1 : decide ((k : Int) < 4000) = true := by simp; omega
          have g2 : decide (k < n) = true := by simpa using hlt
          go_wp2
          go_round
          case rel => exact ⟨_, k + 1, by omega, rfl, by go_num⟩
          case measure => simp [intOf]; omega
        · have g1 : decide ((k : Int) < 4000) = false := by simp; omega
          have g2 : decide (k < n) = true := by simpa using hlt
          go_wp2
          go_ret
          exact ⟨w.heap.size, rfl, ⟨hb.alloc hB _, by simp; omega, hB, 0, _, Nat.zero_le _, heap_alloc_new w _⟩, by simp⟩
      · have g2 : decide (k < n) = false := by simpa using hlt
        go_wp2
        go_ret
        exact ⟨w.heap.size, rfl, ⟨hb.alloc hB _, by simp; omega, hB, 0, _, Nat.zero_le _, heap_alloc_new w _⟩, by simp⟩
end Go.Proofs.Ytomaanpmjlgpfaa
