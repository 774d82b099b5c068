/-
  The laws' marks on slices of strings: a row that the call owns is marked, and a marked row is found marked; other memory that was there is not changed.
-/
import Derived.Test.YtalclebehbdliaaDoorMark
import Derived.Deep.RegionHeld3
namespace Go.Proofs.YtalclebehbdliaaDoor
open Go Go.RowKit

/-- The row holds the marks from q on; of what was there no other block has turned. -/
def MarksPost (B q g cap n : Nat) (w : World) (e : Ending) (w' : World) : Prop :=
  e = .returned (.int .i64 ((q + n : Nat) : Int)) ∧ w'.ownsRow B 9 1 (.slice (some ⟨g, 0, none⟩) n cap) n ((marks q n).map Value.string) ∧ w.grownBy w' (some g)

set_option maxRecDepth 100000 in
set_option maxHeartbeats 800000 in
theorem mark_row (B q g cap : Nat) (xs : List ByteArray) (hq0 : 0 < q) (hq : q ≤ 1000000000000) (hn : xs.length ≤ 1099511627776) (w : World) (ho : w.ownsRow B 9 1 (.slice (some ⟨g, 0, none⟩) xs.length cap) xs.length (xs.map Value.string)) :
    Calls Tryd.prog 11 #[.slice (some ⟨g, 0, none⟩) xs.length cap, .int .i64 (q : Int)] w (MarksPost B q g cap xs.length w) := by
  have HO0 := Lib.hid ho
  have hg := (ho.lt g rfl).2
  clear ho
  go_enter Tryd.func11, Tryd.ntmps11
  go_wp2
  go_loopw [1, 5] (fun p i wr => ∃ k : Nat, k ≤ xs.length ∧ p = .int .i64 ((q + k : Nat) : Int) ∧ i = .int .i64 k ∧ wr.ownsRow B 9 1 (.slice (some ⟨g, 0, none⟩) xs.length cap) xs.length (marked xs q k) ∧ w.grownBy wr (some g)) (fun _ i _ => xs.length - (intOf i).toNat)
  case atStart => exact ⟨0, Nat.zero_le _, rfl, rfl, by rw [marked_none]; exact HO0.out, World.grownBy.refl _ _⟩
  case round =>
    obtain ⟨k, hk, rfl, rfl, ho, hgr⟩ := hrel
    by_cases hlt : k < xs.length
    · have HM := Lib.hid (markText_pos (q + k) (by omega) (by omega))
      obtain ⟨y, hy⟩ := marked_at xs q k hlt
      have HY := Lib.hid ((ho.cellAt k (by omega)).trans hy)
      have HF := Lib.hid (ho.frozenAt k)
      have HO := Lib.hid ho
      have hgl := (ho.lt g rfl).2
      clear ho hy
      go_wp2_with fail
      refine (HM.out _).mono ?_
      rintro e w1 ⟨rfl, hb1⟩
      have hc : w1.cell? ⟨g, k, none⟩ = some (.string y) := (hb1.cell (p := ⟨g, k, none⟩) hgl).trans HY.out
      have hf : w1.frozen? ⟨g, k, none⟩ = false := (hb1.frozen (p := ⟨g, k, none⟩) hgl).trans HF.out
      have ho1 : w1.ownsRow B 9 1 (.slice (some ⟨g, 0, none⟩) xs.length cap) xs.length (marked xs q k) := HO.out.kept (row := none) ⟨hb1.os, hb1.tape, hb1.output, hb1.size, fun j hj _ => hb1.block j hj⟩ (Or.inr (by simp [Value.ownBlock]))
      have hst := ho1.stored k (.string (mark (q + k)))
      rw [marked_set xs q k hlt] at hst
      have HS := Lib.hid hst.1
      have HG : Hid (w.grownBy (w1.setCell ⟨g, k, none⟩ (.string (mark (q + k)))) (some g)) := by
        refine ⟨hst.2.os.trans (hb1.os.trans hgr.os), hst.2.tape.trans (hb1.tape.trans hgr.tape), hst.2.output.trans (hb1.output.trans hgr.output), Nat.le_trans hgr.size (Nat.le_trans hb1.size hst.2.size), fun j hj hne => ?_⟩
        have hj1 := Nat.lt_of_lt_of_le hj hgr.size
        exact (hst.2.block j (Nat.lt_of_lt_of_le hj1 hb1.size) hne).trans ((hb1.block j hj1).trans (hgr.block j hj hne))
      clear hst ho1 hb1 hgr
      go_wp2
      go_roundw
      case rel => exact ⟨k + 1, by omega, by go_num, by go_num, HS.out, HG.out⟩
      case measure => simp [intOf]; omega
    · obtain rfl : k = xs.length := by omega
      rw [marked_all] at ho
      have HO := Lib.hid ho
      clear ho
      go_wp2
      go_ret
      exact ⟨rfl, HO.out, hgr⟩

def HeldPost (q n : Nat) (w : World) (e : Ending) (w' : World) : Prop := e = .returned (.int .i64 ((q + n : Nat) : Int)) ∧ Below w.heap.size w w'

set_option maxRecDepth 100000 in
set_option maxHeartbeats 1600000 in
theorem held_row (q g cap n : Nat) (hq0 : 0 < q) (hq : q ≤ 1000000000000) (hn : n ≤ 1099511627776) (w : World) (hst : StrsAt w g 0 (marks q n)) (hg : g < w.heap.size) :
    Calls Tryd.prog 12 #[.slice (some ⟨g, 0, none⟩) n cap, .int .i64 (q : Int)] w (HeldPost q n w) := by
  have HT := Lib.hid hst
  clear hst
  go_enter Tryd.func12, Tryd.ntmps12
  go_wp2
  go_loopw [1, 5] (fun p i wr => ∃ k : Nat, k ≤ n ∧ p = .int .i64 ((q + k : Nat) : Int) ∧ i = .int .i64 k ∧ Below w.heap.size w wr) (fun _ i _ => n - (intOf i).toNat)
  case atStart => exact ⟨0, Nat.zero_le _, rfl, rfl, Below.refl _ _⟩
  case round =>
    obtain ⟨k, hk, rfl, rfl, hbl⟩ := hrel
    by_cases hlt : k < n
    · have hc0 := HT.out.below hbl hg k (by rw [marks_length]; exact hlt)
      rw [marks_get n q k hlt, Nat.zero_add] at hc0
      have hgl : g < wr.heap.size := Nat.lt_of_lt_of_le hg hbl.size
      have HM := Lib.hid (markText_pos (q + k) (by omega) (by omega))
      have HB := Lib.hid hbl
      clear hbl
      have k0 : (0 : Int) ≤ (k : Int) := by omega
      have k1 : (k : Int) < (n : Int) := by omega
      go_wp2
      go_region_held3 (fun w' => w'.cell? ⟨g, k, none⟩ = some (.string (mark (q + k)))) (first | (rw [Below.cell (by assumption) (by first | assumption | (simp; omega))]; assumption) | go_keep) (first | (go_at_call 23; refine (HM.out _).mono ?_; rintro e w2 ⟨rfl, hb2⟩))
      go_wp2
      go_roundw
      case rel => exact ⟨k + 1, by omega, by go_num, by go_num, HB.out.drew.trans (hb2.mono HB.out.size)⟩
      case measure => simp [intOf]; omega
    · obtain rfl : k = n := by omega
      go_wp2
      go_ret
      exact ⟨rfl, hbl⟩
end Go.Proofs.YtalclebehbdliaaDoor
