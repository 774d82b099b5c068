/-
  All words of a length: the model's list of them, where the letters are at most 3 and the words at most 729, in new memory; nothing that was there before is changed.
-/
import Derived.Test.YtcoiodfggaanbaaWordNum
import Derived.Test.YtcoiodfggaanbaaStrSame
import Derived.Test.YtcoiodfggaanbaaChecked
import Derived.Deep.Onto
import Derived.Deep.RegionHeld3
import Derived.Deep.AppendLies
import Derived.OwnWalk
namespace Go.Proofs.Ytcoiodfggaanbaa
open Go Go.RowKit

/-- A list of strings in new memory. -/
def ListPost (ps : List ByteArray) (w : World) (e : Ending) (w' : World) : Prop :=
  ∃ v, e = .returned v ∧ w'.ownsRow w.heap.size 9 1 v ps.length (ps.map Value.string) ∧ Below w.heap.size w w'
theorem letter_at (x : Nat) (h : x < 3) : (⟨#[97, 98, 99]⟩ : ByteArray).extract x (x + 1) = letterB x := by
  match x, h with
  | 0, _ => rfl
  | 1, _ => rfl
  | 2, _ => rfl
theorem wrap_next (x : Nat) (h : x ≤ 1000000) : IntKind.i64.wrap ((x : Int) + 1) = (x : Int) + 1 := by
  simp [IntKind.wrap, IntKind.bits, IntKind.signed]
  omega
/-- The words with a letter behind each: j of them done, and the next with x letters. -/
def upTo (ws : List ByteArray) (k j x : Nat) : List ByteArray := longer (ws.take j) k ++ (List.range x).map fun y => ws.getD j ByteArray.empty ++ letterB y
theorem upTo_zero (ws : List ByteArray) (k j : Nat) : upTo ws k j 0 = longer (ws.take j) k := by simp [upTo]
theorem upTo_next (ws : List ByteArray) (k j x : Nat) : upTo ws k j (x + 1) = upTo ws k j x ++ [ws.getD j ByteArray.empty ++ letterB x] := by
  unfold upTo
  rw [range_next, List.append_assoc]
theorem upTo_full (ws : List ByteArray) (k j : Nat) (h : j < ws.length) : upTo ws k j k = longer (ws.take (j + 1)) k := by
  unfold upTo
  rw [longer_next ws k j h, List.getD_eq_getElem?_getD, List.getElem?_eq_getElem h]; rfl
theorem upTo_length (ws : List ByteArray) (k j x : Nat) (h : j ≤ ws.length) : (upTo ws k j x).length = j * k + x := by
  unfold upTo
  rw [List.length_append, longer_length, List.length_take, List.length_map, List.length_range, Nat.min_eq_left h]
theorem getD_size {ws : List ByteArray} {m j : Nat} (h : ∀ x ∈ ws, x.size = m) (hj : j < ws.length) : (ws.getD j ByteArray.empty).size = m := by
  rw [List.getD_eq_getElem?_getD, List.getElem?_eq_getElem hj]
  exact h _ (List.getElem_mem hj)

set_option maxRecDepth 100000 in
set_option maxHeartbeats 1600000 in
theorem spec_all (k n : Nat) (hk1 : 1 ≤ k) (hk : k ≤ 3) (hn : n ≤ 16) (hmax : ∀ i, i ≤ n → k ^ i ≤ 729) (w : World) :
    Calls Try.prog 60 #[.int .i64 k, .int .i64 n] w (ListPost (allW k n) w) := by
  obtain ⟨i0, hi, hz0, hz1, hz2⟩ := info_parts infoStr
  have HMAX := Lib.hid hmax
  clear hmax
  go_enter Try.func60, Try.ntmps60
  go_wp2
  go_loopw [5, 6] (fun v i wr => ∃ m : Nat, m ≤ n ∧ i = .int .i64 m ∧ wr.ownsRow w.heap.size 9 1 v (allW k m).length ((allW k m).map Value.string) ∧ Below w.heap.size w wr) (fun _ i _ => n - (intOf i).toNat)
  case atStart => exact ⟨0, Nat.zero_le _, rfl, World.ownsRow_lit w #[.string ByteArray.empty] 1 (Nat.le_refl _) (by decide) rfl, (Below.refl _ _).alloc (Nat.le_refl _) _⟩
  case round =>
    obtain ⟨m, hm, rfl, ho, hbl⟩ := hrel
    have HB := Lib.hid hbl
    clear hbl
    by_cases hlt : m < n
    · have hlen := allW_length k m
      have hle := HMAX.out m hm
      have hsz := allW_size k m
      have hn1 : allW k (m + 1) = longer (allW k m) k := rfl
      have hpos : 0 < (allW k m).length := by rw [hlen]; exact Nat.pow_pos hk1
      generalize allW k m = ws at *
      rw [← hlen] at hle
      rcases ho.2 with ⟨rfl, h0⟩ | ⟨g, cap, cur, rfl, _, _, _⟩
      · omega
      have hgl := (ho.lt g rfl).2
      have HS := Lib.hid (StrsAt.of_owns ho rfl)
      have HZ := Lib.hid hsz
      have HN := Lib.hid hn1
      clear hsz hn1 hlen ho
      obtain ⟨wo, rfl⟩ : ∃ wo, wo = wr := ⟨_, rfl⟩
      go_wp2
      go_loopw [7, 8] (fun v j wq => ∃ jn : Nat, jn ≤ ws.length ∧ j = .int .i64 jn ∧ wq.ownsRow wo.heap.size 9 1 v (upTo ws k jn 0).length ((upTo ws k jn 0).map Value.string) ∧ Below wo.heap.size wo wq) (fun _ j _ => ws.length - (intOf j).toNat)
      case atStart => exact ⟨0, Nat.zero_le _, rfl, World.ownsRow_made _ _ 0 (Nat.le_refl _) (by decide) rfl, (Below.refl _ _).alloc (Nat.le_refl _) _⟩
      case round =>
        obtain ⟨j, hj, rfl, ho, hbl⟩ := hrel
        have HO := Lib.hid ho
        have HB1 := Lib.hid hbl
        clear ho hbl
        by_cases hjl : j < ws.length
        · go_wp2
          go_loopw [7, 9] (fun v x wq => ∃ xn : Nat, xn ≤ k ∧ x = .int .i64 xn ∧ wq.ownsRow wo.heap.size 9 1 v (upTo ws k j xn).length ((upTo ws k j xn).map Value.string) ∧ Below wo.heap.size wo wq) (fun _ x _ => k - (intOf x).toNat)
          case atStart => exact ⟨0, Nat.zero_le _, rfl, HO.out, HB1.out⟩
          case round =>
            obtain ⟨x, hx, rfl, ho2, hbl2⟩ := hrel
            have HO2 := Lib.hid ho2
            have HB2 := Lib.hid hbl2
            clear ho2 hbl2
            by_cases hxk : x < k
            · have hcell := HS.out.below HB2.out hgl j hjl
              rw [Nat.zero_add] at hcell
              have hws := getD_size HZ.out hjl
              have HU := Lib.hid (upTo_next ws k j x)
              generalize ws.getD j ByteArray.empty = y at *
              have x6 := letter_at x (by omega)
              have x7 := letterB_size x
              have x8 : y.size + (letterB x).size ≤ 9223372036854775807 := by rw [x7, hws]; omega
              clear x7
              have x9 : ∀ w, (Op.stringOp .add y (letterB x)).run Try.prog w = .ok (.string (y ++ letterB x)) w := fun w => run_string_add_sum w _ _ x8
              have HL := Lib.hid (upTo_length ws k j x (by omega))
              have hne : u7.ownBlock ≠ some g := fun h => by have := (HO2.out.lt g h).1; omega
              have hys : (upTo ws k j x).length + 1 ≤ 10000 := by
                have h1 := HL.out
                have h2 : j * k ≤ 729 * 3 := Nat.mul_le_mul (by omega) hk
                omega
              have hb1 : wo.heap.size ≤ wr.heap.size := HB2.out.size
              have j0 : (0 : Int) ≤ (j : Int) := by omega
              have j1 : (j : Int) < (ws.length : Int) := by omega
              have x0 : (0 : Int) ≤ (x : Int) := by omega
              have x1 : (x : Int) + 1 ≤ 3 := by omega
              have x2 : (x : Int) ≤ (x : Int) + 1 := by omega
              have x3 : IntKind.i64.wrap ((x : Int) + 1) = (x : Int) + 1 := wrap_next x (by omega)
              have x4 : (⟨#[97, 98, 99]⟩ : ByteArray).size = 3 := rfl
              have x5 : (x : Int) + 1 ≤ ((⟨#[97, 98, 99]⟩ : ByteArray).size : Int) := x1
              go_wp2
              go_region_held3 (fun w' => w'.cell? ⟨g, j, none⟩ = some (.string y)) (first | go_keep | (rw [hgrow.cell_far _ (by simp; omega) (Ne.symm hne)]; assumption))
                ((refine step_append_lies _ (by rfl) _ _ _ (by rfl) wo.heap.size 9 i0 _ 1 16 Try.underlying56 hi hz0 hz1 hz2 rfl (by omega) u7 (upTo ws k j x).length ((upTo ws k j x).map Value.string) (by rfl) ((HO2.out.alloc _).drew) ⟨wr.heap.size, 0, none⟩ 1 1 [.string (y ++ letterB x)] (by rfl) (by rfl) (World.news_of_block (cs := #[.string (y ++ letterB x)]) (t := 9) (fr := (0, 0)) (heap_alloc_new wr _)) (by simp [Value.oneCell']) (by omega) (by unfold maxLen; omega) (by omega) (by simp; omega) (wr.heap.size + 1) (by simp) ?_; intro gg cap1 w1 hown1 hgrow hat hlt1))
              have hb2 : Below wo.heap.size wo w1 := (HB2.out.alloc HB2.out.size _).drew.grown hgrow (by simp; omega) (fun k hk => (HO2.out.lt k hk).1)
              have HO3 := Lib.hid hown1
              have HB3 := Lib.hid hb2
              clear hown1 hb2 hgrow hat hlt1
              go_wp2
              go_roundw
              case rel => exact ⟨x + 1, by omega, by go_num, by rw [HU.out, List.length_append, List.map_append]; exact HO3.out, HB3.out⟩
              case measure => simp [intOf]; omega
            · obtain rfl : x = k := by omega
              go_wp2
              go_roundw
              case rel => exact ⟨j + 1, by omega, by go_num, by rw [upTo_zero, ← upTo_full ws x j hjl]; exact HO2.out, HB2.out⟩
              case measure => simp [intOf]; omega
        · obtain rfl : j = ws.length := by omega
          go_wp2
          go_roundw
          case rel => exact ⟨m + 1, by omega, by go_num, by rw [HN.out]; have h := HO.out; rw [upTo_zero, List.take_length] at h; exact h.mono HB.out.size, HB.out.trans (HB1.out.mono HB.out.size)⟩
          case measure => simp [intOf]; omega
    · obtain rfl : m = n := by omega
      have HO := Lib.hid ho
      clear ho
      go_wp2
      go_ret
      exact ⟨_, rfl, HO.out, HB.out⟩
end Go.Proofs.Ytcoiodfggaanbaa
