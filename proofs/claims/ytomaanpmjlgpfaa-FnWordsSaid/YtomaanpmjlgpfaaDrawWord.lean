/-
  The model's draws of words: whatever the bytes, short strings and ints; nothing that was there before is changed.
-/
import Derived.Test.YtomaanpmjlgpfaaDrawPick
import Derived.Test.YtomaanpmjlgpfaaRoot
import Derived.Deep.RegionHeld3
namespace Go.Proofs.Ytomaanpmjlgpfaa
open Go Go.RowKit

theorem Cur.lt' {B : Nat} {a : Option Addr} {n c g : Nat} {W0 w : World} (h : Cur B a n c g W0 w) : g < w.heap.size := by
  obtain ⟨_, _, _, i, x, _, h5⟩ := h
  exact lt_of_block h5
theorem getD_mem' {α : Type} {l : List α} {k : Nat} {d : α} (h : k < l.length) : l.getD k d ∈ l := by
  simp only [List.getD, List.getElem?_eq_getElem h, Option.getD_some]
  exact List.getElem_mem h

/-- A short string, the cursor moved on. -/
def ShortPost (m : Nat) (B : Nat) (a : Option Addr) (n c g : Nat) (W0 : World) (e : Ending) (w' : World) : Prop := ∃ s : ByteArray, s.size ≤ m ∧ e = .returned (.string s) ∧ Cur B a n c g W0 w'
def IntPost (m : Int) (B : Nat) (a : Option Addr) (n c g : Nat) (W0 : World) (e : Ending) (w' : World) : Prop := ∃ x : Int, 0 ≤ x ∧ x ≤ m ∧ e = .returned (.int .i64 x) ∧ Cur B a n c g W0 w'

def abc : List ByteArray := [⟨#[97]⟩, ⟨#[98]⟩, ⟨#[99]⟩]
theorem abc_short : ∀ s ∈ abc, s.size ≤ 1 := by decide
def abcd : List ByteArray := [⟨#[97]⟩, ⟨#[98]⟩, ⟨#[99]⟩, ⟨#[100]⟩]
theorem abcd_short : ∀ s ∈ abcd, s.size ≤ 1 := by decide

theorem pick_abc (k : Nat) (h1 : 1 ≤ k) (h3 : k ≤ 3) (B : Nat) (a : Option Addr) (n c g : Nat) (W0 w : World) (hcode : CodeAt W0 B a n) (hn : n ≤ 1048576) (hcur : Cur B a n c g W0 w) :
    Calls Try.prog 101 #[.pointer (some ⟨g, 0, none⟩), .slice (some ⟨w.heap.size, 0, none⟩) k 3] (w.alloc (.cells #[.string ⟨#[97]⟩, .string ⟨#[98]⟩, .string ⟨#[99]⟩] 9)) (ShortPost 1 B a n c g W0) := by
  have hl : (abc.take k).length = k := by rw [List.length_take]; simp [abc]; omega
  have hst : StrsAt (w.alloc (.cells #[.string ⟨#[97]⟩, .string ⟨#[98]⟩, .string ⟨#[99]⟩] 9)) w.heap.size 0 (abc.take k) := by
    intro j hj
    have h := strsAt_new w abc 9 j (by rw [hl] at hj; simp [abc]; omega)
    rw [show (w.alloc (.cells #[.string ⟨#[97]⟩, .string ⟨#[98]⟩, .string ⟨#[99]⟩] 9)) = (w.alloc (.cells (abc.map Value.string).toArray 9)) from rfl, h]
    rw [hl] at hj
    simp [List.getD_eq_getElem?_getD, hj]
  have h := l1Pick w.heap.size 3 (abc.take k) (by omega) (by omega) B a n c g W0 _ hcode hn (hcur.alloc (.cells #[.string ⟨#[97]⟩, .string ⟨#[98]⟩, .string ⟨#[99]⟩] 9)) hst (by have := hcur.lt'; omega)
  rw [hl] at h
  refine h.mono ?_
  rintro e w1 ⟨j, hj, rfl, hc, _⟩
  exact ⟨_, abc_short _ (List.mem_of_mem_take (getD_mem' (d := ByteArray.empty) hj)), rfl, hc⟩

theorem draw_bit (x : Bool) (w : World) : Calls Try.prog 65 #[.bool x] w fun e w' => ∃ y : Int, 0 ≤ y ∧ y ≤ 1 ∧ e = .returned (.int .i64 y) ∧ w' = w := by
  go_enter Try.func65, Try.ntmps65
  cases x with
  | false => go_wp2; go_ret; exact ⟨0, by decide, by decide, rfl, rfl⟩
  | true => go_wp2; go_ret; exact ⟨1, by decide, by decide, rfl, rfl⟩

set_option maxRecDepth 100000 in
set_option maxHeartbeats 800000 in
theorem draw_draw (k m : Nat) (h1 : 1 ≤ k) (h3 : k ≤ 3) (hm : m ≤ 100) (B : Nat) (a : Option Addr) (n c g : Nat) (W0 w : World) (hcode : CodeAt W0 B a n) (hn : n ≤ 1048576) (hcur : Cur B a n c g W0 w) :
    Calls Try.prog 71 #[.pointer (some ⟨g, 0, none⟩), .int .i64 k, .int .i64 m] w (ShortPost m B a n c g W0) := by
  have HB := Lib.hid (l1Below ((m : Int) + 1) (by omega) B a n c g W0 w hcode hn hcur)
  have HP := Lib.hid (fun w' => pick_abc k h1 h3 B a n c g W0 w' hcode hn)
  clear hcode hcur
  go_enter Try.func71, Try.ntmps71
  go_wp2_with fail
  refine HB.out.mono ?_
  rintro e w1 ⟨x, x0, x1, rfl, hc1, _⟩
  obtain ⟨t, rfl⟩ := Int.eq_ofNat_of_zero_le x0
  have ht : t ≤ m := by omega
  have HC1 := Lib.hid hc1
  clear hc1 x0 x1
  go_wp2
  go_loopw [7, 8] (fun v i wr => ∃ (d : Nat) (s : ByteArray), d ≤ t ∧ i = .int .i64 d ∧ v = .string s ∧ s.size + d ≤ m ∧ Hid (Cur B a n c g W0 wr)) (fun _ i _ => (intOf i).toNat)
  case atStart => exact ⟨t, ByteArray.empty, Nat.le_refl _, rfl, rfl, by simpa using ht, HC1⟩
  case round =>
    obtain ⟨d, s, hd, rfl, rfl, hs, hc⟩ := hrel
    by_cases h0 : 0 < d
    · have HP1 := Lib.hid (HP.out wr hc.out)
      go_wp2_with fail
      refine HP1.out.mono ?_
      rintro e w2 ⟨y, hy, rfl, hc2⟩
      have HC2 := Lib.hid hc2
      clear hc2
      go_wp2
      go_roundw
      case rel => exact ⟨d - 1, s ++ y, by omega, by go_num, rfl, by rw [ByteArray.size_append]; omega, HC2⟩
      case measure => simp [intOf]; omega
    · obtain rfl : d = 0 := by omega
      go_wp2
      go_ret
      exact ⟨s, by omega, rfl, hc.out⟩

theorem pick_abcd (B : Nat) (a : Option Addr) (n c g b : Nat) (W0 w : World) (hcode : CodeAt W0 B a n) (hn : n ≤ 1048576) (hcur : Cur B a n c g W0 w) (hst : StrsAt w b 0 abcd) (hbg : b ≠ g) :
    Calls Try.prog 101 #[.pointer (some ⟨g, 0, none⟩), .slice (some ⟨b, 0, none⟩) 4 4] w (ShortPost 1 B a n c g W0) := by
  refine (l1Pick b 4 abcd (by decide) (by decide) B a n c g W0 _ hcode hn hcur hst hbg).mono ?_
  rintro e w1 ⟨j, hj, rfl, hc, _⟩
  exact ⟨_, abcd_short _ (getD_mem' (d := ByteArray.empty) hj), rfl, hc⟩

set_option maxRecDepth 100000 in
set_option maxHeartbeats 800000 in
theorem draw_turned (s : ByteArray) (hs : s.size ≤ 1000) (b B : Nat) (a : Option Addr) (n c g : Nat) (W0 w : World) (hcode : CodeAt W0 B a n) (hn : n ≤ 1048576) (hcur : Cur B a n c g W0 w) (hst : StrsAt w b 0 abcd) (hbg : b ≠ g) :
    Calls Try.prog 90 #[.pointer (some ⟨g, 0, none⟩), .string s, .slice (some ⟨b, 0, none⟩) 4 4] w (ShortPost (s.size + 1) B a n c g W0) := by
  have HB := Lib.hid (l1Below ((s.size : Int) + 1) (by omega) B a n c g W0 w hcode hn hcur)
  have H6 := Lib.hid (fun w' => l1Below 6 (by decide) B a n c g W0 w' hcode hn)
  have HP := Lib.hid (fun w' => pick_abcd B a n c g b W0 w' hcode hn)
  have HST := Lib.hid hst
  clear hcode hcur hst
  go_enter Try.func90, Try.ntmps90
  go_wp2_with fail
  refine HB.out.mono ?_
  rintro e w1 ⟨x, x0, x1, rfl, hc1, ho1⟩
  obtain ⟨t, rfl⟩ := Int.eq_ofNat_of_zero_le x0
  have ht : t ≤ s.size := by omega
  have H61 := Lib.hid (H6.out w1 hc1)
  clear hc1 x0 x1
  go_wp2_with fail
  refine H61.out.mono ?_
  rintro e w2 ⟨z, z0, z1, rfl, hc2, ho2⟩
  have hs2 : StrsAt w2 b 0 abcd := fun k hk => (ho2.cell (p := ⟨b, 0 + k, none⟩) hbg).trans ((ho1.cell (p := ⟨b, 0 + k, none⟩) hbg).trans (HST.out k hk))
  have HS2 := Lib.hid hs2
  have HC2 := Lib.hid hc2
  clear ho1 ho2 hs2 hc2
  by_cases h0 : z = 0
  · subst h0
    have t0 : (0 : Int) ≤ (t : Int) := by omega
    have t1 : (t : Int) ≤ (s.size : Int) := by omega
    go_wp2_with fail
    have HPK : Hid (Calls Try.prog 101 #[.pointer (some ⟨g, 0, none⟩), .slice (some ⟨b, 0, none⟩) 4 4] w2.drew (ShortPost 1 B a n c g W0)) := Lib.hid (HP.out w2.drew (HC2.out.drewN 1) (fun k hk => HS2.out k hk) hbg)
    go_region_held3 (fun _ => True) (first | trivial | go_keep) (first | (go_at_call 101; refine HPK.out.mono ?_; rintro e w3 ⟨y, hy, rfl, hc3⟩; have HC3 := Lib.hid hc3; clear hc3; have x9 : ∀ w, (Op.stringOp .add (s.extract 0 t) y).run Try.prog w = .ok (.string (s.extract 0 t ++ y)) w := fun w => run_string_add_sum w _ _ (by rw [ByteArray.size_extract]; omega); have x10 : ∀ w, (Op.stringOp .add (s.extract 0 t ++ y) (s.extract t s.size)).run Try.prog w = .ok (.string (s.extract 0 t ++ y ++ s.extract t s.size)) w := fun w => run_string_add_sum w _ _ (by rw [ByteArray.size_append, ByteArray.size_extract, ByteArray.size_extract]; omega)))
    go_wp2
    go_ret
    exact ⟨_, by rw [ByteArray.size_append, ByteArray.size_append, ByteArray.size_extract, ByteArray.size_extract]; omega, rfl, HC3.out⟩
  · by_cases h1 : z = 1
    · subst h1
      go_wp2
      go_ret
      exact ⟨_, by rw [ByteArray.size_extract]; omega, rfl, HC2.out⟩
    · have g0 : (z == 0) = false := by simp [h0]
      have g1 : (z == 1) = false := by simp [h1]
      go_wp2
      go_ret
      exact ⟨s, by omega, rfl, HC2.out⟩
def BentWord (B : Nat) (a : Option Addr) (n c g : Nat) (W0 : World) (e : Ending) (w' : World) : Prop := ShortPost 100 B a n c g W0 e w'

set_option maxRecDepth 100000 in
set_option maxHeartbeats 800000 in
theorem draw_bent (B : Nat) (a : Option Addr) (n c g : Nat) (W0 w : World) (hcode : CodeAt W0 B a n) (hn : n ≤ 1048576) (hcur : Cur B a n c g W0 w) :
    Calls Try.prog 58 #[.pointer (some ⟨g, 0, none⟩)] w (ShortPost 100 B a n c g W0) := by
  have HO := Lib.hid (l1Once 3 (by decide) B a n c g W0 w hcode hn hcur)
  have H3 := Lib.hid (fun w' => l1Below 3 (by decide) B a n c g W0 w' hcode hn)
  have H2 := Lib.hid (fun w' => l1Below 2 (by decide) B a n c g W0 w' hcode hn)
  have HD := Lib.hid (fun k m h1 h3 hm w' => draw_draw k m h1 h3 hm B a n c g W0 w' hcode hn)
  have HT := Lib.hid (fun s hs b w' => draw_turned s hs b B a n c g W0 w' hcode hn)
  clear hcode hcur
  go_enter Try.func58, Try.ntmps58
  go_wp2_with fail
  refine HO.out.mono ?_
  rintro e w1 ⟨x, rfl, hc1, _⟩
  cases x with
  | true =>
    have HD1 := Lib.hid (HD.out 2 4 (by decide) (by decide) (by decide) w1 hc1)
    clear hc1
    go_wp2_with fail
    refine HD1.out.mono ?_
    rintro e w2 ⟨s, hs, rfl, hc2⟩
    have H31 := Lib.hid (H3.out w2 hc2)
    clear hc2
    go_wp2_with fail
    refine H31.out.mono ?_
    rintro e w3 ⟨z, z0, z1, rfl, hc3, _⟩
    obtain ⟨t, rfl⟩ := Int.eq_ofNat_of_zero_le z0
    have ht : 1 + t ≤ 3 := by omega
    have hm : (1 + t) * s.size ≤ 3 * 4 := Nat.mul_le_mul ht (by omega)
    have hTm := spec_times s (1 + t) (by omega) (by omega) w3
    rw [Int.natCast_add] at hTm
    have HTM := Lib.hid hTm
    have HC3 := Lib.hid hc3
    clear hTm hc3 z0 z1
    go_wp2_with fail
    refine HTM.out.mono ?_
    rintro e w4 ⟨rfl, rfl⟩
    go_wp2
    go_ret
    exact ⟨_, by rw [timesB_size]; omega, rfl, HC3.out⟩
  | false =>
    have H21 := Lib.hid (H2.out w1 hc1)
    clear hc1
    go_wp2_with fail
    refine H21.out.mono ?_
    rintro e w2 ⟨z, z0, z1, rfl, hc2, _⟩
    obtain ⟨t, rfl⟩ := Int.eq_ofNat_of_zero_le z0
    have hD := HD.out (2 + t) 9 (by omega) (by omega) (by decide) w2 hc2
    rw [Int.natCast_add] at hD
    have HD2 := Lib.hid hD
    clear hD hc2 z0
    go_wp2_with fail
    refine HD2.out.mono ?_
    rintro e w3 ⟨s, hs, rfl, hc3⟩
    have hgl := hc3.lt'
    have hT := HT.out s (by omega) w3.heap.size (w3.alloc (.cells #[.string ⟨#[97]⟩, .string ⟨#[98]⟩, .string ⟨#[99]⟩, .string ⟨#[100]⟩] 9)) (hc3.alloc _) (strsAt_new w3 abcd 9) (by omega)
    have HTT := Lib.hid hT
    clear hT hc3
    go_wp2_with fail
    refine HTT.out.mono ?_
    rintro e w4 ⟨y, hy, rfl, hc4⟩
    go_wp2
    go_ret
    exact ⟨y, by omega, rfl, hc4⟩
end Go.Proofs.Ytomaanpmjlgpfaa
