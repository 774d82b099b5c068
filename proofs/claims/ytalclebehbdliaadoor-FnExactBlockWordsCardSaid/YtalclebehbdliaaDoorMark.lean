/-
  The laws' marks on slices of strings: each mark is a text of its own number; a row that the call owns is marked and found marked; other memory that was there is not changed.
-/
import Derived.Test.YtalclebehbdliaaDoorStrSame
import Derived.Test.YtalclebehbdliaaDoorNum
import Derived.Laws.BytesArg
namespace Go.Proofs.YtalclebehbdliaaDoor
open Go Go.RowKit

/-- The mark of k. -/
def mark (k : Nat) : ByteArray := ⟨(109 :: dd k).toArray⟩
/-- The marks from k on. -/
def marks (k : Nat) : Nat → List ByteArray
  | 0 => []
  | n + 1 => mark k :: marks (k + 1) n
theorem marks_length : ∀ (n k : Nat), (marks k n).length = n
  | 0, _ => rfl
  | n + 1, k => by rw [marks, List.length_cons, marks_length n]
theorem marks_get : ∀ (n k j : Nat), j < n → (marks k n).getD j ByteArray.empty = mark (k + j)
  | 0, _, j, h => by omega
  | n + 1, k, 0, _ => by simp [marks]
  | n + 1, k, j + 1, h => by
    rw [marks, List.getD_cons_succ, marks_get n (k + 1) j (by omega)]
    congr 1; omega

theorem mk_conv (b : UInt8) (y : Int) (hy : y = (b.toNat : Int)) (w : World) : (convert 43 9 (.slice (some ⟨w.heap.size, 0, none⟩) 1 1)).run Tryd.prog (w.alloc (.cells #[.int .u8 y] 5)) = .ok (.string ⟨#[b]⟩) (w.alloc (.cells #[.int .u8 y] 5)) := by
  subst hy
  have h := run_convert_bytes_arg (P := Tryd.prog) (w.alloc (.cells #[.int .u8 (b.toNat : Int)] 5)) 43 5 Tryd.underlying43 Tryd.underlying5 w.heap.size 0 1 1 [(b.toNat : Int)] rfl (fun i hi => by
    obtain rfl : i = 0 := by omega
    simp [go_sem]) 9 Tryd.underlying9
  rw [h]
  simp [strOfNums]
theorem mk_rest {u c : Nat} {s : ByteArray} {b : UInt8} (h : dd c ++ s.data.toList = dd u) (h0 : 0 < c) (hb : b = UInt8.ofNat (48 + c % 10)) : dd (c / 10) ++ ((⟨#[b]⟩ : ByteArray) ++ s).data.toList = dd u := by
  rw [← h, dd_step (show c ≠ 0 by omega), hb]; simp [ByteArray.data_append]
theorem mk_len {u c : Nat} {s : ByteArray} (h : dd c ++ s.data.toList = dd u) (hu : u ≤ 9223372036854775808) : s.size ≤ 1000 := by
  have h1 := dd_length 20 u (by omega)
  rw [← h, List.length_append] at h1
  have h2 : s.size = s.data.toList.length := rfl
  omega
theorem mk_byte (c : Nat) : ∃ b : UInt8, b = UInt8.ofNat (48 + c % 10) ∧ (48 : Int) + (c : Int) % 10 = (b.toNat : Int) :=
  ⟨_, rfl, by
    have e : (UInt8.ofNat (48 + c % 10)).toNat = 48 + c % 10 := by rw [UInt8.toNat_ofNat']; exact Nat.mod_eq_of_lt (by omega)
    rw [e]; omega⟩
theorem mk_bytes {a : ByteArray} {l : List UInt8} (h : a.data.toList = l) : a = ⟨l.toArray⟩ := by subst h; rfl
theorem mk_ret {a b : ByteArray} (h : a = b) : Ending.returned (.string a) = .returned (.string b) := by rw [h]

def MarkPost (u : Nat) (w : World) (e : Ending) (w' : World) : Prop := e = .returned (.string (mark u)) ∧ Below w.heap.size w w'

set_option maxRecDepth 100000 in
set_option maxHeartbeats 400000 in
theorem markText_pos (u : Nat) (hu0 : 0 < u) (hu : u ≤ 9223372036854775807) (w : World) :
    Calls Tryd.prog 23 #[.int .i64 u] w (MarkPost u w) := by
  have hz : decide ((u : Int) ≤ 0) = false := by simp; omega
  go_enter Tryd.func23, Tryd.ntmps23
  go_wp2
  go_loopw [0, 3] (fun n o wr => ∃ (c : Nat) (s : ByteArray), c ≤ u ∧ Hid (dd c ++ s.data.toList = dd u) ∧ n = .int .i64 c ∧ o = .string s ∧ Below w.heap.size w wr) (fun n _ _ => (intOf n).toNat)
  case atStart => exact ⟨u, _, Nat.le_refl _, Lib.hid (by simp), rfl, rfl, Below.refl _ _⟩
  case round =>
    obtain ⟨c, s, hc, hl, rfl, rfl, hb⟩ := hrel
    have hs := mk_len hl.out (by omega)
    by_cases h0 : 0 < c
    · obtain ⟨b, hb1, hb2⟩ := mk_byte c
      have hcv := mk_conv b (48 + (c : Int) % 10) hb2
      have HB := Lib.hid hb1
      clear hb1 hb2
      go_wp2
      go_roundw
      case rel => exact ⟨c / 10, _, by omega, Lib.hid (mk_rest hl.out h0 HB.out), by go_num, rfl, hb.alloc (by have := hb.size; omega) _⟩
      case measure => simp [intOf]; omega
    · obtain rfl : c = 0 := by omega
      go_wp2
      go_ret
      exact ⟨mk_ret (by have := hl.out; rw [dd_zero] at this; unfold mark; rw [← this]; exact mk_bytes (by simp [ByteArray.data_append])), hb⟩

/-- A row that is being marked from the front. -/
def marked (xs : List ByteArray) (q k : Nat) : List Value := ((marks q k) ++ xs.drop k).map Value.string
theorem marks_next : ∀ (n k : Nat), marks k (n + 1) = marks k n ++ [mark (k + n)]
  | 0, k => rfl
  | n + 1, k => by
    rw [marks, marks_next n (k + 1), marks, List.cons_append]
    congr 4; omega
theorem marked_set (xs : List ByteArray) (q k : Nat) (h : k < xs.length) : (marked xs q k).set k (.string (mark (q + k))) = marked xs q (k + 1) := by
  have hl : ((marks q k).map Value.string).length = k := by rw [List.length_map, marks_length]
  have hd : xs.drop k = xs[k] :: xs.drop (k + 1) := List.drop_eq_getElem_cons h
  unfold marked
  rw [marks_next, List.map_append, List.map_append, List.map_append, hd, List.map_cons]
  rw [List.set_append_right _ _ (by omega), hl, Nat.sub_self]
  simp
theorem marked_at (xs : List ByteArray) (q k : Nat) (h : k < xs.length) : ∃ y, (marked xs q k)[k]? = some (.string y) := by
  have hl : (marks q k).length = k := marks_length k q
  refine ⟨xs[k], ?_⟩
  unfold marked
  rw [List.getElem?_map, List.getElem?_append_right (by omega), hl, Nat.sub_self, List.getElem?_drop, Nat.add_zero, List.getElem?_eq_getElem h]
  rfl
theorem marked_none (xs : List ByteArray) (q : Nat) : marked xs q 0 = xs.map Value.string := by simp [marked, marks]
theorem marked_all (xs : List ByteArray) (q : Nat) : marked xs q xs.length = (marks q xs.length).map Value.string := by simp [marked]
end Go.Proofs.YtalclebehbdliaaDoor
