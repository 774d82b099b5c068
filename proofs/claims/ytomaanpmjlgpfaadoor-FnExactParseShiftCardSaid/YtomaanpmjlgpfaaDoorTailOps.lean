/-
  The laws' helpers on shifts whose words lie behind others in a row that the call owns: compared, marked, looked at.
-/
import Derived.Test.YtomaanpmjlgpfaaDoorRowOps
import Derived.Test.YtomaanpmjlgpfaaDoorShiftLaw
namespace Go.Proofs.YtomaanpmjlgpfaaDoor
open Go Go.RowKit

/-- The slice A holds the strings ps, wherever in its block it begins. -/
def RowO (w : World) (A : Option Addr) (ps : List ByteArray) : Prop := 0 < ps.length → ∃ g o, A = some ⟨g, o, none⟩ ∧ StrsAt w g o ps ∧ g < w.heap.size
theorem RowO.below {w w' : World} {A : Option Addr} {ps : List ByteArray} (h : RowO w A ps) (hb : Below w.heap.size w w') : RowO w' A ps := by
  intro hp
  obtain ⟨g, o, hA, hs, hg⟩ := h hp
  exact ⟨g, o, hA, hs.below hb hg, Nat.lt_of_lt_of_le hg hb.size⟩
theorem RowAt.rowO {w : World} {A : Option Addr} {ps : List ByteArray} (h : RowAt w A ps) : RowO w A ps := by
  intro hp
  obtain ⟨g, hA, hs, hg⟩ := h hp
  exact ⟨g, 0, hA, hs, hg⟩
theorem strs_behind {w : World} {B g cap : Nat} {pre xs : List ByteArray} (ho : w.ownsRow B 9 1 (.slice (some ⟨g, 0, none⟩) (pre.length + xs.length) cap) (pre.length + xs.length) ((pre ++ xs).map Value.string)) : StrsAt w g pre.length xs := by
  intro k hk
  rw [ho.cellAt (pre.length + k) (by omega), List.getElem?_map, List.getElem?_append_right (by omega), Nat.add_sub_cancel_left, List.getElem?_eq_getElem hk]
  simp [List.getD, List.getElem?_eq_getElem hk]
theorem same_rowsO (A1 A2 : Option Addr) (c1 c2 : Nat) (ps : List ByteArray) (hn : ps.length ≤ 1048576) (w : World) (h1 : RowO w A1 ps) (h2 : RowO w A2 ps) :
    Calls Tryd.prog 22 #[.slice A1 ps.length c1, .slice A2 ps.length c2] w (TrueBelow w) := by
  by_cases hp : 0 < ps.length
  · obtain ⟨g1, o1, rfl, s1, _⟩ := h1 hp
    obtain ⟨g2, o2, rfl, s2, _⟩ := h2 hp
    exact same_some g1 o1 c1 g2 o2 c2 ps (by omega) w s1 s2
  · have h0 : ps.length = 0 := by omega
    rw [h0]
    exact (same_none A1 A2 c1 c2 w).mono fun e w' ⟨he, hw⟩ => ⟨he, hw ▸ Below.refl _ _⟩
theorem same_shiftO (L : Int) (A1 A2 : Option Addr) (c1 c2 : Nat) (xs : List ByteArray) (hl : xs.length ≤ 1048576) (w : World) (h1 : RowO w A1 xs) (h2 : RowO w A2 xs) :
    Calls Tryd.prog 9 #[.agg #[.int .i64 L, .slice A1 xs.length c1], .agg #[.int .i64 L, .slice A2 xs.length c2]] w (TrueBelow w) := by
  have hb : Below w.heap.size w ((w.alloc (.cells #[.int .i64 L, .slice A1 xs.length c1] 27)).alloc (.cells #[.int .i64 L, .slice A2 xs.length c2] 27)) := ((Below.refl _ _).alloc (Nat.le_refl _) _).alloc (by simp) _
  have HE := Lib.hid (same_rowsO A1 A2 c1 c2 xs hl _ (h1.below hb) (h2.below hb))
  have HB := Lib.hid hb
  clear h1 h2 hb
  go_enter Tryd.func9, Tryd.ntmps9
  go_wp2_with fail
  refine HE.out.mono ?_
  rintro e w1 ⟨rfl, hb1⟩
  go_wp2
  go_ret
  exact ⟨rfl, HB.out.trans (hb1.mono HB.out.size)⟩

/-- The row's words behind the first ones are the marks; of what was there no other block has turned. -/
def MarksTailPost (B q g cap n : Nat) (pre : List ByteArray) (w : World) (e : Ending) (w' : World) : Prop :=
  e = .returned (.int .i64 ((q + n : Nat) : Int)) ∧ w'.ownsRow B 9 1 (.slice (some ⟨g, 0, none⟩) (pre.length + n) cap) (pre.length + n) ((pre ++ marks q n).map Value.string) ∧ w.grownBy w' (some g)

set_option maxRecDepth 100000 in
set_option maxHeartbeats 800000 in
theorem mark_tail (B q g cap c' : Nat) (pre xs : List ByteArray) (hq0 : 0 < q) (hq : q ≤ 1000000000000) (hn : pre.length + xs.length ≤ 1099511627776) (w : World)
    (ho : w.ownsRow B 9 1 (.slice (some ⟨g, 0, none⟩) (pre.length + xs.length) cap) (pre.length + xs.length) ((pre ++ xs).map Value.string)) :
    Calls Tryd.prog 27 #[.slice (some ⟨g, pre.length, none⟩) xs.length c', .int .i64 (q : Int)] w (MarksTailPost B q g cap xs.length pre w) := by
  have HO0 := Lib.hid ho
  have hg := (ho.lt g rfl).2
  have HPL : Hid ((pre.map Value.string).length = pre.length) := Lib.hid (List.length_map _)
  have HP : Hid (∀ k, ((pre.map Value.string) ++ marked xs q k) = ((pre ++ (marks q k ++ xs.drop k)).map Value.string)) := Lib.hid (fun k => by unfold marked; rw [List.map_append (l₁ := pre)])
  unfold MarksTailPost
  generalize hp : pre.length = o at *
  clear ho
  go_enter Tryd.func27, Tryd.ntmps27
  go_wp2
  go_loopw [1, 5] (fun p i wr => ∃ k : Nat, k ≤ xs.length ∧ p = .int .i64 ((q + k : Nat) : Int) ∧ i = .int .i64 k ∧ wr.ownsRow B 9 1 (.slice (some ⟨g, 0, none⟩) (o + xs.length) cap) (o + xs.length) (pre.map Value.string ++ marked xs q k) ∧ w.grownBy wr (some g)) (fun _ i _ => xs.length - (intOf i).toNat)
  case atStart => exact ⟨0, Nat.zero_le _, rfl, rfl, by rw [marked_none, ← List.map_append]; exact HO0.out, World.grownBy.refl _ _⟩
  case round =>
    obtain ⟨k, hk, rfl, rfl, ho, hgr⟩ := hrel
    by_cases hlt : k < xs.length
    · have HM := Lib.hid (markText_pos (q + k) (by omega) (by omega))
      obtain ⟨y, hy⟩ := marked_at xs q k hlt
      have hy2 : (pre.map Value.string ++ marked xs q k)[o + k]? = some (.string y) := by
        rw [List.getElem?_append_right (by rw [HPL.out]; omega), HPL.out, Nat.add_sub_cancel_left]; exact hy
      have HY := Lib.hid ((ho.cellAt (o + k) (by omega)).trans hy2)
      have HF := Lib.hid (ho.frozenAt (o + k))
      have HO := Lib.hid ho
      have hgl := (ho.lt g rfl).2
      clear ho hy hy2
      go_wp2_with fail
      refine (HM.out _).mono ?_
      rintro e w1 ⟨rfl, hb1⟩
      have hc : w1.cell? ⟨g, o + k, none⟩ = some (.string y) := (hb1.cell (p := ⟨g, o + k, none⟩) hgl).trans HY.out
      have hf : w1.frozen? ⟨g, o + k, none⟩ = false := (hb1.frozen (p := ⟨g, o + k, none⟩) hgl).trans HF.out
      have ho1 : w1.ownsRow B 9 1 (.slice (some ⟨g, 0, none⟩) (o + xs.length) cap) (o + xs.length) (pre.map Value.string ++ marked xs q k) := HO.out.kept (row := none) ⟨hb1.os, hb1.tape, hb1.output, hb1.size, fun j hj _ => hb1.block j hj⟩ (Or.inr (by simp [Value.ownBlock]))
      have hst := ho1.stored (o + k) (.string (mark (q + k)))
      rw [List.set_append_right _ _ (by rw [HPL.out]; omega), HPL.out, Nat.add_sub_cancel_left, marked_set xs q k hlt] at hst
      have HS := Lib.hid hst.1
      have HG : Hid (w.grownBy (w1.setCell ⟨g, o + k, none⟩ (.string (mark (q + k)))) (some g)) := by
        refine ⟨hst.2.os.trans (hb1.os.trans hgr.os), hst.2.tape.trans (hb1.tape.trans hgr.tape), hst.2.output.trans (hb1.output.trans hgr.output), Nat.le_trans hgr.size (Nat.le_trans hb1.size hst.2.size), fun j hj hne => ?_⟩
        have hj1 := Nat.lt_of_lt_of_le hj hgr.size
        exact (hst.2.block j (Nat.lt_of_lt_of_le hj1 hb1.size) hne).trans ((hb1.block j hj1).trans (hgr.block j hj hne))
      clear hst ho1 hb1 hgr
      go_wp2
      go_roundw
      case rel => exact ⟨k + 1, by omega, by go_num, by go_num, HS.out, HG.out⟩
      case measure => simp [intOf]; omega
    · obtain rfl : k = xs.length := by omega
      rw [HP.out] at ho
      rw [List.drop_length, List.append_nil] at ho
      have HO := Lib.hid ho
      clear ho
      go_wp2
      go_ret
      exact ⟨rfl, HO.out, hgr⟩

set_option maxRecDepth 100000 in
set_option maxHeartbeats 1600000 in
theorem held_some (q g o cap n : Nat) (hq0 : 0 < q) (hq : q ≤ 1000000000000) (hn : n ≤ 1099511627776) (w : World) (hst : StrsAt w g o (marks q n)) (hg : g < w.heap.size) :
    Calls Tryd.prog 28 #[.slice (some ⟨g, o, none⟩) n cap, .int .i64 (q : Int)] w (HeldPost q n w) := by
  have HT := Lib.hid hst
  clear hst
  go_enter Tryd.func28, Tryd.ntmps28
  go_wp2
  go_loopw [1, 5] (fun p i wr => ∃ k : Nat, k ≤ n ∧ p = .int .i64 ((q + k : Nat) : Int) ∧ i = .int .i64 k ∧ Below w.heap.size w wr) (fun _ i _ => n - (intOf i).toNat)
  case atStart => exact ⟨0, Nat.zero_le _, rfl, rfl, Below.refl _ _⟩
  case round =>
    obtain ⟨k, hk, rfl, rfl, hbl⟩ := hrel
    by_cases hlt : k < n
    · have hc0 := HT.out.below hbl hg k (by rw [marks_length]; exact hlt)
      rw [marks_get n q k hlt] at hc0
      have hgl : g < wr.heap.size := Nat.lt_of_lt_of_le hg hbl.size
      have HM := Lib.hid (markText_pos (q + k) (by omega) (by omega))
      have HB := Lib.hid hbl
      clear hbl
      have k0 : (0 : Int) ≤ (k : Int) := by omega
      have k1 : (k : Int) < (n : Int) := by omega
      go_wp2
      go_region_held3 (fun w' => w'.cell? ⟨g, o + k, none⟩ = some (.string (mark (q + k)))) (first | (rw [Below.cell (by assumption) (by first | assumption | (simp; omega))]; assumption) | go_keep) (first | (go_at_call 39; refine (HM.out _).mono ?_; rintro e w2 ⟨rfl, hb2⟩))
      go_wp2
      go_roundw
      case rel => exact ⟨k + 1, by omega, by go_num, by go_num, HB.out.drew.trans (hb2.mono HB.out.size)⟩
      case measure => simp [intOf]; omega
    · obtain rfl : k = n := by omega
      go_wp2
      go_ret
      exact ⟨rfl, hbl⟩
theorem held_rowsO (A : Option Addr) (c n : Nat) (hn : n ≤ 1048576) (w : World) (h : RowO w A (marks 1 n)) :
    Calls Tryd.prog 28 #[.slice A n c, .int .i64 1] w (HeldPost 1 n w) := by
  by_cases hp : 0 < n
  · obtain ⟨g, o, rfl, hs, hg⟩ := h (by rw [marks_length]; exact hp)
    exact held_some 1 g o c n (by decide) (by decide) (by omega) w hs hg
  · obtain rfl : n = 0 := by omega
    exact (held_none A c 1 w).mono fun e w' ⟨he, hw⟩ => ⟨he, hw ▸ Below.refl _ _⟩

/-- The slice A begins behind the words pre of a row in the blocks from B on and below S, which the call owns. -/
def OwnO (w : World) (B S : Nat) (A : Option Addr) (ps : List ByteArray) : Prop :=
  0 < ps.length → ∃ g cap pre, A = some ⟨g, pre.length, none⟩ ∧ pre.length ≤ 1 ∧ g < S ∧ w.ownsRow B 9 1 (.slice (some ⟨g, 0, none⟩) (pre.length + ps.length) cap) (pre.length + ps.length) ((pre ++ ps).map Value.string)
theorem OwnO.below {w w' : World} {B S : Nat} {A : Option Addr} {ps : List ByteArray} (h : OwnO w B S A ps) (hb : Below w.heap.size w w') : OwnO w' B S A ps := by
  intro hp
  obtain ⟨g, cap, pre, hA, h1, hg, ho⟩ := h hp
  exact ⟨g, cap, pre, hA, h1, hg, owns_below ho hb⟩
theorem OwnO.row {w : World} {B S : Nat} {A : Option Addr} {ps : List ByteArray} (h : OwnO w B S A ps) : RowO w A ps := by
  intro hp
  obtain ⟨g, cap, pre, hA, _, _, ho⟩ := h hp
  exact ⟨g, pre.length, hA, strs_behind ho, (ho.lt g rfl).2⟩
/-- Only a block from B on and below S has been written. -/
def OnlyIn (B S : Nat) (w w' : World) : Prop := ∃ r, w.grownBy w' r ∧ (r = none ∨ ∃ g, B ≤ g ∧ g < S ∧ r = some g)
theorem OnlyIn.below {B S : Nat} {w w' : World} (h : OnlyIn B S w w') (hB : B ≤ w.heap.size) : Below B w w' := by
  obtain ⟨r, hg, hr⟩ := h
  refine ⟨hg.os, hg.tape, hg.output, hg.size, fun k hk => hg.block k (by omega) ?_⟩
  rcases hr with rfl | ⟨g, hBg, _, rfl⟩
  · intro e; cases e
  · intro e
    have := Option.some.inj e
    omega
theorem OnlyIn.cell {B S : Nat} {w w' : World} (h : OnlyIn B S w w') {p : Addr} (hp : S ≤ p.block) (hl : p.block < w.heap.size) : w'.cell? p = w.cell? p := by
  obtain ⟨r, hg, hr⟩ := h
  have hb : w'.heap[p.block]? = w.heap[p.block]? := by
    refine hg.block p.block hl ?_
    rcases hr with rfl | ⟨g, _, hgS, rfl⟩
    · intro e; cases e
    · intro e
      have := Option.some.inj e
      omega
  unfold World.cell?
  rw [hb]
theorem mark_rowsO (B S : Nat) (A : Option Addr) (c : Nat) (ps : List ByteArray) (hn : ps.length ≤ 1048576) (w : World) (h : OwnO w B S A ps) :
    Calls Tryd.prog 27 #[.slice A ps.length c, .int .i64 1] w fun e w' => e = .returned (.int .i64 ((1 + ps.length : Nat) : Int)) ∧ RowO w' A (marks 1 ps.length) ∧ OnlyIn B S w w' := by
  by_cases hp : 0 < ps.length
  · obtain ⟨g, cap, pre, rfl, h1, hgS, ho⟩ := h hp
    refine (mark_tail B 1 g cap c pre ps (by decide) (by decide) (by omega) w ho).mono ?_
    rintro e w' ⟨he, ho', hg⟩
    have hm := marks_length ps.length 1
    refine ⟨he, fun _ => ⟨g, pre.length, rfl, ?_, (ho'.lt g rfl).2⟩, some g, hg, Or.inr ⟨g, (ho.lt g rfl).1, hgS, rfl⟩⟩
    refine strs_behind (B := B) (cap := cap) ?_
    rw [hm]; exact ho'
  · have h0 : ps.length = 0 := by omega
    rw [h0]
    refine (mark_none A c 1 w).mono ?_
    rintro e w' ⟨he, rfl⟩
    exact ⟨he, fun hq => by rw [marks_length] at hq; omega, none, World.grownBy.refl _ _, Or.inl rfl⟩

/-- A shift is marked. -/
def MarkShiftPost (B S : Nat) (A : Option Addr) (n : Nat) (w : World) (e : Ending) (w' : World) : Prop :=
  e = .returned (.int .i64 ((1 + n : Nat) : Int)) ∧ RowO w' A (marks 1 n) ∧ OnlyIn B S w w'
theorem OnlyIn.after_alloc {B S : Nat} {w w' : World} {o : Obj} (h : OnlyIn B S (w.alloc o) w') : OnlyIn B S w w' := by
  obtain ⟨r, hg, hr⟩ := h
  refine ⟨r, ⟨hg.os, hg.tape, hg.output, Nat.le_trans (by simp) hg.size, fun k hk hne => (hg.block k (by simp; omega) hne).trans (heap_alloc_old _ _ hk)⟩, hr⟩
set_option maxRecDepth 100000 in
theorem mark_shiftO (L : Int) (B S : Nat) (A : Option Addr) (c : Nat) (ps : List ByteArray) (hn : ps.length ≤ 1048576) (w : World) (h : OwnO w B S A ps) :
    Calls Tryd.prog 12 #[.agg #[.int .i64 L, .slice A ps.length c], .int .i64 1] w (MarkShiftPost B S A ps.length w) := by
  have HM := Lib.hid (mark_rowsO B S A c ps hn (w.alloc (.cells #[.int .i64 L, .slice A ps.length c] 27)) (h.below ((Below.refl _ _).alloc (Nat.le_refl _) _)))
  clear h
  go_enter Tryd.func12, Tryd.ntmps12
  go_wp2_with fail
  refine HM.out.mono ?_
  rintro e w1 ⟨rfl, hr, ho⟩
  have HR := Lib.hid hr
  have HO := Lib.hid (ho.after_alloc)
  clear hr ho
  go_wp2
  go_ret
  exact ⟨rfl, HR.out, HO.out⟩
set_option maxRecDepth 100000 in
theorem held_shiftO (L : Int) (A : Option Addr) (c n : Nat) (hn : n ≤ 1048576) (w : World) (h : RowO w A (marks 1 n)) :
    Calls Tryd.prog 13 #[.agg #[.int .i64 L, .slice A n c], .int .i64 1] w (HeldPost 1 n w) := by
  have hb := (Below.refl w.heap.size w).alloc (Nat.le_refl _) (.cells #[.int .i64 L, .slice A n c] 27)
  have HH := Lib.hid (held_rowsO A c n hn (w.alloc (.cells #[.int .i64 L, .slice A n c] 27)) (h.below hb))
  have HB := Lib.hid hb
  clear h hb
  go_enter Tryd.func13, Tryd.ntmps13
  go_wp2_with fail
  refine HH.out.mono ?_
  rintro e w1 ⟨rfl, hb1⟩
  go_wp2
  go_ret
  exact ⟨rfl, below_after HB.out hb1⟩
end Go.Proofs.YtomaanpmjlgpfaaDoor
