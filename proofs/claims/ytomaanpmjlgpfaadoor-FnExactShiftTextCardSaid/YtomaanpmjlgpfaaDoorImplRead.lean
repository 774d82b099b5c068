/-
  The program's reading of a numeral (parseWithin, ParseInt, ParseNumber): at every string of at most 2^48 bytes it returns the integer between the limits whose numeral the string is, and true; else 0 and false; where the variables that strconv reads hold what the program's text lays; nothing that was there before is changed.
-/
import Derived.Test.YtomaanpmjlgpfaaDoorFmt
import Derived.Test.YtomaanpmjlgpfaaDoorRead
import Derived.Test.YtomaanpmjlgpfaaDoorSpecRead
import Derived.Defers
import Derived.Recover
import Derived.Lib.AtoiErrMem
import Derived.Lib.AtoiAllMem
namespace Go.Proofs.YtomaanpmjlgpfaaDoor
open Go Go.RowKit Go.Shelf

/-- The two errors that strconv hands on hold interface values. -/
def Errs (w : World) : Prop := (∃ tp p, w.var? Tryd.prog "strconv.ErrSyntax" = some #[.iface tp p]) ∧ (∃ tp p, w.var? Tryd.prog "strconv.ErrRange" = some #[.iface tp p])
theorem gSyn : Tryd.prog.globalNamed "strconv.ErrSyntax" = some 2 := by kernel_rfl
theorem gRng : Tryd.prog.globalNamed "strconv.ErrRange" = some 3 := by kernel_rfl
theorem Errs.below {w w' : World} (h : Errs w) (hb : Below w.heap.size w w') : Errs w' := by
  obtain ⟨⟨t1, p1, h1⟩, ⟨t2, p2, h2⟩⟩ := h
  have l1 : 2 < w.heap.size := Lib.lt_of_cell (a := ⟨2, 0, none⟩) (by have := World.var?_cell gSyn h1 0; simpa using this)
  have l2 : 3 < w.heap.size := Lib.lt_of_cell (a := ⟨3, 0, none⟩) (by have := World.var?_cell gRng h2 0; simpa using this)
  exact ⟨⟨t1, p1, var?_below hb gSyn l1 h1⟩, ⟨t2, p2, var?_below hb gRng l2 h2⟩⟩

theorem atoi_ok (s : ByteArray) (hs : s.size ≤ 281474976710656) (v : Int) (h : Lib.atoiAll s.data.toList = .ok v) (w : World) :
    Calls Tryd.prog 46 #[.string s] w fun e w' => e = .returned (.tuple #[.int .i64 v, .nilIface]) ∧ Below w.heap.size w w' := by
  refine (Tryd.strconv_Atoi_ok s (by omega) v h w).mono ?_
  rintro e w' ⟨rfl, hw⟩
  refine ⟨rfl, ?_⟩
  rcases hw with rfl | ⟨t, rfl⟩
  · exact Below.refl _ _
  · exact Lib.bytesWorld_below _ _ _

theorem atoi_bad (s : ByteArray) (hs : s.size ≤ 281474976710656) (h : ∀ v, Lib.atoiAll s.data.toList ≠ .ok v) (w : World) (he : Errs w) :
    Calls Tryd.prog 46 #[.string s] w fun e w' => (∃ x N, e = .returned (.tuple #[.int .i64 x, .iface 82 (.pointer (some ⟨N, 0, none⟩))])) ∧ Below w.heap.size w w' := by
  obtain ⟨⟨t1, p1, h1⟩, ⟨t2, p2, h2⟩⟩ := he
  rcases ha : Lib.atoiAll s.data.toList with v | _ | _
  · exact absurd ha (h v)
  · refine (Any.strconv_Atoi_syntax_var Tryd.laysC172 s hs ha t1 p1 w h1).mono ?_
    rintro e w' ⟨N, rfl, -, -, hb⟩
    exact ⟨⟨_, N, rfl⟩, hb⟩
  · refine (Any.strconv_Atoi_range_var Tryd.laysC172 s hs ha t2 p2 w h2).mono ?_
    rintro e w' ⟨N, rfl, -, -, hb⟩
    exact ⟨⟨_, N, rfl⟩, hb⟩

def Panics (e : Ending) : Prop := ∃ u pv, e = .panicked [{ v := .iface u pv, recovered := false }]

theorem impl_fmt_as (n : Int) (h0 : -9223372036854775808 ≤ n) (h1 : n ≤ 9223372036854775807) (x : ByteArray) (hx : Lib.itoa n = x.data.toList) (w : World) (ht : Pow w) :
    Calls Tryd.prog 20 #[.int .i64 n] w fun e w' => e = .returned (.string x) ∧ Below w.heap.size w w' := by
  have h := impl_fmt n h0 h1 w ht
  rw [hx] at h
  exact h

set_option maxRecDepth 100000 in
set_option maxHeartbeats 800000 in
theorem within_some (s : ByteArray) (hs : s.size ≤ 281474976710656) (lo hi n : Int) (hlo : -999999999999 ≤ lo) (hhi : hi ≤ 999999999999) (h : Hid (numOf lo hi s.data.toList = some n)) (w : World) (ht : Pow w) :
    Calls Tryd.prog 38 #[.string s, .int .i64 lo, .int .i64 hi] w fun e w' => e = .returned (.int .i64 n) ∧ Below w.heap.size w w' := by
  obtain ⟨h1, h2, h3⟩ := numOf_some.1 h.out
  have ha := Lib.hid (fun w => atoi_ok s hs n (atoiAll_of_numOf hlo hhi h.out) w)
  have hf := Lib.hid (fun w => impl_fmt_as n (by omega) (by omega) s h3 w)
  have hT := Lib.hid ht
  clear h3 ht
  have c1 : decide (n < lo) = false := by simpa using h1
  have c2 : decide (hi < n) = false := by simpa using h2
  go_enter Tryd.func38, Tryd.ntmps38
  go_wp2_with fail
  refine (ha.out _).mono ?_
  rintro e w1 ⟨rfl, hb1⟩
  go_wp2_with fail
  refine (hf.out _ (hT.out.below hb1)).mono ?_
  rintro e w2 ⟨rfl, hb2⟩
  go_wp2
  go_ret
  exact ⟨rfl, hb1.trans (hb2.mono hb1.size)⟩

set_option maxRecDepth 100000 in
set_option maxHeartbeats 1600000 in
theorem within_none (s : ByteArray) (hs : s.size ≤ 281474976710656) (lo hi : Int) (h : Hid (numOf lo hi s.data.toList = none)) (w : World) (ht : Pow w) (he : Errs w) :
    Calls Tryd.prog 38 #[.string s, .int .i64 lo, .int .i64 hi] w fun e w' => Panics e ∧ Below w.heap.size w w' := by
  have hT := Lib.hid ht
  have hE := Lib.hid he
  clear ht he
  by_cases hok : ∃ v, Lib.atoiAll s.data.toList = .ok v
  · obtain ⟨v, hv⟩ := hok
    have ha := Lib.hid (fun w => atoi_ok s hs v hv w)
    obtain ⟨b1, b2⟩ := Lib.atoiAll_bounds hv
    by_cases c1 : v < lo
    · have c1' : decide (v < lo) = true := by simpa using c1
      clear hv
      go_enter Tryd.func38, Tryd.ntmps38
      go_wp2_with fail
      refine (ha.out _).mono ?_
      rintro e w1 ⟨rfl, hb1⟩
      go_wp2
      exact ⟨rfl, ⟨_, _, rfl⟩, hb1⟩
    · have c1' : decide (v < lo) = false := by simpa using c1
      by_cases c2 : hi < v
      · have c2' : decide (hi < v) = true := by simpa using c2
        clear hv
        go_enter Tryd.func38, Tryd.ntmps38
        go_wp2_with fail
        refine (ha.out _).mono ?_
        rintro e w1 ⟨rfl, hb1⟩
        go_wp2
        exact ⟨rfl, ⟨_, _, rfl⟩, hb1⟩
      · have c2' : decide (hi < v) = false := by simpa using c2
        obtain ⟨x, hx⟩ : ∃ x : ByteArray, Lib.itoa v = x.data.toList := ⟨⟨_⟩, rfl⟩
        have hne : (x.toList == s.toList) = false := by
          rw [beq_eq_false_iff_ne]
          intro hc
          rw [ByteArray.toList_eq, ByteArray.toList_eq] at hc
          have : numOf lo hi s.data.toList = some v := numOf_some.2 ⟨by omega, by omega, by rw [hx, hc]⟩
          rw [h.out] at this
          cases this
        have hf := Lib.hid (fun w => impl_fmt_as v (by omega) (by omega) x hx w)
        clear hv hx
        go_enter Tryd.func38, Tryd.ntmps38
        go_wp2_with fail
        refine (ha.out _).mono ?_
        rintro e w1 ⟨rfl, hb1⟩
        go_wp2_with fail
        refine (hf.out _ (hT.out.below hb1)).mono ?_
        rintro e w2 ⟨rfl, hb2⟩
        go_wp2
        exact ⟨rfl, ⟨_, _, rfl⟩, hb1.trans (hb2.mono hb1.size)⟩
  · have ha := Lib.hid (fun w => atoi_bad s hs (fun v hv => hok ⟨v, hv⟩) w)
    clear hok
    go_enter Tryd.func38, Tryd.ntmps38
    go_wp2_with fail
    refine (ha.out _ hE.out).mono ?_
    rintro e w1 ⟨⟨x, N, rfl⟩, hb1⟩
    go_wp2
    exact ⟨rfl, ⟨_, _, rfl⟩, hb1⟩

/-- Two new variables of one cell, behind a call that turns nothing of them. -/
theorem two_boxes {w w1 : World} {x y : Value} {tx ty : TypeId} (hb : Below ((w.alloc (.cells #[x] tx)).alloc (.cells #[y] ty)).heap.size ((w.alloc (.cells #[x] tx)).alloc (.cells #[y] ty)) w1) :
    w1.cell? ⟨w.heap.size, 0, none⟩ = some x ∧ (∀ v, (w1.setCell ⟨w.heap.size, 0, none⟩ v).cell? ⟨w.heap.size + 1, 0, none⟩ = some y) ∧ w1.frozen? ⟨w.heap.size, 0, none⟩ = false ∧ w1.frozen? ⟨w.heap.size + 1, 0, none⟩ = false ∧ Below w.heap.size w w1 := by
  have hs : ((w.alloc (.cells #[x] tx)).alloc (.cells #[y] ty)).heap.size = w.heap.size + 1 + 1 := by simp
  refine ⟨?_, fun v => ?_, ?_, ?_, ?_⟩
  · rw [hb.cell (by rw [hs]; show w.heap.size < _; omega)]; simp [go_sem]
  · rw [show (w1.setCell ⟨w.heap.size, 0, none⟩ v).cell? ⟨w.heap.size + 1, 0, none⟩ = w1.cell? ⟨w.heap.size + 1, 0, none⟩ from by
      simp [World.cell?_setCell_other]]
    rw [hb.cell (by rw [hs]; show w.heap.size + 1 < _; omega)]; simp [go_sem]
  · rw [hb.frozen (by rw [hs]; show w.heap.size < _; omega)]; simp [go_sem]
  · rw [hb.frozen (by rw [hs]; show w.heap.size + 1 < _; omega)]; simp [go_sem]
  · exact (((Below.refl _ _).alloc (Nat.le_refl _) _).alloc (by simp) _).trans (hb.mono (by rw [hs]; omega))


/-- The deferred closure of ParseNumber where the frame panics: it recovers and lays 0 and false. -/
theorem catch_panicking_parseNumber (p q : Addr) (x : Int) (b : Bool) (u : TypeId) (pv : Value) (older : List PanicEntry) (w : World) (hc : w.cell? p = some (.int .i64 x)) (hz : w.frozen? p = false)
    (hc2 : (w.setCell p (.int .i64 0)).cell? q = some (.bool b)) (hz2 : w.frozen? q = false) :
    CallsD Tryd.prog 37 #[.pointer (some p), .pointer (some q)] (.panicking ({ v := .iface u pv, recovered := false } :: older)) w fun e u' w' =>
      e = .returned (.tuple #[]) ∧ u' = .panicking ({ v := .iface u pv, recovered := true } :: older) ∧ w' = (w.setCell p (.int .i64 0)).setCell q (.bool false) := by
  refine callsD_of_wpS Tryd.func37 rfl fun c₀ cs hu => ?_
  apply wpS_seq
  apply wpS_region
  simp [wpOpsS, go_sem, recoverD, hu, Tryd.ntmps37, Exit.thenS]
  refine wpS_cond (t := true) (by simp [Act.eval, Array.replicate]) ?_
  simp only [if_true]
  apply wpS_region
  simp [wpOpsS, go_sem, hc, hz, hc2, hz2, bodyPostS, results, Tryd.results37]

/-- .. where it returns: it does nothing. -/
theorem catch_idle_parseNumber (p q : Addr) (w : World) :
    CallsD Tryd.prog 37 #[.pointer (some p), .pointer (some q)] .returning w fun e u' w' => e = .returned (.tuple #[]) ∧ u' = .returning ∧ w' = w := by
  refine callsD_of_wpS Tryd.func37 rfl fun c₀ cs hu => ?_
  apply wpS_seq
  apply wpS_region
  simp [wpOpsS, go_sem, recoverD, hu, Tryd.ntmps37, Exit.thenS]
  refine wpS_cond (t := false) (by simp [Act.eval, Array.replicate]) ?_
  simp only [Bool.false_eq_true, if_false]
  refine wpS_of_wp (wp_skip ?_)
  cases c₀
  simp_all [bodyPostS, results, Tryd.results37]

set_option maxRecDepth 100000 in
set_option maxHeartbeats 800000 in
theorem impl_parseNumber_some (s : ByteArray) (hs : s.size ≤ 281474976710656) (n : Int) (h : Hid (numOfS s = some n)) (w : World) (ht : Pow w) :
    Calls Tryd.prog 26 #[.string s] w fun e w' => e = .returned (.tuple #[.int .i64 n, .bool true]) ∧ Below w.heap.size w w' := by
  have hmf : ∀ (fn : Fn) (first cap : Array Value) (w : World), (Instr.makeFunc fn first cap).run Tryd.prog w = .ok (.func fn first cap) w := fun _ _ _ _ => rfl
  have hT := Lib.hid ht
  have hW := Lib.hid (fun w => within_some s hs 0 999999 n (by decide) (by decide) h w)
  clear ht
  go_enter_defers Tryd.func26, Tryd.ntmps26
  go_wp2_with fail
  refine (hW.out _ ((hT.out.below ((Below.refl _ _).alloc (Nat.le_refl _) _)).below ((Below.refl _ _).alloc (Nat.le_refl _) _))).mono ?_
  rintro e w1 ⟨rfl, hb1⟩
  obtain ⟨c1, c2, f1, f2, hb2⟩ := two_boxes hb1
  clear hb1
  have HB := Lib.hid hb2
  clear hb2
  go_wp2
  refine leaves_cons (f := 37) (args := #[.pointer (some ⟨w.heap.size, 0, none⟩), .pointer (some ⟨w.heap.size + 1, 0, none⟩)]) (by simp) (by simp [go_sem]) ?_
  refine (catch_idle_parseNumber ⟨w.heap.size, 0, none⟩ ⟨w.heap.size + 1, 0, none⟩ _).mono ?_
  rintro e u' w'' ⟨rfl, rfl, rfl⟩
  simp [Leaves, settle, results, Tryd.results26, go_sem, c1, c2, World.cell?_setCell_other]
  exact (HB.out.setCell (Nat.le_refl _) _).setCell (by simp) _

set_option maxRecDepth 100000 in
set_option maxHeartbeats 800000 in
theorem impl_parseNumber_none (s : ByteArray) (hs : s.size ≤ 281474976710656) (h : Hid (numOfS s = none)) (w : World) (ht : Pow w) (he : Errs w) :
    Calls Tryd.prog 26 #[.string s] w fun e w' => e = .returned (.tuple #[.int .i64 0, .bool false]) ∧ Below w.heap.size w w' := by
  have hmf : ∀ (fn : Fn) (first cap : Array Value) (w : World), (Instr.makeFunc fn first cap).run Tryd.prog w = .ok (.func fn first cap) w := fun _ _ _ _ => rfl
  have hT := Lib.hid ht
  have hE := Lib.hid he
  have hW := Lib.hid (fun w => within_none s hs 0 999999 h w)
  clear ht he
  go_enter_defers Tryd.func26, Tryd.ntmps26
  go_wp2_with fail
  refine (hW.out _ ((hT.out.below ((Below.refl _ _).alloc (Nat.le_refl _) _)).below ((Below.refl _ _).alloc (Nat.le_refl _) _)) ((hE.out.below ((Below.refl _ _).alloc (Nat.le_refl _) _)).below ((Below.refl _ _).alloc (Nat.le_refl _) _))).mono ?_
  rintro e w1 ⟨⟨u, pv, rfl⟩, hb1⟩
  obtain ⟨c1, c2, f1, f2, hb2⟩ := two_boxes hb1
  clear hb1
  have HB := Lib.hid hb2
  clear hb2
  go_wp2
  refine leaves_cons (f := 37) (args := #[.pointer (some ⟨w.heap.size, 0, none⟩), .pointer (some ⟨w.heap.size + 1, 0, none⟩)]) (by simp) (by simp [go_sem]) ?_
  refine (catch_panicking_parseNumber ⟨w.heap.size, 0, none⟩ ⟨w.heap.size + 1, 0, none⟩ 0 false u pv [] _ c1 f1 (c2 _) f2).mono ?_
  rintro e u' w'' ⟨rfl, rfl, rfl⟩
  simp [Leaves, settle, results, Tryd.results26, go_sem, c1, c2, World.cell?_setCell_other]
  exact (HB.out.setCell (Nat.le_refl _) _).setCell (by simp) _

/-- The program's ParseNumber. -/
theorem impl_parseNumber (s : ByteArray) (hs : s.size ≤ 281474976710656) (w : World) (ht : Pow w) (he : Errs w) :
    Calls Tryd.prog 26 #[.string s] w fun e w' => e = .returned (.tuple #[.int .i64 (numV (numOfS s)), .bool (numB (numOfS s))]) ∧ Below w.heap.size w w' := by
  cases h : numOfS s with
  | some n => exact impl_parseNumber_some s hs n (Lib.hid h) w ht
  | none => exact impl_parseNumber_none s hs (Lib.hid h) w ht he
end Go.Proofs.YtomaanpmjlgpfaaDoor
