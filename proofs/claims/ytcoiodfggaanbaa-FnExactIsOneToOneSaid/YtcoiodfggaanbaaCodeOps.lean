/-
  What the laws on codes share: how long a code is, its copy, and that two equal codes are found equal. A code is two numbers and a string.
-/
import Derived.Test.YtcoiodfggaanbaaIsW
import Derived.Test.YtcoiodfggaanbaaCodeNum
import Derived.Deep.RegionHeld3
import Derived.BigQuiet
namespace Go.Proofs.Ytcoiodfggaanbaa
open Go Go.RowKit

/-- The answer, and that nothing which was there before has turned. -/
def Says (x : Value) (w : World) (e : Ending) (w' : World) : Prop := e = .returned x ∧ Below w.heap.size w w'
def SzCodePost (L : Int) (o : ByteArray) (w : World) (e : Ending) (w' : World) : Prop := ∃ r : Int, e = .returned (.int .i64 r) ∧ (r = -1 ∨ (0 ≤ r ∧ r = L - (o.size : Int))) ∧ Below w.heap.size w w'
theorem drewN_below {B : Nat} {a w : World} (h : Below B a w) (n : Nat) : Below B a (w.drewN n) := h.trans ⟨rfl, rfl, rfl, Nat.le_refl _, fun _ _ => rfl⟩
/-- Block g holds a code. -/
def CodeIn (w : World) (g : Nat) (K N : Int) (o : ByteArray) : Prop := w.heap[g]? = some (.cells #[.int .i64 K, .int .i64 N, .string o] 25 (0, 0))
theorem CodeIn.lt {w : World} {g : Nat} {K N : Int} {o : ByteArray} (h : CodeIn w g K N o) : g < w.heap.size := (Array.getElem?_eq_some_iff.1 h).1
theorem CodeIn.below {w w' : World} {g : Nat} {K N : Int} {o : ByteArray} (h : CodeIn w g K N o) (hb : Below w.heap.size w w') : CodeIn w' g K N o := (hb.block g h.lt).trans h
theorem CodeIn.later {w w' : World} {B g : Nat} {K N : Int} {o : ByteArray} (h : CodeIn w g K N o) (hb : Below B w w') (hg : g < B) : CodeIn w' g K N o := (hb.block g hg).trans h
theorem CodeIn.c0 {w : World} {g : Nat} {K N : Int} {o : ByteArray} (h : CodeIn w g K N o) : w.cell? ⟨g, 0, none⟩ = some (.int .i64 K) := by simp [World.cell?, show w.heap[g]? = _ from h]
theorem CodeIn.c1 {w : World} {g : Nat} {K N : Int} {o : ByteArray} (h : CodeIn w g K N o) : w.cell? ⟨g, 1, none⟩ = some (.int .i64 N) := by simp [World.cell?, show w.heap[g]? = _ from h]
theorem CodeIn.c2 {w : World} {g : Nat} {K N : Int} {o : ByteArray} (h : CodeIn w g K N o) : w.cell? ⟨g, 2, none⟩ = some (.string o) := by simp [World.cell?, show w.heap[g]? = _ from h]
theorem codeIn_new (w : World) (K N : Int) (o : ByteArray) : CodeIn (w.alloc (.cells #[.int .i64 K, .int .i64 N, .string o] 25)) w.heap.size K N o := heap_alloc_new w _

theorem CodeIn.f {w : World} {g : Nat} {K N : Int} {o : ByteArray} (h : CodeIn w g K N o) (j : Nat) : w.frozen? ⟨g, j, none⟩ = false := by simp [World.frozen?, show w.heap[g]? = _ from h]
theorem codeIn_set {w : World} {g : Nat} {K N : Int} {o : ByteArray} (h : CodeIn w g K N o) (K' N' : Int) (o' : ByteArray) :
    CodeIn (((w.setCell ⟨g, 0, none⟩ (.int .i64 K')).setCell ⟨g, 1, none⟩ (.int .i64 N')).setCell ⟨g, 2, none⟩ (.string o')) g K' N' o' :=
  heap_setCell_same _ g 2 _ _ (.string o') (heap_setCell_same _ g 1 _ _ (.int .i64 N') (heap_setCell_same w g 0 _ _ (.int .i64 K') h))
theorem below_set {B : Nat} {a w : World} {g : Nat} (h : Below B a w) (hg : B ≤ g) (x y z : Value) : Below B a (((w.setCell ⟨g, 0, none⟩ x).setCell ⟨g, 1, none⟩ y).setCell ⟨g, 2, none⟩ z) :=
  ((h.setCell (p := ⟨g, 0, none⟩) hg x).setCell (p := ⟨g, 1, none⟩) hg y).setCell (p := ⟨g, 2, none⟩) hg z
section
variable {P : Program}
/-- A struct's cell and a slot as two results. -/
theorem results_code {fn : Func} {p u : Tmp} {ty : TypeId} (h : fn.results = #[.cell p ty, .tmp u]) (tmps : Array Value) (w : World) (g : Nat) (t : TypeId) (cs : Array Value) (fr : Nat × Nat) (d : TypeDesc)
    (hp : tmps.getD p undef = .pointer (some ⟨g, 0, none⟩)) (hg : w.heap[g]? = some (.cells cs t fr))
    (hu : P.underlying ty = some d) (hd : (match d with | .struct _ | .array _ _ => true | _ => false) = true) (hi : (P.info? ty).map (·.size) = some cs.size) :
    (results fn tmps).run P w = .ok (.tuple #[.agg cs, tmps.getD u undef]) w := by
  have hp' : tmps[p]?.getD undef = .pointer (some ⟨g, 0, none⟩) := by simpa using hp
  simp [results, h, hp', asAddr, run_loadVar_row w g t ty cs fr d hg hu hd hi]
end
/-- The zero code and false, or a code and true. -/
def zeroC (b : Bool) (K : Int) : Int := if b = true then K else 0
def zeroS (b : Bool) (o : ByteArray) : ByteArray := if b = true then o else ByteArray.empty
def CodeRes (b : Bool) (K N : Int) (o : ByteArray) : Value := .tuple #[.agg #[.int .i64 (zeroC b K), .int .i64 (zeroC b N), .string (zeroS b o)], .bool b]

/-- The six cells of two codes. -/
def TwoIn (w : World) (g : Nat) (k nc nd : Nat) (oc od : ByteArray) : Prop := CodeIn w g (k : Int) (nc : Int) oc ∧ CodeIn w (g + 1) (k : Int) (nd : Int) od
theorem TwoIn.six {w : World} {g k nc nd : Nat} {oc od : ByteArray} (h : TwoIn w g k nc nd oc od) : w.cell? ⟨g, 0, none⟩ = some (.int .i64 (k : Int)) ∧ w.cell? ⟨g, 1, none⟩ = some (.int .i64 (nc : Int)) ∧ w.cell? ⟨g, 2, none⟩ = some (.string oc) ∧ w.cell? ⟨g + 1, 0, none⟩ = some (.int .i64 (k : Int)) ∧ w.cell? ⟨g + 1, 1, none⟩ = some (.int .i64 (nd : Int)) ∧ w.cell? ⟨g + 1, 2, none⟩ = some (.string od) :=
  ⟨h.1.c0, h.1.c1, h.1.c2, h.2.c0, h.2.c1, h.2.c2⟩
theorem TwoIn.later {w w' : World} {B g k nc nd : Nat} {oc od : ByteArray} (h : TwoIn w g k nc nd oc od) (hb : Below B w w') (hg : g + 1 < B) : TwoIn w' g k nc nd oc od := ⟨h.1.later hb (by omega), h.2.later hb hg⟩

/-- The world ahead of the body: both codes and the result. -/
theorem compose_start (K N K' N' : Int) (o o' : ByteArray) (w : World) : ∃ W3, ((w.alloc (.cells #[.int .i64 K, .int .i64 N, .string o] 25)).alloc (.cells #[.int .i64 K', .int .i64 N', .string o'] 25)).alloc (.cells #[.int .i64 0, .int .i64 0, .string ⟨#[]⟩] 25) = W3 ∧
    Below w.heap.size w W3 ∧ W3.heap.size = w.heap.size + 3 ∧ CodeIn W3 w.heap.size K N o ∧ CodeIn W3 (w.heap.size + 1) K' N' o' ∧ CodeIn W3 (w.heap.size + 1 + 1) 0 0 ⟨#[]⟩ := by
  refine ⟨_, rfl, (((Below.refl _ _).alloc (Nat.le_refl _) _).alloc (by simp) _).alloc (by simp; omega) _, by simp, ?_, ?_, ?_⟩
  · exact ((codeIn_new w K N o).below ((Below.refl _ _).alloc (Nat.le_refl _) _)).below ((Below.refl _ _).alloc (Nat.le_refl _) _)
  · have h := codeIn_new (w.alloc (.cells #[.int .i64 K, .int .i64 N, .string o] 25)) K' N' o'
    rw [World.size_alloc] at h
    exact h.below ((Below.refl _ _).alloc (Nat.le_refl _) _)
  · have h := codeIn_new ((w.alloc (.cells #[.int .i64 K, .int .i64 N, .string o] 25)).alloc (.cells #[.int .i64 K', .int .i64 N', .string o'] 25)) 0 0 ⟨#[]⟩
    rw [World.size_alloc, World.size_alloc] at h
    exact h

/-! ### One cell of a code written -/
theorem CodeIn.set2 {w : World} {g : Nat} {K N : Int} {o : ByteArray} (h : CodeIn w g K N o) (o' : ByteArray) : CodeIn (w.setCell ⟨g, 2, none⟩ (.string o')) g K N o' := heap_setCell_same w g 2 _ _ (.string o') h
theorem CodeIn.far {w : World} {g b : Nat} {K N : Int} {o : ByteArray} (h : CodeIn w g K N o) (hne : b ≠ g) (x : Value) : CodeIn (w.setCell ⟨b, 2, none⟩ x) g K N o := by
  have e := heap_setCell_other w ⟨b, 2, none⟩ g x (fun e => hne e.symm)
  exact e.trans h
theorem cell_farC {w : World} {a p : Addr} {v u : Value} (hne : p.block ≠ a.block) (h : w.cell? p = some u) : (w.setCell a v).cell? p = some u := by
  have hb := heap_setCell_other w a p.block v hne
  unfold World.cell? at h ⊢
  rw [hb]; exact h
theorem TwoIn.far {w : World} {g b k nc nd : Nat} {oc od : ByteArray} (h : TwoIn w g k nc nd oc od) (h1 : b ≠ g) (h2 : b ≠ g + 1) (x : Value) : TwoIn (w.setCell ⟨b, 2, none⟩ x) g k nc nd oc od := ⟨h.1.far h1 x, h.2.far h2 x⟩

theorem compB_a {K N K' N' : Int} {o o' : ByteArray} (h : isCodeB K N o = false) : compB K N o K' N' o' = false := by unfold compB; rw [h]; rfl
theorem compB_b {K N K' N' : Int} {o o' : ByteArray} (h : isCodeB K' N' o' = false) : compB K N o K' N' o' = false := by unfold compB; rw [h]; simp
theorem compB_c {K N K' N' : Int} {o o' : ByteArray} (h : K ≠ K') : compB K N o K' N' o' = false := by unfold compB; rw [decide_eq_false h]; simp
theorem compRes_no {K N K' N' : Int} {o o' : ByteArray} (h : compB K N o K' N' o' = false) : CodeRes (compB K N o K' N' o') K (N + N' - 1) (compO K N N' o o') = .tuple #[.agg #[.int .i64 0, .int .i64 0, .string ⟨#[]⟩], .bool false] := by rw [h]; rfl
set_option maxRecDepth 100000 in
theorem sz_code (K N : Int) (o : ByteArray) (L : Int) (h0 : 0 ≤ L) (h1 : L ≤ 1048576) (ho : o.size ≤ 9223372036854775807) (w : World) :
    Calls Try.prog 31 #[.agg #[.int .i64 K, .int .i64 N, .string o], .int .i64 L] w (SzCodePost L o w) := by
  have hw : wrap64 (L - (o.size : Int)) = L - (o.size : Int) := by unfold wrap64; omega
  go_enter Try.func31, Try.ntmps31
  by_cases hle : (o.size : Int) ≤ L
  · have g : decide (L - (o.size : Int) < 0) = false := by simp; omega
    go_wp2
    go_ret
    exact ⟨_, rfl, Or.inr ⟨by omega, by omega⟩, (Below.refl _ _).alloc (Nat.le_refl _) _⟩
  · have g : decide (L - (o.size : Int) < 0) = true := by simp; omega
    go_wp2
    go_ret
    exact ⟨_, rfl, Or.inl rfl, (Below.refl _ _).alloc (Nat.le_refl _) _⟩

set_option maxRecDepth 100000 in
set_option maxHeartbeats 800000 in
theorem to_code (K N : Int) (o : ByteArray) (w : World) :
    Calls Try.prog 32 #[.agg #[.int .i64 K, .int .i64 N, .string o]] w (Says (.agg #[.int .i64 K, .int .i64 N, .string o]) w) := by
  go_enter Try.func32, Try.ntmps32
  go_wp2
  have k1 := codeIn_new (w.alloc (.cells #[.int .i64 K, .int .i64 N, .string o] 39)) K N o
  have k2 := k1.below ((Below.refl _ _).alloc (Nat.le_refl _) (.cells #[.int .i64 K, .int .i64 N, .string o] 25))
  rw [World.size_alloc] at k2
  refine bodyPost_ret (results_cell_row rfl _ _ (w.heap.size + 1) 25 #[.int .i64 K, .int .i64 N, .string o] (0, 0) _ rfl k2 Try.underlying25 rfl (by kernel_rfl)) rfl ?_
  exact ⟨rfl, (((Below.refl _ _).alloc (Nat.le_refl _) _).alloc (by simp) _).alloc (by simp; omega) _⟩

set_option maxRecDepth 100000 in
set_option maxHeartbeats 800000 in
theorem eq_code (K N : Int) (o : ByteArray) (w : World) :
    Calls Try.prog 37 #[.agg #[.int .i64 K, .int .i64 N, .string o], .agg #[.int .i64 K, .int .i64 N, .string o]] w (Says (.bool true) w) := by
  go_enter Try.func37, Try.ntmps37
  go_wp2
  go_ret
  exact ⟨rfl, ((Below.refl _ _).alloc (Nat.le_refl _) _).alloc (by simp) _⟩
end Go.Proofs.Ytcoiodfggaanbaa
