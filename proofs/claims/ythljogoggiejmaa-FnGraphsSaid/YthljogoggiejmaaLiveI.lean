/-
  The program's LivelyOf and IsLively: what the plain words say, a list in new memory; nothing that was there before is changed.
-/
import Derived.Test.YthljogoggiejmaaLiveNum
import Derived.Test.YthljogoggiejmaaIntsFind
import Derived.Test.YthljogoggiejmaaRowEnds
import Derived.Test.YthljogoggiejmaaGraphTrim
import Derived.Shelf.Abstract
namespace Go.Proofs.Ythljogoggiejmaa
open Go Go.RowKit Go.Shelf

theorem enters71 (args : Array Value) (w : World) : (callFunc 71 args).run Try.prog w = .ok (.enter 71 args) w := enters_of Try.func71 (by kernel_rfl) rfl args w
theorem enters72 (args : Array Value) (w : World) : (callFunc 72 args).run Try.prog w = .ok (.enter 72 args) w := enters_of Try.func72 (by kernel_rfl) rfl args w

theorem box_new (w : World) (v : Value) (t : TypeId) : (w.alloc (.cells #[v] t)).cell? ⟨w.heap.size, 0, none⟩ = some v := by
  unfold World.cell?; rw [heap_alloc_new w _]; rfl

set_option maxRecDepth 100000 in
set_option maxHeartbeats 1600000 in
theorem test_entered (gm gv : Nat) (A : Option Addr) (c : Nat) (m : List (List Int)) (hf : MatFacts m) (v u : Nat) (hv : v < m.length) (hu : u < m.length) (W : World)
    (h1 : W.cell? ⟨gm, 0, none⟩ = some (.slice A m.length c)) (h2 : W.cell? ⟨gv, 0, none⟩ = some (.int .i64 (v : Int))) (hg : GridS W A m) :
    Calls Try.prog 71 #[.int .i64 (u : Int), .pointer (some ⟨gm, 0, none⟩), .pointer (some ⟨gv, 0, none⟩)] W (Scalar (.bool (decide (0 < cellOf m u v))) W) := by
  obtain ⟨b, off, b2, off2, c', rfl, k1, k2, _, _⟩ := hg.num hu (j := v) (by rw [hf.row u hu]; exact hv)
  rw [hf.row u hu] at k1
  have g1 : (u : Int) < (m.length : Int) := by omega
  have g2 : (v : Int) < (m.length : Int) := by omega
  clear hg
  generalize cellOf m u v = x at *
  go_enter Try.func71, Try.ntmps71
  go_wp2
  go_quiet (fail)
  go_wp2
  go_ret
  exact ⟨by simp, below_drewN (Below.refl _ _) _⟩

set_option maxRecDepth 100000 in
set_option maxHeartbeats 1600000 in
theorem test_left (gm gv : Nat) (A : Option Addr) (c : Nat) (m : List (List Int)) (hf : MatFacts m) (v u : Nat) (hv : v < m.length) (hu : u < m.length) (W : World)
    (h1 : W.cell? ⟨gm, 0, none⟩ = some (.slice A m.length c)) (h2 : W.cell? ⟨gv, 0, none⟩ = some (.int .i64 (v : Int))) (hg : GridS W A m) :
    Calls Try.prog 72 #[.int .i64 (u : Int), .pointer (some ⟨gm, 0, none⟩), .pointer (some ⟨gv, 0, none⟩)] W (Scalar (.bool (decide (0 < cellOf m v u))) W) := by
  obtain ⟨b, off, b2, off2, c', rfl, k1, k2, _, _⟩ := hg.num hv (j := u) (by rw [hf.row v hv]; exact hu)
  rw [hf.row v hv] at k1
  have g1 : (u : Int) < (m.length : Int) := by omega
  have g2 : (v : Int) < (m.length : Int) := by omega
  clear hg
  generalize cellOf m v u = x at *
  go_enter Try.func72, Try.ntmps72
  go_wp2
  go_ret
  exact ⟨by simp, Below.refl _ _⟩

theorem list_next {w0 w3 w4 : World} {g cap k : Nat} {v : Value} {xs : List Int} {x : Int} (hB : Below w0.heap.size w0 w3) (hO : w3.ownsRow w0.heap.size 3 1 v xs.length (xs.map (Value.int .i64))) (o : Obj) (hk : k = xs.length + 1)
    (ho : w4.ownsRow w0.heap.size 3 1 (.slice (some ⟨g, 0, none⟩) k cap) k (xs.map (Value.int .i64) ++ [.int .i64 x])) (hg : (w3.alloc o).grownBy w4 v.ownBlock) :
    w4.ownsRow w0.heap.size 3 1 (.slice (some ⟨g, 0, none⟩) k cap) (xs ++ [x]).length ((xs ++ [x]).map (Value.int .i64)) ∧ Below w0.heap.size w0 w4 := by
  subst hk
  have hs := hB.size
  exact ⟨by rw [List.length_append, List.map_append]; exact ho, (hB.alloc hs o).grown hg (by simp; omega) fun q hq => (hO.lt q hq).1⟩
theorem contM_front (m : List (List Int)) (xs : List Int) (k : Nat) (hk : k < xs.length) : ((xs.take (k + 1)).filter (keepM m xs)) = ((xs.take k).filter (keepM m xs)) ++ (if keepM m xs (xs.getD k 0) = true then [xs.getD k 0] else []) := by
  have e : xs.getD k 0 = xs[k] := by simp [List.getD, hk]
  rw [List.take_add_one, List.filter_append, e, List.getElem?_eq_getElem hk]
  congr 1
  simp only [Option.toList_some]
  cases h : keepM m xs xs[k] <;> simp [h]
theorem front_le (m : List (List Int)) (xs : List Int) (k : Nat) : ((xs.take k).filter (keepM m xs)).length ≤ xs.length := by
  have h1 := List.length_filter_le (keepM m xs) (xs.take k)
  rw [List.length_take] at h1
  omega

set_option maxRecDepth 100000 in
set_option maxHeartbeats 3200000 in
theorem impl_continued (A : Option Addr) (c : Nat) (m : List (List Int)) (hf : MatFacts m) (A2 : Option Addr) (c2 : Nat) (xs : List Int) (hx : ∀ x ∈ xs, 0 ≤ x ∧ x < (m.length : Int)) (hn : xs.length ≤ 1000) (w : World) (hg : GridS w A m) (hr : RowS w A2 xs) :
    Calls Try.prog 54 #[.slice A m.length c, .slice A2 xs.length c2] w (NewA (contM m xs) w) := by
  obtain ⟨j0, hj, hy0, hy1, hy2⟩ := info_parts infoInt
  have hb0 : Below w.heap.size w (w.alloc (.cells #[.slice A m.length c] 24)) := (Below.refl _ _).alloc (Nat.le_refl _) _
  have hbox : (w.alloc (.cells #[.slice A m.length c] 24)).cell? ⟨w.heap.size, 0, none⟩ = some (.slice A m.length c) := box_new w _ _
  have HB0 := Lib.hid hb0
  have HG1 := Lib.hid (hg.below hb0)
  have HR1 := Lib.hid (hr.below hb0)
  have hs1 : w.heap.size < (w.alloc (.cells #[.slice A m.length c] 24)).heap.size := by rw [World.size_alloc]; omega
  have HTE : Hid (∀ gv v W, v < m.length → Below (w.alloc (.cells #[.slice A m.length c] 24)).heap.size (w.alloc (.cells #[.slice A m.length c] 24)) W → W.cell? ⟨gv, 0, none⟩ = some (.int .i64 (v : Int)) → gv < W.heap.size → TestI W.heap.size W 71 #[.pointer (some ⟨w.heap.size, 0, none⟩), .pointer (some ⟨gv, 0, none⟩)] (enteredM m (v : Int)) (fun x => 0 ≤ x ∧ x < (m.length : Int))) := Lib.hid fun gv v W hv hW hc hlt x W' hx hb => by
    obtain ⟨u, rfl⟩ : ∃ u : Nat, x = (u : Int) := ⟨x.toNat, by omega⟩
    have hb' := hW.trans (hb.mono hW.size)
    exact test_entered w.heap.size gv A c m hf v u hv (by omega) W' ((hb'.cell (p := ⟨w.heap.size, 0, none⟩) hs1).trans hbox) ((hb.cell (p := ⟨gv, 0, none⟩) hlt).trans hc) (HG1.out.below hb')
  have HTL : Hid (∀ gv v W, v < m.length → Below (w.alloc (.cells #[.slice A m.length c] 24)).heap.size (w.alloc (.cells #[.slice A m.length c] 24)) W → W.cell? ⟨gv, 0, none⟩ = some (.int .i64 (v : Int)) → gv < W.heap.size → TestI W.heap.size W 72 #[.pointer (some ⟨w.heap.size, 0, none⟩), .pointer (some ⟨gv, 0, none⟩)] (leftM m (v : Int)) (fun x => 0 ≤ x ∧ x < (m.length : Int))) := Lib.hid fun gv v W hv hW hc hlt x W' hx hb => by
    obtain ⟨u, rfl⟩ : ∃ u : Nat, x = (u : Int) := ⟨x.toNat, by omega⟩
    have hb' := hW.trans (hb.mono hW.size)
    exact test_left w.heap.size gv A c m hf v u hv (by omega) W' ((hb'.cell (p := ⟨w.heap.size, 0, none⟩) hs1).trans hbox) ((hb.cell (p := ⟨gv, 0, none⟩) hlt).trans hc) (HG1.out.below hb')
  have HX := Lib.hid hx
  have HNIL : Hid ((w.alloc (.cells #[.slice A m.length c] 24)).ownsRow (w.alloc (.cells #[.slice A m.length c] 24)).heap.size 3 1 (.slice none 0 0) 0 []) := Lib.hid (World.ownsRow_nil _ _ _ _)
  clear hg hr hb0 hx hbox hs1 HG1
  have HBW : Hid (∀ W, Below (w.alloc (.cells #[.slice A m.length c] 24)).heap.size (w.alloc (.cells #[.slice A m.length c] 24)) W → Below w.heap.size w W ∧ w.heap.size ≤ (w.alloc (.cells #[.slice A m.length c] 24)).heap.size) := Lib.hid fun W h => ⟨HB0.out.trans (h.mono HB0.out.size), HB0.out.size⟩
  clear HB0
  go_enter Try.func54, Try.ntmps54
  go_wp2
  obtain ⟨W1, hW1⟩ : ∃ W1, w.alloc (.cells #[.slice A m.length c] 24) = W1 := ⟨_, rfl⟩
  rw [hW1] at HTE HTL HNIL HBW HR1
  rw [hW1]
  clear hW1
  go_loopw [5, 12] (fun v iv wr => ∃ k : Nat, k ≤ xs.length ∧ iv = .int .i64 k ∧ wr.ownsRow W1.heap.size 3 1 v ((xs.take k).filter (keepM m xs)).length (((xs.take k).filter (keepM m xs)).map (Value.int .i64)) ∧ Below W1.heap.size W1 wr) (fun _ i _ => xs.length - (intOf i).toNat)
  case atStart => exact ⟨0, Nat.zero_le _, rfl, HNIL.out, Below.refl _ _⟩
  case round =>
    obtain ⟨k, hk, rfl, hO, hbl⟩ := hrel
    by_cases hlt : k < xs.length
    · obtain ⟨b2, off2, rfl, hat, hlt2⟩ := (HR1.out.below hbl) (by omega)
      have hc := hat k hlt
      obtain ⟨x0, x1⟩ := HX.out _ (int_mem hlt)
      obtain ⟨v, hv⟩ : ∃ v : Nat, xs.getD k 0 = (v : Int) := ⟨(xs.getD k 0).toNat, by omega⟩
      rw [hv] at hc x1
      have hvl : v < m.length := by omega
      have hsz := hbl.size
      have hbv : Below W1.heap.size W1 (wr.alloc (.cells #[.int .i64 (v : Int)] 3)) := hbl.alloc hsz _
      have hrv : RowS (wr.alloc (.cells #[.int .i64 (v : Int)] 3)) (some ⟨b2, off2, none⟩) xs := HR1.out.below hbv
      have C1 := Lib.hid (fun w' (hb : Below (wr.alloc (.cells #[.int .i64 (v : Int)] 3)).heap.size (wr.alloc (.cells #[.int .i64 (v : Int)] 3)) w') => contains_ints _ _ _ _ enters71 (enteredM m (v : Int)) _ (HTE.out wr.heap.size v _ hvl hbv (box_new wr _ _) (by rw [World.size_alloc]; omega)) (some ⟨b2, off2, none⟩) c2 xs HX.out (by omega) w' hb hb.size (hrv.below hb))
      have C2 := Lib.hid (fun w' (hb : Below (wr.alloc (.cells #[.int .i64 (v : Int)] 3)).heap.size (wr.alloc (.cells #[.int .i64 (v : Int)] 3)) w') => contains_ints _ _ _ _ enters72 (leftM m (v : Int)) _ (HTL.out wr.heap.size v _ hvl hbv (box_new wr _ _) (by rw [World.size_alloc]; omega)) (some ⟨b2, off2, none⟩) c2 xs HX.out (by omega) w' hb hb.size (hrv.below hb))
      have HBV := Lib.hid hbv
      have HVC := Lib.hid (fun w' (hb : Below (wr.alloc (.cells #[.int .i64 (v : Int)] 3)).heap.size (wr.alloc (.cells #[.int .i64 (v : Int)] 3)) w') => (hb.cell (p := ⟨wr.heap.size, 0, none⟩) (by show wr.heap.size < _; rw [World.size_alloc]; omega)).trans (box_new wr (.int .i64 (v : Int)) 3))
      have HNX : Hid (((xs.take (k + 1)).filter (keepM m xs)) = ((xs.take k).filter (keepM m xs)) ++ (if (xs.any (enteredM m (v : Int)) && xs.any (leftM m (v : Int))) = true then [(v : Int)] else [])) := Lib.hid (by
        have h := contM_front m xs k hlt
        rw [hv] at h
        exact h)
      have hll := front_le m xs k
      have HO := Lib.hid (World.ownsRow.alloc hO (.cells #[.int .i64 (v : Int)] 3))
      clear hO hbl hat hbv hrv hv x0
      generalize hys : (xs.take k).filter (keepM m xs) = ys at *
      generalize xs.any (enteredM m (v : Int)) = r1 at *
      generalize xs.any (leftM m (v : Int)) = r2 at *
      go_wp2_with fail
      refine (C1.out _ (Below.refl _ _)).mono ?_
      rintro e w2 ⟨rfl, hb2⟩
      have HB2 := Lib.hid hb2
      clear hb2
      go_wp2_with fail
      refine (C2.out _ HB2.out).mono ?_
      rintro e w3 ⟨rfl, hb3⟩
      have hb23 := HB2.out.trans (hb3.mono HB2.out.size)
      have hc3 := HVC.out w3 hb23
      have HB3 := Lib.hid (HBV.out.trans (hb23.mono HBV.out.size))
      have HO3 := Lib.hid (kept_below HO.out hb23)
      clear hb23 hb3 HB2 C1 C2
      have hs3 := HB3.out.size
      by_cases hb : (r1 && r2) = true
      · obtain ⟨rfl, rfl⟩ : r1 = true ∧ r2 = true := by simpa using hb
        rw [if_pos (by decide)] at HNX
        clear hb
        go_wp2_with (at_builtin; refine wpList_append_lies _ rfl (.tmp 26) (.tmp 28) 28 rfl W1.heap.size 3 j0 (.int .i64 0) 1 8 Try.underlying28 hj hy0 hy1 hy2 rfl (by decide) _ _ _ rfl (HO3.out.alloc _) ⟨w3.heap.size, 0, none⟩ 1 1 [.int .i64 (v : Int)] rfl rfl (World.news_of_block (cs := #[.int .i64 (v : Int)]) (t := 3) (fr := (0, 0)) (heap_alloc_new w3 _)) (by simp [Value.oneCell']) (by decide) (by unfold maxLen; omega) (by omega) (by simp; omega) (w3.heap.size + 1) (by simp) ?_; intro gg cap w4 ho4 hg4 hat4 hlt4; have HT := Lib.hid (list_next HB3.out HO3.out _ rfl ho4 hg4); clear ho4 hg4 hat4)
        go_roundw
        case rel => exact ⟨k + 1, by omega, by go_num, by rw [HNX.out]; exact HT.out.1, HT.out.2⟩
        case measure => simp [intOf]; omega
      · rw [if_neg hb, List.append_nil] at HNX
        have HNO : Hid ((r1 && r2) = false) := Lib.hid (by simpa using hb)
        have hcase : r1 = false ∨ (r1 = true ∧ r2 = false) := by cases r1 <;> cases r2 <;> simp_all
        clear hb
        rcases hcase with rfl | ⟨rfl, rfl⟩
        · go_wp2
          go_roundw
          case rel => exact ⟨k + 1, by omega, by go_num, by rw [HNX.out]; exact HO3.out, HB3.out⟩
          case measure => simp [intOf]; omega
        · go_wp2
          go_roundw
          case rel => exact ⟨k + 1, by omega, by go_num, by rw [HNX.out]; exact HO3.out, HB3.out⟩
          case measure => simp [intOf]; omega
    · obtain rfl : k = xs.length := by omega
      rw [List.take_length] at hO
      have HO := Lib.hid hO
      have HB := Lib.hid (HBW.out _ hbl)
      clear hO hbl
      go_wp2
      go_ret
      exact ⟨_, rfl, World.ownsRow.mono HO.out HB.out.2, HB.out.1⟩

def lenOf : Value → Nat
  | .slice _ n _ => n
  | _ => 0
def rangeI (k : Nat) : List Int := (List.range k).map fun (i : Nat) => (i : Int)
theorem rangeI_next (k : Nat) : rangeI (k + 1) = rangeI k ++ [(k : Int)] := by unfold rangeI; rw [List.range_succ, List.map_append]; rfl
theorem rangeI_length (k : Nat) : (rangeI k).length = k := by unfold rangeI; simp

set_option maxRecDepth 100000 in
set_option maxHeartbeats 3200000 in
theorem impl_livelyOf (A : Option Addr) (c : Nat) (m : List (List Int)) (hn : m.length ≤ 1099511627776) (ht : ∀ k, k < m.length → (m.getD k []).length ≤ 1099511627776) (w : World) (hg : GridS w A m) :
    Calls Try.prog 19 #[.slice A m.length c] w (NewA (livelyM m) w) := by
  obtain ⟨j0, hj, hy0, hy1, hy2⟩ := info_parts infoInt
  have HI := Lib.hid (impl_isMatrix A c m hn ht w hg)
  have HNIL := Lib.hid (World.ownsRow_nil w w.heap.size 3 1)
  unfold livelyM
  cases hm : isMat m with
  | false =>
    rw [hm] at HI
    rw [if_neg (by decide)]
    clear hg ht
    go_enter Try.func19, Try.ntmps19
    go_wp2_with fail
    refine HI.out.mono ?_
    rintro e w1 ⟨rfl, hw⟩
    obtain rfl : w = w1 := hw.symm
    go_wp2
    go_ret
    exact ⟨_, rfl, HNIL.out, Below.refl _ _⟩
  | true =>
    rw [hm] at HI
    rw [if_pos rfl]
    have hf := isMat_facts hm
    have hle := hf.le
    have HCONT := Lib.hid (fun A2 c2 xs (hx : ∀ x ∈ xs, 0 ≤ x ∧ x < (m.length : Int)) (hn : xs.length ≤ 1000) w' (hb : Below w.heap.size w w') (hr : RowS w' A2 xs) => impl_continued A c m hf A2 c2 xs hx hn w' (hg.below hb) hr)
    clear hg ht hm hf
    go_enter Try.func19, Try.ntmps19
    go_wp2_with fail
    refine HI.out.mono ?_
    rintro e w1 ⟨rfl, hw⟩
    obtain rfl : w = w1 := hw.symm
    go_wp2
    go_loopw [3, 11] (fun v iv wr => ∃ k : Nat, k ≤ m.length ∧ iv = .int .i64 k ∧ wr.ownsRow w.heap.size 3 1 v (rangeI k).length ((rangeI k).map (Value.int .i64)) ∧ Below w.heap.size w wr) (fun _ i _ => m.length - (intOf i).toNat)
    case atStart => exact ⟨0, Nat.zero_le _, rfl, HNIL.out, Below.refl _ _⟩
    case round =>
      obtain ⟨k, hk, rfl, hO, hbl⟩ := hrel
      by_cases hlt : k < m.length
      · have HO := Lib.hid hO
        have HB := Lib.hid hbl
        have hs := hbl.size
        have hkl := rangeI_length k
        have HNX := Lib.hid (rangeI_next k)
        clear hO hbl
        generalize rangeI k = xs at *
        go_wp2_with (at_builtin; refine wpList_append_lies _ rfl (.tmp 14) (.tmp 16) 28 rfl w.heap.size 3 j0 (.int .i64 0) 1 8 Try.underlying28 hj hy0 hy1 hy2 rfl (by decide) _ _ _ rfl (HO.out.alloc _) ⟨wr.heap.size, 0, none⟩ 1 1 [.int .i64 (k : Int)] rfl rfl (World.news_of_block (cs := #[.int .i64 (k : Int)]) (t := 3) (fr := (0, 0)) (heap_alloc_new wr _)) (by simp [Value.oneCell']) (by decide) (by unfold maxLen; omega) (by omega) (by simp; omega) (wr.heap.size + 1) (by simp) ?_; intro gg cap w4 ho4 hg4 hat4 hlt4; have HT := Lib.hid (list_next HB.out HO.out _ rfl ho4 hg4); clear ho4 hg4 hat4)
        go_roundw
        case rel => exact ⟨k + 1, by omega, by go_num, by have h := HT.out.1; rw [hkl] at h; rw [HNX.out]; exact h, HT.out.2⟩
        case measure => simp [intOf]; omega
      · obtain rfl : k = m.length := by omega
        have HO : Hid (wr.ownsRow w.heap.size 3 1 u3 (leftK m 0).length ((leftK m 0).map (Value.int .i64))) := Lib.hid (by rw [leftK_zero]; exact hO)
        have HB := Lib.hid hbl
        clear hO hbl
        go_wp2
        go_loopw [3] (fun v w2 => ∃ k : Nat, liveCount m k + k ≤ m.length ∧ w2.ownsRow w.heap.size 3 1 v (leftK m k).length ((leftK m k).map (Value.int .i64)) ∧ Below w.heap.size w w2) (fun v _ => lenOf v)
        case atStart => exact ⟨0, count_zero m, HO.out, HB.out⟩
        case round =>
          clear HO HB
          obtain ⟨k, hk, hO, hbl⟩ := hrel
          obtain ⟨A2, c2, rfl, hr⟩ := rowS_of_owns hO
          have hx : ∀ x ∈ leftK m k, 0 ≤ x ∧ x < (m.length : Int) := fun x hx => by
            obtain ⟨i, rfl, hi, _⟩ := leftK_mem.1 hx
            omega
          have hll : (leftK m k).length ≤ 9 := by rw [leftK_length]; omega
          have hcall := HCONT.out A2 c2 (leftK m k) hx (by omega) wr hbl hr
          rw [contM_next] at hcall
          have HC := Lib.hid hcall
          have HO := Lib.hid hO
          have HB := Lib.hid hbl
          clear hx hcall hO hbl hr
          have hll2 : (leftK m (k + 1)).length ≤ 9 := by rw [leftK_length]; have := live_count_le m (k + 1); unfold liveCount; have h := List.length_filter_le (liveK m (k + 1)) (List.range m.length); rw [List.length_range] at h; omega
          by_cases heq : (leftK m (k + 1)).length = (leftK m k).length
          · have HE := Lib.hid (left_end hk heq)
            rw [HE.out] at HO
            go_wp2_with fail
            refine HC.out.mono ?_
            rintro e w3 ⟨v3, rfl, ho3, hb3⟩
            obtain ⟨A3, c3, rfl, _⟩ := ho3.rowV
            have HO3 := Lib.hid (kept_below HO.out hb3)
            have HB3 := Lib.hid (below_behind HB.out hb3)
            clear ho3 hb3
            have hl : (liveList m m.length).length = (leftK m k).length := by rw [← HE.out]
            have HO4 : Hid (OwnA w3 w.heap.size (.slice A2 (leftK m k).length c2) (liveList m m.length)) := Lib.hid (by have h := HO3.out; rw [hl] at h; unfold OwnA; rw [hl]; exact h)
            clear hl
            rw [heq]
            go_wp2
            go_ret
            exact ⟨_, rfl, HO4.out, HB3.out⟩
          · have HLESS := Lib.hid (left_less hk heq)
            have hne : (((leftK m (k + 1)).length : Int) == ((leftK m k).length : Int)) = false := by rw [beq_eq_false_iff_ne]; omega
            have hne2 : ((leftK m (k + 1)).length == (leftK m k).length) = false := by rw [beq_eq_false_iff_ne]; omega
            go_wp2_with fail
            refine HC.out.mono ?_
            rintro e w3 ⟨v3, rfl, ho3, hb3⟩
            obtain ⟨A3, c3, rfl, _⟩ := ho3.rowV
            have HO3 := Lib.hid (World.ownsRow.mono ho3 HB.out.size)
            have HB3 := Lib.hid (below_behind HB.out hb3)
            clear ho3 hb3
            go_wp2
            go_roundw
            case rel => exact ⟨k + 1, HLESS.out.2, HO3.out, HB3.out⟩
            case measure => simp [lenOf]; exact HLESS.out.1

set_option maxRecDepth 100000 in
theorem impl_isLively (A : Option Addr) (c : Nat) (m : List (List Int)) (hn : m.length ≤ 1099511627776) (ht : ∀ k, k < m.length → (m.getD k []).length ≤ 1099511627776) (w : World) (hg : GridS w A m) :
    Calls Try.prog 32 #[.slice A m.length c] w (Scalar (.bool (isLivelyM m)) w) := by
  have HI := Lib.hid (impl_isMatrix A c m hn ht w hg)
  have HL := Lib.hid (impl_livelyOf A c m hn ht w hg)
  unfold isLivelyM
  clear hg ht
  cases hm : isMat m with
  | false =>
    rw [hm] at HI
    go_enter Try.func32, Try.ntmps32
    go_wp2_with fail
    refine HI.out.mono ?_
    rintro e w1 ⟨rfl, rfl⟩
    go_wp2
    go_ret
    exact ⟨rfl, Below.refl _ _⟩
  | true =>
    rw [hm] at HI
    generalize livelyM m = lv at *
    go_enter Try.func32, Try.ntmps32
    go_wp2_with fail
    refine HI.out.mono ?_
    rintro e w1 ⟨rfl, hw⟩
    obtain rfl : w = w1 := hw.symm
    go_wp2_with fail
    refine HL.out.mono ?_
    rintro e w2 ⟨v, rfl, ho, hb⟩
    obtain ⟨A3, c3, rfl, _⟩ := ho.rowV
    clear ho
    have hcast : (((lv.length : Nat) : Int) == ((m.length : Nat) : Int)) = decide (lv.length = m.length) := by rw [Bool.eq_iff_iff]; simp; omega
    go_wp2
    go_ret
    exact ⟨by simp, hb⟩
end Go.Proofs.Ythljogoggiejmaa
