/-
  The program's codes that are written out word by word: tabulate, ComposeCodes and CopyCode: as the plain words say; nothing that was there before is changed.
-/
import Derived.Test.YtcoiodfggaanbaaCodeIA
import Derived.Test.YtcoiodfggaanbaaWordsOf
namespace Go.Proofs.Ytcoiodfggaanbaa
open Go Go.RowKit

theorem getD_mem {ws : List ByteArray} {i : Nat} (h : i < ws.length) : ws.getD i ByteArray.empty ∈ ws := by
  rw [List.getD_eq_getElem?_getD, List.getElem?_eq_getElem h]; exact List.getElem_mem h

/-- A word through the first j functions, one after the other. -/
def runTo (f : Nat → ByteArray → ByteArray) (x : ByteArray) : Nat → ByteArray
  | 0 => x
  | j + 1 => f j (runTo f x j)
/-- The slice of function values in block b, the j-th over block h j. -/
def FuncsAt (w : World) (b fn m : Nat) (h : Nat → Nat) : Prop := ∀ j, j < m → w.cell? ⟨b, j, none⟩ = some (.func (.func fn) #[] #[.pointer (some ⟨h j, 0, none⟩)])
set_option maxRecDepth 100000 in
theorem impl_tab_no (K N : Int) (V : Value) (hf : codeForm K N = false) (w : World) :
    Calls Try.prog 110 #[.int .i64 K, .int .i64 N, V] w (Says (CodeRes false K N ByteArray.empty) w) := by
  have HF := Lib.hid (impl_form K N)
  rw [hf] at HF
  clear hf
  have hk := codeIn_new w 0 0 ⟨#[]⟩
  have HB0 := Lib.hid ((Below.refl w.heap.size w).alloc (Nat.le_refl _) (.cells #[.int .i64 0, .int .i64 0, .string ⟨#[]⟩] 25))
  go_enter Try.func110, Try.ntmps110
  go_wp2_with fail
  refine (HF.out _).mono ?_
  rintro e w1 ⟨rfl, rfl⟩
  go_wp2
  refine bodyPost_ret (results_code rfl _ _ _ 25 #[.int .i64 0, .int .i64 0, .string ⟨#[]⟩] (0, 0) _ rfl hk Try.underlying25 rfl (by kernel_rfl)) rfl ?_
  exact ⟨rfl, HB0.out⟩

set_option maxRecDepth 100000 in
set_option maxHeartbeats 1600000 in
theorem impl_tab (k n m fn b c : Nat) (h : Nat → Nat) (f : Nat → ByteArray → ByteArray) (ok : FormOk k n) (eg : ∀ args w, (callFunc fn args).run Try.prog w = .ok (.enter fn args) w) (w : World)
    (hfs : FuncsAt w b fn m h) (hb : b < w.heap.size)  (hm : m ≤ 2)
    (hcall : ∀ x ∈ allW k n, ∀ j, j < m → ∀ w', Below w.heap.size w w' → Calls Try.prog fn #[.string (runTo f x j), .pointer (some ⟨h j, 0, none⟩)] w' (Says (.string (f j (runTo f x j))) w'))
    (hone : ∀ x ∈ allW k n, (runTo f x m).size = 1) :
    Calls Try.prog 110 #[.int .i64 (k : Int), .int .i64 (n : Int), .slice (some ⟨b, 0, none⟩) m c] w (Says (CodeRes true (k : Int) (n : Int) (catW (fun x => runTo f x m) (allW k n))) w) := by
  have HF := Lib.hid (impl_form (k : Int) (n : Int))
  rw [form_is ok] at HF
  have hk := codeIn_new w 0 0 ⟨#[]⟩
  have HK := Lib.hid hk
  have HB0 := Lib.hid ((Below.refl w.heap.size w).alloc (Nat.le_refl _) (.cells #[.int .i64 0, .int .i64 0, .string ⟨#[]⟩] 25))
  have hwo := impl_wordsOf (k : Int) (n : Int)
  rw [wordsOf_yes (by have := ok.k2; omega) ok.k3 (by have := ok.n4; omega) ok.three] at hwo
  have HWO := Lib.hid hwo
  have hlen := allW_length k n
  have hl27 : (allW k n).length ≤ 27 := by rw [hlen]; exact ok.le
  have hl0 : 0 < (allW k n).length := by rw [hlen]; exact Nat.pow_pos (by have := ok.k2; omega)
  have HCALL := Lib.hid hcall
  have HONE := Lib.hid hone
  have HFS := Lib.hid hfs
  have HCN : Hid (∀ i, i < (allW k n).length → catTo (fun x => runTo f x m) (allW k n) (i + 1) = catTo (fun x => runTo f x m) (allW k n) i ++ runTo f ((allW k n).getD i ByteArray.empty) m) := Lib.hid fun i hi => catTo_next _ hi
  have HCS : Hid (∀ i, i ≤ (allW k n).length → (catTo (fun x => runTo f x m) (allW k n) i).size = i) := Lib.hid fun i hi => catTo_size hone hi
  have HRT : Hid (∀ x j, runTo f x (j + 1) = f j (runTo f x j)) := Lib.hid fun _ _ => rfl
  have HR0 : Hid (∀ x, runTo f x 0 = x) := Lib.hid fun _ => rfl
  clear hwo hlen hcall hone hfs hk ok
  generalize allW k n = ws at *
  go_enter Try.func110, Try.ntmps110
  go_wp2_with fail
  refine (HF.out _).mono ?_
  rintro e w1 ⟨rfl, rfl⟩
  go_wp2_with fail
  refine (HWO.out _).mono ?_
  rintro e w2 hw2
  obtain ⟨g, cap, rfl, ho2, hb2⟩ := hw2.some hl0
  have HS := Lib.hid (StrsAt.of_owns ho2 rfl)
  have hgl := (ho2.lt g rfl).2
  have HB2 := Lib.hid (HB0.out.trans (hb2.mono HB0.out.size))
  have HK2 := Lib.hid (HK.out.below hb2)
  clear hw2 ho2 hb2
  go_wp2
  go_loopw [8, 22] (fun sv iv wr => ∃ i : Nat, i ≤ ws.length ∧ iv = .int .i64 (i : Int) ∧ sv = .string (catTo (fun x => runTo f x m) ws i) ∧ Hid (Below w2.heap.size w2 wr)) (fun _ iv _ => ws.length - (intOf iv).toNat)
  case atStart => exact ⟨0, Nat.zero_le _, rfl, rfl, Lib.hid (Below.refl _ _)⟩
  case round =>
    obtain ⟨i, hi, rfl, rfl, HB⟩ := hrel
    by_cases hlt : i < ws.length
    · have hc := HS.out.below HB.out hgl i hlt
      rw [Nat.zero_add] at hc
      have HCNI := Lib.hid (HCN.out i hlt)
      have hcs := HCS.out i hi
      have h1 := HONE.out _ (getD_mem hlt)
      have HCI := Lib.hid (HCALL.out _ (getD_mem hlt))
      generalize ws.getD i ByteArray.empty = x at *
      generalize catTo (fun x => runTo f x m) ws i = y at *
      obtain ⟨W0, rfl⟩ : ∃ W0 : World, W0 = wr := ⟨_, rfl⟩
      go_wp2
      go_loopw [10, 28] (fun xv jv wr => ∃ j : Nat, j ≤ m ∧ jv = .int .i64 (j : Int) ∧ xv = .string (runTo f x j) ∧ Hid (Below w2.heap.size w2 wr)) (fun _ jv _ => m - (intOf jv).toNat)
      case atStart => exact ⟨0, Nat.zero_le _, rfl, by rw [HR0.out], HB⟩
      case round =>
        clear hc
        obtain ⟨j, hj, rfl, rfl, HBJ⟩ := hrel
        by_cases hjm : j < m
        · have hBW := HB2.out.trans (HBJ.out.mono HB2.out.size)
          have hf := (hBW.cell (p := ⟨b, j, none⟩) hb).trans (HFS.out j hjm)
          have HC := Lib.hid (HCI.out j hjm wr hBW)
          have HRJ := Lib.hid (HRT.out x j)
          have HBW := Lib.hid hBW
          clear hBW
          generalize runTo f x j = z at *
          generalize f j z = z2 at *
          go_wp2_with fail
          refine HC.out.mono ?_
          rintro e w5 ⟨rfl, hb5⟩
          have HBN := Lib.hid (HBJ.out.trans (hb5.mono HBJ.out.size))
          clear hb5
          go_wp2
          go_roundw
          case rel => exact ⟨j + 1, by omega, by go_num, by rw [HRJ.out], HBN⟩
          case measure => simp [intOf]; omega
        · obtain rfl : j = m := by omega
          have x8 : y.size + (runTo f x j).size ≤ 9223372036854775807 := by omega
          generalize runTo f x j = z at *
          go_wp2
          go_roundw
          case rel => exact ⟨i + 1, by omega, by go_num, by rw [HCNI.out], HBJ⟩
          case measure => simp [intOf]; omega
    · obtain rfl : i = ws.length := by omega
      obtain ⟨y, hy⟩ : ∃ y, catTo (fun x => runTo f x m) ws ws.length = y := ⟨_, rfl⟩
      rw [hy]
      have HY : Hid (catW (fun x => runTo f x m) ws = y) := Lib.hid hy
      clear hy
      have hkk := HK2.out.below HB.out
      have d0 := hkk.c0
      have d1 := hkk.c1
      have d2 := hkk.c2
      have HKK := Lib.hid hkk
      have f0 := hkk.f 0
      have f1 := hkk.f 1
      have f2 := hkk.f 2
      clear hkk
      go_wp2
      refine bodyPost_ret (results_code rfl _ _ _ 25 #[.int .i64 (k : Int), .int .i64 (n : Int), .string y] (0, 0) _ rfl (codeIn_set HKK.out _ _ _) Try.underlying25 rfl (by kernel_rfl)) rfl ?_
      exact ⟨by rw [HY.out]; rfl, below_set (HB2.out.trans (HB.out.mono HB2.out.size)) (Nat.le_refl _) _ _ _⟩
end Go.Proofs.Ytcoiodfggaanbaa
