/-
  The program's IsOnto and FirstOrphan, over its search for an orphan; nothing that was there before is changed.
-/
import Derived.Test.YtcoiodfggaanbaaOrphanSpec
import Derived.Test.YtcoiodfggaanbaaCodeI
namespace Go.Proofs.Ytcoiodfggaanbaa
open Go Go.RowKit

/-- The program's search for an orphan. -/
def ShortI : Prop := ∀ (k n : Nat) (o : ByteArray), CodeOk k n o → ∀ r, OrphIs k (k ^ (n - 1)) (outC o) r → ∀ w,
    Calls Try.prog 47 #[.agg #[.int .i64 (k : Int), .int .i64 (n : Int), .string o]] w (Says (.tuple #[.string (orphB r), .bool r.isSome]) w)

set_option maxRecDepth 100000 in
set_option maxHeartbeats 1600000 in
theorem impl_isOnto (hS : ShortI) (K N : Int) (o : ByteArray) (ho : o.size ≤ 1099511627776) (w : World) :
    Calls Try.prog 13 #[.agg #[.int .i64 K, .int .i64 N, .string o]] w (Says (.bool (ontoB K N o)) w) := by
  have hk := codeIn_new w K N o
  have HK := Lib.hid hk
  have c0 := hk.c0
  have c1 := hk.c1
  have c2 := hk.c2
  have HB0 := Lib.hid ((Below.refl w.heap.size w).alloc (Nat.le_refl _) (.cells #[.int .i64 K, .int .i64 N, .string o] 25))
  have HI := Lib.hid (impl_isCode K N o ho)
  clear hk
  cases hc : isCodeB K N o with
  | false =>
    rw [hc] at HI
    have HR : Hid (ontoB K N o = false) := Lib.hid (by unfold ontoB; rw [hc]; rfl)
    clear hc
    go_enter Try.func13, Try.ntmps13
    go_wp2_with fail
    refine (HI.out _).mono ?_
    rintro e w1 ⟨rfl, hb1⟩
    have HB1 := Lib.hid (HB0.out.trans (hb1.mono HB0.out.size))
    clear hb1
    go_wp2
    go_ret
    exact ⟨by rw [HR.out]; rfl, HB1.out⟩
  | true =>
    rw [hc] at HI
    obtain ⟨k, n, rfl, rfl, ok⟩ := codeOk_of hc
    have HR : Hid (ontoB (k : Int) (n : Int) o = !(orphL (k : Int) (n : Int) o).isSome) := Lib.hid (by unfold ontoB; rw [hc]; rfl)
    have HO := Lib.hid (fun w' => hS k n o ok _ (orphL_is ok) w')
    clear hc ok
    rw [HR.out]
    generalize orphL (k : Int) (n : Int) o = r at *
    generalize orphB r = s at *
    generalize r.isSome = b at *
    go_enter Try.func13, Try.ntmps13
    go_wp2_with fail
    refine (HI.out _).mono ?_
    rintro e w1 ⟨rfl, hb1⟩
    have HB1 := Lib.hid (HB0.out.trans (hb1.mono HB0.out.size))
    have HK1 := Lib.hid (HK.out.below hb1)
    clear c0 c1 c2 hb1
    have c0 := HK1.out.c0
    have c1 := HK1.out.c1
    have c2 := HK1.out.c2
    go_wp2_with fail
    refine (HO.out _).mono ?_
    rintro e w2 ⟨rfl, hb2⟩
    have HB2 := Lib.hid (HB1.out.trans (hb2.mono HB1.out.size))
    clear hb2
    go_wp2
    go_ret
    exact ⟨rfl, HB2.out⟩

set_option maxRecDepth 100000 in
set_option maxHeartbeats 1600000 in
theorem impl_firstOrphan (hS : ShortI) (K N : Int) (o : ByteArray) (ho : o.size ≤ 1099511627776) (w : World) :
    Calls Try.prog 14 #[.agg #[.int .i64 K, .int .i64 N, .string o]] w (Says (.tuple #[.string (optS (orphS K N o)), .bool (orphS K N o).isSome]) w) := by
  have hk := codeIn_new w K N o
  have HK := Lib.hid hk
  have c0 := hk.c0
  have c1 := hk.c1
  have c2 := hk.c2
  have HB0 := Lib.hid ((Below.refl w.heap.size w).alloc (Nat.le_refl _) (.cells #[.int .i64 K, .int .i64 N, .string o] 25))
  have HI := Lib.hid (impl_isCode K N o ho)
  clear hk
  cases hc : isCodeB K N o with
  | false =>
    rw [hc] at HI
    have HR : Hid (orphS K N o = none) := Lib.hid (by unfold orphS; rw [orphL_no hc]; rfl)
    clear hc
    go_enter Try.func14, Try.ntmps14
    go_wp2_with fail
    refine (HI.out _).mono ?_
    rintro e w1 ⟨rfl, hb1⟩
    have HB1 := Lib.hid (HB0.out.trans (hb1.mono HB0.out.size))
    clear hb1
    go_wp2
    go_ret2
    exact ⟨by rw [HR.out]; rfl, HB1.out⟩
  | true =>
    rw [hc] at HI
    obtain ⟨k, n, rfl, rfl, ok⟩ := codeOk_of hc
    have HO := Lib.hid (fun w' => hS k n o ok _ (orphL_is ok) w')
    have HR : Hid (orphS (k : Int) (n : Int) o = shortO (orphL (k : Int) (n : Int) o)) := Lib.hid rfl
    clear hc ok
    rw [HR.out]
    clear HR
    generalize orphL (k : Int) (n : Int) o = r at *
    go_enter Try.func14, Try.ntmps14
    go_wp2_with fail
    refine (HI.out _).mono ?_
    rintro e w1 ⟨rfl, hb1⟩
    have HB1 := Lib.hid (HB0.out.trans (hb1.mono HB0.out.size))
    have HK1 := Lib.hid (HK.out.below hb1)
    clear c0 c1 c2 hb1
    have c0 := HK1.out.c0
    have c1 := HK1.out.c1
    have c2 := HK1.out.c2
    go_wp2_with fail
    refine (HO.out _).mono ?_
    rintro e w2 ⟨rfl, hb2⟩
    have HB2 := Lib.hid (HB1.out.trans (hb2.mono HB1.out.size))
    clear hb2
    cases r with
    | none =>
      go_wp2
      go_ret2
      exact ⟨rfl, HB2.out⟩
    | some l =>
      by_cases h8 : (bytesW l).size ≤ 8
      · have hd : ¬ (8 : Int) < ((bytesW l).size : Int) := by omega
        have HR : Hid (shortO (some l) = some (bytesW l)) := Lib.hid (by
          unfold shortO; exact if_pos (by rw [← bytesW_size]; exact h8))
        clear h8
        have HS : Hid (orphB (some l) = bytesW l) := Lib.hid rfl
        rw [HS.out]
        generalize bytesW l = s at *
        go_wp2
        go_ret2
        exact ⟨by rw [HR.out]; rfl, HB2.out⟩
      · have hd : (8 : Int) < ((bytesW l).size : Int) := by omega
        have HR : Hid (shortO (some l) = none) := Lib.hid (by
          unfold shortO; exact if_neg (by rw [← bytesW_size]; exact h8))
        clear h8
        have HS : Hid (orphB (some l) = bytesW l) := Lib.hid rfl
        rw [HS.out]
        generalize bytesW l = s at *
        go_wp2
        go_ret2
        exact ⟨by rw [HR.out]; rfl, HB2.out⟩
end Go.Proofs.Ytcoiodfggaanbaa
