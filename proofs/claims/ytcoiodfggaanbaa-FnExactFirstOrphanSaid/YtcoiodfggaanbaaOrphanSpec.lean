/-
  The model's IsOnto and FirstOrphan; nothing that was there before is changed.
-/
import Derived.Test.YtcoiodfggaanbaaOrphSpec
import Derived.Test.YtcoiodfggaanbaaFirstNum
namespace Go.Proofs.Ytcoiodfggaanbaa
open Go Go.RowKit

noncomputable def orphL (K N : Int) (o : ByteArray) : Option (List Nat) := if isCodeB K N o = true then (orph_exists (k := K.toNat) (q := K.toNat ^ (N.toNat - 1)) (out := outC o)).choose else none
theorem orphL_is {k n : Nat} {o : ByteArray} (ok : CodeOk k n o) : OrphIs k (k ^ (n - 1)) (outC o) (orphL (k : Int) (n : Int) o) := by
  unfold orphL
  rw [if_pos (code_is ok)]
  exact (orph_exists (k := k) (q := k ^ (n - 1)) (out := outC o)).choose_spec
noncomputable def ontoB (K N : Int) (o : ByteArray) : Bool := isCodeB K N o && !(orphL K N o).isSome
def shortO (r : Option (List Nat)) : Option ByteArray := match r with
  | none => none
  | some l => if l.length ≤ 8 then some (bytesW l) else none
noncomputable def orphS (K N : Int) (o : ByteArray) : Option ByteArray := shortO (orphL K N o)
theorem orphL_no {K N : Int} {o : ByteArray} (h : isCodeB K N o = false) : orphL K N o = none := by
  unfold orphL
  rw [if_neg (by rw [h]; decide)]

set_option maxRecDepth 100000 in
set_option maxHeartbeats 1600000 in
theorem spec_isOnto (K N : Int) (o : ByteArray) (ho : o.size ≤ 1099511627776) (w : World) :
    Calls Try.prog 24 #[.agg #[.int .i64 K, .int .i64 N, .string o]] w (Says (.bool (ontoB K N o)) w) := by
  have hk := codeIn_new w K N o
  have HK := Lib.hid hk
  have c0 := hk.c0
  have c1 := hk.c1
  have c2 := hk.c2
  have HB0 := Lib.hid ((Below.refl w.heap.size w).alloc (Nat.le_refl _) (.cells #[.int .i64 K, .int .i64 N, .string o] 25))
  have HI := Lib.hid (spec_isCode K N o ho)
  clear hk
  cases hc : isCodeB K N o with
  | false =>
    rw [hc] at HI
    have HR : Hid (ontoB K N o = false) := Lib.hid (by unfold ontoB; rw [hc]; rfl)
    clear hc
    go_enter Try.func24, Try.ntmps24
    go_wp2_with fail
    refine (HI.out _).mono ?_
    rintro e w1 ⟨rfl, hb1⟩
    have HB1 := Lib.hid (HB0.out.trans (hb1.mono HB0.out.size))
    clear hb1
    go_wp2
    go_ret
    exact ⟨by rw [HR.out]; rfl, HB1.out⟩
  | true =>
    rw [hc] at HI
    obtain ⟨k, n, rfl, rfl, ok⟩ := codeOk_of hc
    have HR : Hid (ontoB (k : Int) (n : Int) o = !(orphL (k : Int) (n : Int) o).isSome) := Lib.hid (by unfold ontoB; rw [hc]; rfl)
    have HO := Lib.hid (fun w' => spec_orphan k n o ok _ (orphL_is ok) w')
    clear hc ok
    rw [HR.out]
    generalize orphL (k : Int) (n : Int) o = r at *
    generalize orphB r = s at *
    generalize r.isSome = b at *
    go_enter Try.func24, Try.ntmps24
    go_wp2_with fail
    refine (HI.out _).mono ?_
    rintro e w1 ⟨rfl, hb1⟩
    have HB1 := Lib.hid (HB0.out.trans (hb1.mono HB0.out.size))
    have HK1 := Lib.hid (HK.out.below hb1)
    clear c0 c1 c2 hb1
    have c0 := HK1.out.c0
    have c1 := HK1.out.c1
    have c2 := HK1.out.c2
    go_wp2_with fail
    refine (HO.out _).mono ?_
    rintro e w2 ⟨rfl, hb2⟩
    have HB2 := Lib.hid (HB1.out.trans (hb2.mono HB1.out.size))
    clear hb2
    go_wp2
    go_ret
    exact ⟨rfl, HB2.out⟩

set_option maxRecDepth 100000 in
set_option maxHeartbeats 1600000 in
theorem spec_firstOrphan (K N : Int) (o : ByteArray) (ho : o.size ≤ 1099511627776) (w : World) :
    Calls Try.prog 15 #[.agg #[.int .i64 K, .int .i64 N, .string o]] w (Says (.tuple #[.string (optS (orphS K N o)), .bool (orphS K N o).isSome]) w) := by
  have hk := codeIn_new w K N o
  have HK := Lib.hid hk
  have c0 := hk.c0
  have c1 := hk.c1
  have c2 := hk.c2
  have HB0 := Lib.hid ((Below.refl w.heap.size w).alloc (Nat.le_refl _) (.cells #[.int .i64 K, .int .i64 N, .string o] 25))
  have HI := Lib.hid (spec_isCode K N o ho)
  clear hk
  cases hc : isCodeB K N o with
  | false =>
    rw [hc] at HI
    have HR : Hid (orphS K N o = none) := Lib.hid (by unfold orphS; rw [orphL_no hc]; rfl)
    clear hc
    go_enter Try.func15, Try.ntmps15
    go_wp2_with fail
    refine (HI.out _).mono ?_
    rintro e w1 ⟨rfl, hb1⟩
    have HB1 := Lib.hid (HB0.out.trans (hb1.mono HB0.out.size))
    clear hb1
    go_wp2
    go_ret2
    exact ⟨by rw [HR.out]; rfl, HB1.out⟩
  | true =>
    rw [hc] at HI
    obtain ⟨k, n, rfl, rfl, ok⟩ := codeOk_of hc
    have HO := Lib.hid (fun w' => spec_orphan k n o ok _ (orphL_is ok) w')
    have HR : Hid (orphS (k : Int) (n : Int) o = shortO (orphL (k : Int) (n : Int) o)) := Lib.hid rfl
    clear hc ok
    rw [HR.out]
    clear HR
    generalize orphL (k : Int) (n : Int) o = r at *
    go_enter Try.func15, Try.ntmps15
    go_wp2_with fail
    refine (HI.out _).mono ?_
    rintro e w1 ⟨rfl, hb1⟩
    have HB1 := Lib.hid (HB0.out.trans (hb1.mono HB0.out.size))
    have HK1 := Lib.hid (HK.out.below hb1)
    clear c0 c1 c2 hb1
    have c0 := HK1.out.c0
    have c1 := HK1.out.c1
    have c2 := HK1.out.c2
    go_wp2_with fail
    refine (HO.out _).mono ?_
    rintro e w2 ⟨rfl, hb2⟩
    have HB2 := Lib.hid (HB1.out.trans (hb2.mono HB1.out.size))
    clear hb2
    by_cases h8 : (orphB r).size ≤ 8
    · have hd : ¬ (8 : Int) < ((orphB r).size : Int) := by omega
      have HR : Hid (Value.tuple #[.string (orphB r), .bool r.isSome] = Value.tuple #[.string (optS (shortO r)), .bool (shortO r).isSome]) := Lib.hid (by
        cases r with
        | none => rfl
        | some l =>
          have hl : l.length ≤ 8 := by rw [← bytesW_size]; exact h8
          have e : shortO (some l) = some (bytesW l) := by unfold shortO; exact if_pos hl
          rw [e]; rfl)
      clear h8
      generalize orphB r = s at *
      go_wp2
      go_ret2
      exact ⟨congrArg Ending.returned HR.out, HB2.out⟩
    · have hd : (8 : Int) < ((orphB r).size : Int) := by omega
      have HR : Hid (Value.tuple #[.string ⟨#[]⟩, .bool false] = Value.tuple #[.string (optS (shortO r)), .bool (shortO r).isSome]) := Lib.hid (by
        cases r with
        | none => rfl
        | some l =>
          have hl : ¬ l.length ≤ 8 := by rw [← bytesW_size]; exact h8
          have e : shortO (some l) = none := by unfold shortO; exact if_neg hl
          rw [e]; rfl)
      clear h8
      generalize orphB r = s at *
      go_wp2
      go_ret2
      exact ⟨congrArg Ending.returned HR.out, HB2.out⟩
end Go.Proofs.Ytcoiodfggaanbaa
