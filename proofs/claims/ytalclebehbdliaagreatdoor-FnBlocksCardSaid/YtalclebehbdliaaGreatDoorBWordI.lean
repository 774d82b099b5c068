/-
  The program's BlockWords: what the plain words say, in new memory; nothing that was there before is changed.
-/
import Derived.Test.YtalclebehbdliaaGreatDoorLangTexts
import Derived.Test.YtalclebehbdliaaGreatDoorLangListImpl
import Derived.Test.YtalclebehbdliaaGreatDoorFmt
import Derived.Test.YtalclebehbdliaaGreatDoorShelfO
import Derived.Deep.RegionHeld3
import Derived.Deep.AppendLies
namespace Go.Proofs.YtalclebehbdliaaGreatDoor
open Go Go.RowKit

theorem lib_index (A : Option Addr) (c : Nat) (M : List ByteArray) (x : ByteArray) (hn : M.length ≤ 1000000) (w : World) (hm : RowAt w A M) :
    Calls Tryz.prog 50 #[.slice A M.length c, .string x] w fun e w' => e = .returned (.int .i64 (Lib.idxOfS M x)) ∧ w' = w := by
  by_cases h0 : 0 < M.length
  · obtain ⟨g, rfl, hst, hg⟩ := hm h0
    have h := Tryz.slices_Index_string g 0 M.length c M x w (Nat.le_refl _) (by omega) hst
    rwa [List.take_length] at h
  · obtain rfl : M = [] := List.eq_nil_of_length_eq_zero (by omega)
    exact Tryz.slices_Index_string_empty A c x w
theorem listI_next {w4 w6 w9 : World} {g cap k : Nat} {u : Value} {xs ys : List ByteArray} {y : ByteArray} {o : Obj} (hB : Below w4.heap.size w4 w6) (hO : w6.ownsRow w4.heap.size 9 1 u k (xs.map Value.string)) (hy : xs ++ [y] = ys)
    (ho2 : w9.ownsRow w4.heap.size 9 1 (.slice (some ⟨g, 0, none⟩) (k + 1) cap) (k + 1) (xs.map Value.string ++ [.string y])) (hg : (w6.alloc o).grownBy w9 u.ownBlock) :
    w9.ownsRow w4.heap.size 9 1 (.slice (some ⟨g, 0, none⟩) (k + 1) cap) (k + 1) (ys.map Value.string) ∧ Below w4.heap.size w4 w9 := by
  subst hy
  exact ⟨by rw [List.map_append]; exact ho2, (hB.alloc hB.size o).grown hg (by have := hB.size; simp; omega) fun q hq => (hO.lt q hq).1⟩

set_option maxRecDepth 100000 in
set_option maxHeartbeats 12800000 in
theorem impl_blockWords (L n : Int) (G : Option Addr) (c : Nat) (ps : List ByteArray) (hl : ps.length ≤ 1048576) (hz : ∀ k, k < ps.length → (ps.getD k ByteArray.empty).size ≤ 2147483648) (w : World) (hs : StrsG w G ps)
    (hsh : ∀ w', Below w.heap.size w w' → w'.ShapedOpen Tryz.prog) (hp : Pow w) :
    Calls Tryz.prog 21 #[.agg #[.int .i64 L, .slice G ps.length c], .int .i64 n] w (ListPost (blockWordsS L ps n) w) := by
  obtain ⟨i0, hi, hz0, hz1, hz2⟩ := info_parts infoStr
  have HLG := Lib.hid (fun n' w' (h : Below w.heap.size w w') => impl_languageOf L n' G c ps hl hz w' (hs.below h) fun w2 h2 => hsh w2 (h.trans (h2.mono h.size)))
  have HPW := Lib.hid (fun w' (h : Below w.heap.size w w') => hp.below h)
  clear hs hsh hp hz
  go_enter Tryz.func21, Tryz.ntmps21
  by_cases hn2 : 1 ≤ n ∧ n ≤ 3
  · obtain ⟨N, rfl⟩ : ∃ N : Nat, n = (N : Int) := ⟨n.toNat, by omega⟩
    have w3 : IntKind.i64.wrap ((N : Int) + 1) = (N : Int) + 1 := by rw [IntKind.wrap_i64]; omega
    have hN1 : 1 ≤ N := by omega
    have hN3 : N ≤ 3 := by omega
    have hna : ¬ (N : Int) < 1 := by omega
    have hnb : ¬ (3 : Int) < (N : Int) := by omega
    have HSZ : Hid (∀ k, k < (langOf L ps ((N : Int) + 1)).length → ((langOf L ps ((N : Int) + 1)).getD k ByteArray.empty).size = N + 1) := Lib.hid fun k hk => by
      rw [word_at hk]; omega
    have hMl := lang_short L ps (N : Int)
    have hAl := lang_short L ps ((N : Int) + 1)
    have HLM := Lib.hid (fun w' (h : Below w.heap.size w w') => HLG.out (N : Int) w' h)
    have HLA := Lib.hid (fun w' (h : Below w.heap.size w w') => HLG.out ((N : Int) + 1) w' h)
    have HR1 : Hid ((langOf L ps (N : Int)).length ≤ 10 → blockWordsS L ps (N : Int) = blkTo (langOf L ps (N : Int)) (langOf L ps ((N : Int) + 1)) N (langOf L ps ((N : Int) + 1)).length) := Lib.hid fun h => by
      unfold blockWordsS
      rw [if_pos ⟨hn2.1, hn2.2, h⟩, blkTo_all]; rfl
    have HR2 : Hid (¬ (langOf L ps (N : Int)).length ≤ 10 → blockWordsS L ps (N : Int) = []) := Lib.hid fun h => by
      unfold blockWordsS
      rw [if_neg (fun h2 => h h2.2.2)]
    clear hn2 HLG
    generalize blockWordsS L ps (N : Int) = R at *
    generalize langOf L ps (N : Int) = M at *
    generalize langOf L ps ((N : Int) + 1) = A at *
    go_wp2_with fail
    obtain ⟨Wb, hWb⟩ : ∃ Wb, w.alloc (.cells #[.int .i64 L, .slice G ps.length c] 30) = Wb := ⟨_, rfl⟩
    have sb : Wb.heap.size = w.heap.size + 1 := by rw [← hWb]; simp
    have xb : BoxAt Wb w.heap.size L (.slice G ps.length c) := by rw [← hWb]; exact boxAt_new w L _ 30
    have bb : Below w.heap.size w Wb := by rw [← hWb]; exact (Below.refl _ _).alloc (Nat.le_refl _) _
    rw [hWb]
    clear hWb
    have XB := Lib.hid xb
    have BB := Lib.hid bb
    clear xb bb
    refine (HLM.out _ BB.out).mono ?_
    rintro e w2 hpM
    obtain ⟨GM, cM, rfl, hrM, b2⟩ := ListPost.rowAt hpM
    have s2 := b2.size
    have RM := Lib.hid hrM
    have B2 := Lib.hid (BB.out.trans (b2.mono (by omega)))
    obtain ⟨x20, x21⟩ := XB.out.below b2 (by omega)
    clear hpM hrM b2
    by_cases hM10 : M.length ≤ 10
    · have HR := Lib.hid (HR1.out hM10)
      have hm10 : ¬ (10 : Int) < (M.length : Int) := by omega
      go_wp2_with fail
      refine (HLA.out _ B2.out).mono ?_
      rintro e w4 hpA
      obtain ⟨GA, cA, rfl, hrA, b4⟩ := ListPost.rowAt hpA
      have s4 := b4.size
      have RA := Lib.hid hrA
      have RM4 := Lib.hid (RM.out.below b4)
      have B4 := Lib.hid (B2.out.trans (b4.mono (by omega)))
      have HIX := Lib.hid (fun x w' (h : RowAt w' GM M) => lib_index GM cM M x (by omega) w' h)
      have HFM := Lib.hid (fun x w' (hp : Pow w') (h : -1 ≤ x ∧ x ≤ 1000000) => impl_fmt x (by omega) (by omega) w' hp)
      have HNX := Lib.hid (fun k (h : k < A.length) => (blkTo_next M A N k h).symm)
      have HIR := Lib.hid (fun x => idx_range M x (by omega))
      have O0 := Lib.hid (World.ownsRow_nil w4 w4.heap.size 9 1)
      clear hpA hrA b4 RM x20 x21 HLM HLA HR1 HR2 XB BB B2
      go_wp2
      go_loopw [6, 28] (fun u iv wr => ∃ k : Nat, k ≤ A.length ∧ iv = .int .i64 (k : Int) ∧ Hid (wr.ownsRow w4.heap.size 9 1 u k ((blkTo M A N k).map Value.string)) ∧ Hid (Below w4.heap.size w4 wr)) (fun _ iv _ => A.length - (intOf iv).toNat)
      case atStart => exact ⟨0, Nat.zero_le _, rfl, O0, Lib.hid (Below.refl _ _)⟩
      case round =>
        obtain ⟨k, hk, rfl, HO, HB⟩ := hrel
        have hsb := HB.out.size
        by_cases hkl : k < A.length
        · have hRM := RM4.out.below HB.out
          obtain ⟨gA, rfl, hst, hgA⟩ := (RA.out.below HB.out) (by omega)
          have hc := hst k hkl
          rw [Nat.zero_add] at hc
          have hys := HSZ.out k hkl
          have hnx := HNX.out k hkl
          unfold blkOf at hnx
          have r1 := HIR.out ((A.getD k ByteArray.empty).extract 0 N)
          have r2 := HIR.out ((A.getD k ByteArray.empty).extract 1 (N + 1))
          have C1 := Lib.hid (fun W' (h : Below wr.heap.size wr W') => HIX.out ((A.getD k ByteArray.empty).extract 0 N) W' (hRM.below h))
          have C2 := Lib.hid (fun W' (h : Below wr.heap.size wr W') => HIX.out ((A.getD k ByteArray.empty).extract 1 (N + 1)) W' (hRM.below h))
          have z1 := itoaB_size _ r1.1 r1.2
          have z2 := itoaB_size _ r2.1 r2.2
          have F1 := Lib.hid (fun W' (h : Below w.heap.size w W') => HFM.out _ W' (HPW.out W' h) r1)
          have F2 := Lib.hid (fun W' (h : Below w.heap.size w W') => HFM.out _ W' (HPW.out W' h) r2)
          generalize A.getD k ByteArray.empty = y at *
          generalize hya : y.extract 0 N = ya at *
          generalize hyb : y.extract 1 (N + 1) = yb at *
          generalize Lib.idxOfS M ya = i1 at *
          generalize Lib.idxOfS M yb = i2 at *
          change Hid (∀ W', Below w.heap.size w W' → Calls Tryz.prog 51 #[.int .i64 i1] W' fun e w' => e = .returned (.string (itoaB i1)) ∧ Below W'.heap.size W' w') at F1
          change Hid (∀ W', Below w.heap.size w W' → Calls Tryz.prog 51 #[.int .i64 i2] W' fun e w' => e = .returned (.string (itoaB i2)) ∧ Below W'.heap.size W' w') at F2
          generalize itoaB i1 = s1 at *
          generalize itoaB i2 = s2 at *
          have x9 : ∀ w, (Op.stringOp .add s1 s2).run Tryz.prog w = .ok (.string (s1 ++ s2)) w := fun w => run_string_add_sum w _ _ (by omega)
          have HNX1 := Lib.hid hnx
          have BQ := Lib.hid (Below.refl wr.heap.size wr)
          have BWR := Lib.hid (B4.out.trans (HB.out.mono (by omega)))
          have k0 : (0 : Int) ≤ (k : Int) := by omega
          have k1 : (k : Int) < (A.length : Int) := by omega
          have n0 : (0 : Int) ≤ (N : Int) := by omega
          have n1 : (N : Int) ≤ (N : Int) + 1 := by omega
          have n2 : (1 : Int) ≤ (N : Int) + 1 := by omega
          clear hnx hst hRM r1 r2 z1 z2 HIX HFM HNX HIR HSZ
          generalize blkTo M A N k = X at *
          go_wp2
          go_region_held3 (fun _ => True) (first | trivial | go_keep)
            (first
              | (go_at_call 50; refine (C1.out _ (by first | exact BQ.out | exact below_drewN BQ.out _)).mono ?_; rintro e wz ⟨rfl, hz⟩; subst hz; clear C1)
              | (go_at_call 50; refine (C2.out _ (by first | exact BQ.out | exact below_drewN BQ.out _)).mono ?_; rintro e wz ⟨rfl, hz⟩; subst hz))
          go_wp2_with fail
          refine (F1.out _ (by first | exact below_drewN BWR.out _ | exact BWR.out)).mono ?_
          rintro e w5 ⟨rfl, hb5⟩
          have B5 : Hid (Below wr.heap.size wr w5) := Lib.hid (by first | exact (below_drewN BQ.out _).trans (hb5.mono (below_drewN BQ.out _).size) | exact BQ.out.trans (hb5.mono BQ.out.size))
          have BW5 := Lib.hid (BWR.out.trans (B5.out.mono BWR.out.size))
          clear hb5 F1
          go_wp2_with fail
          refine (F2.out _ BW5.out).mono ?_
          rintro e w6 ⟨rfl, hb6⟩
          have B6 : Hid (Below wr.heap.size wr w6) := Lib.hid (B5.out.trans (hb6.mono B5.out.size))
          have HO6 := Lib.hid (owns_below HO.out B6.out)
          have HB6 := Lib.hid (HB.out.trans (B6.out.mono hsb))
          have hs6 := B6.out.size
          clear hb6 F2
          go_wp2_with (at_builtin; refine wpList_append_lies _ rfl (.tmp 41) (.tmp 47) 28 rfl w4.heap.size 9 i0 (.string ByteArray.empty) 1 16 Tryz.underlying28 hi hz0 hz1 hz2 rfl (by decide) _ _ _ rfl (HO6.out.alloc _) ⟨w6.heap.size, 0, none⟩ 1 1 [.string (s1 ++ s2)] rfl rfl (World.news_of_block (cs := #[.string (s1 ++ s2)]) (t := 9) (fr := (0, 0)) (heap_alloc_new w6 _)) (by simp [Value.oneCell']) (by decide) (by unfold maxLen; omega) (by omega) (by simp; omega) (w6.heap.size + 1) (by simp) ?_; intro gg cap w9 ho9 hg9 hat9 hlt9; have HF := listI_next HB6.out HO6.out HNX1.out ho9 hg9; clear ho9 hg9 hat9)
          obtain ⟨hf1, hf2⟩ := HF
          have HF1 := Lib.hid hf1
          have HF2 := Lib.hid hf2
          clear hf1 hf2
          go_roundw
          case rel => exact ⟨k + 1, by omega, by go_num, HF1, HF2⟩
          case measure => simp [intOf]; omega
        · obtain rfl : k = A.length := by omega
          have HF := Lib.hid (World.ownsRow.mono HO.out (show w.heap.size ≤ w4.heap.size by omega))
          have HBB := Lib.hid (B4.out.trans (HB.out.mono (by omega)))
          have hlen := blkTo_len M A N A.length (Nat.le_refl _)
          rw [← HR.out] at HF hlen
          clear HO
          go_wp2
          go_ret
          exact ⟨_, rfl, by rw [hlen]; exact HF.out, HBB.out⟩
    · have HR := Lib.hid (HR2.out hM10)
      have hm10 : (10 : Int) < (M.length : Int) := by omega
      have HO := Lib.hid (World.ownsRow_nil w2 w.heap.size 9 1)
      clear HR1 HR2
      go_wp2
      go_ret
      rw [HR.out]
      exact ⟨_, rfl, HO.out, B2.out⟩
  · have HR : Hid (blockWordsS L ps n = []) := Lib.hid (by
      unfold blockWordsS
      rw [if_neg (fun h => hn2 ⟨h.1, h.2.1⟩)])
    have HO : Hid (∀ w' : World, w'.ownsRow w.heap.size 9 1 (.slice none 0 0) 0 []) := Lib.hid (fun w' => World.ownsRow_nil w' w.heap.size 9 1)
    clear HLG HPW
    by_cases h1 : n < 1
    · go_wp2
      go_ret
      rw [HR.out]
      exact ⟨_, rfl, HO.out _, (Below.refl _ _).alloc (Nat.le_refl _) _⟩
    · have h3 : (3 : Int) < n := by omega
      go_wp2
      go_ret
      rw [HR.out]
      exact ⟨_, rfl, HO.out _, (Below.refl _ _).alloc (Nat.le_refl _) _⟩
end Go.Proofs.YtalclebehbdliaaGreatDoor
