/-
  The program's words of three letters in a language, its StatesOf, and its shift without some words: at every shift in memory what the plain words say, in new memory; nothing that was there before is changed.
-/
import Derived.Test.YtalclebehbdliaaGreatAscI
import Derived.Test.YtalclebehbdliaaGreatLangListImpl
import Derived.Test.YtalclebehbdliaaGreatBaseTexts
import Derived.Deep.AppendLies
namespace Go.Proofs.YtalclebehbdliaaGreat
open Go Go.RowKit

theorem size_wide {ps : List ByteArray} (hz : ∀ k, k < ps.length → (ps.getD k ByteArray.empty).size ≤ 2147483648) : ∀ k, k < ps.length → (ps.getD k ByteArray.empty).size ≤ 1099511627776 := fun k hk => by have := hz k hk; omega

set_option maxRecDepth 100000 in
set_option maxHeartbeats 800000 in
theorem impl_arcWords (L : Int) (G : Option Addr) (c : Nat) (ps : List ByteArray) (hl : ps.length ≤ 1048576) (hz : ∀ k, k < ps.length → (ps.getD k ByteArray.empty).size ≤ 2147483648) (w : World) (hs : StrsG w G ps)
    (hsh : ∀ w', Below w.heap.size w w' → w'.ShapedOpen Tryz.prog) :
    Calls Tryz.prog 41 #[.agg #[.int .i64 L, .slice G ps.length c]] w (ListPost (langOfS L ps 3) w) := by
  have hb := (Below.refl w.heap.size w).alloc (Nat.le_refl _) (.cells #[.int .i64 L, .slice G ps.length c] 26)
  have C := Lib.hid (impl_languageOf L 3 G c ps hl hz _ (hs.below hb) (fun w' h => hsh w' (below_after hb h)))
  rw [← langOf_same] at C
  have HB := Lib.hid hb
  clear hs hz hb hsh
  generalize langOfS L ps 3 = M at *
  go_enter Tryz.func41, Tryz.ntmps41
  go_wp2_with fail
  refine C.out.mono ?_
  rintro e w1 ⟨v, rfl, ho, b1⟩
  have HO := Lib.hid ho
  have B1 := Lib.hid (HB.out.trans (b1.mono HB.out.size))
  have s1 := HB.out.size
  clear ho b1
  go_wp2
  go_ret
  exact ⟨v, rfl, HO.out.mono s1, B1.out⟩

/-! ### The states -/
def endsW (A : List ByteArray) : List ByteArray := A.map fun w => w.extract 1 3
theorem endsW_len (A : List ByteArray) : (endsW A).length = A.length := by simp [endsW]
theorem endsW_next {A : List ByteArray} {k : Nat} (hk : k < A.length) : endsW (A.take (k + 1)) = endsW (A.take k) ++ [(A.getD k ByteArray.empty).extract 1 3] := by
  unfold endsW
  rw [take_next A k hk, List.map_append]; rfl
theorem endsW_all (A : List ByteArray) : endsW (A.take A.length) = endsW A := by rw [List.take_length]
theorem arcs_facts (L : Int) (ps : List ByteArray) : (langOfS L ps 3).length ≤ 27 ∧ (∀ w ∈ langOfS L ps 3, w.size = 3) ∧ ascW (endsW (langOfS L ps 3)) = langOfS L ps 2 := by
  cases h : isShift L ps with
  | true =>
    obtain ⟨_, k3, _, _⟩ := shift_sizes h
    rw [langOfS_is h (by decide) (by decide), langOfS_is h (by decide) (by decide)]
    exact ⟨lang3_le k3 ps, fun w hw => (arc_ends k3 hw).1, states_ends k3 ps⟩
  | false =>
    have e : ∀ n, langOfS L ps n = [] := fun n => by unfold langOfS; rw [if_neg (fun hc => by rw [h] at hc; exact absurd hc.1 (by decide))]
    rw [e, e]
    exact ⟨by simp, fun w hw => by simp at hw, rfl⟩

set_option maxRecDepth 100000 in
set_option maxHeartbeats 1600000 in
theorem impl_statesOf (L : Int) (G : Option Addr) (c : Nat) (ps : List ByteArray) (hl : ps.length ≤ 1048576) (hz : ∀ k, k < ps.length → (ps.getD k ByteArray.empty).size ≤ 2147483648) (w : World) (hs : StrsG w G ps)
    (hsh : ∀ w', Below w.heap.size w w' → w'.ShapedOpen Tryz.prog) :
    Calls Tryz.prog 23 #[.agg #[.int .i64 L, .slice G ps.length c]] w (ListPost (langOfS L ps 2) w) := by
  obtain ⟨i0, hi, hz0, hz1, hz2⟩ := info_parts infoStr
  have hb := (Below.refl w.heap.size w).alloc (Nat.le_refl _) (.cells #[.int .i64 L, .slice G ps.length c] 26)
  have C := Lib.hid (impl_arcWords L G c ps hl hz _ (hs.below hb) (fun w' h => hsh w' (below_after hb h)))
  have HB := Lib.hid hb
  have HF := arcs_facts L ps
  have h27 := HF.1
  have H3 := Lib.hid HF.2.1
  have HE := Lib.hid HF.2.2
  clear hs hz hb hsh HF
  generalize langOfS L ps 3 = A at *
  generalize langOfS L ps 2 = M at *
  go_enter Tryz.func23, Tryz.ntmps23
  go_wp2_with fail
  refine C.out.mono ?_
  rintro e w1 ⟨v, rfl, ho, b1⟩
  obtain ⟨GA, cA, hvA, hrA, _⟩ := ListPost.rowAt (ps := A) ⟨v, rfl, ho, b1⟩
  have hvA' : v = .slice GA A.length cA := Ending.returned.inj hvA
  subst hvA'
  have RA := Lib.hid hrA
  have B1 := Lib.hid (HB.out.trans (b1.mono HB.out.size))
  have s1 := B1.out.size
  have HN0 : Hid (w1.ownsRow w1.heap.size 9 1 (.slice none 0 0) (endsW (A.take 0)).length ((endsW (A.take 0)).map Value.string)) := Lib.hid (World.ownsRow_nil w1 w1.heap.size 9 1)
  clear ho b1 hvA hrA C
  go_wp2
  go_loopw [3, 9] (fun u iv wr => ∃ k : Nat, k ≤ A.length ∧ iv = .int .i64 (k : Int) ∧ Hid (wr.ownsRow w1.heap.size 9 1 u (endsW (A.take k)).length ((endsW (A.take k)).map Value.string)) ∧ Hid (Below w1.heap.size w1 wr)) (fun _ iv _ => A.length - (intOf iv).toNat)
  case atStart => exact ⟨0, Nat.zero_le _, rfl, HN0, Lib.hid (Below.refl _ _)⟩
  case round =>
    clear HN0
    obtain ⟨k, hk, rfl, HU, HBr⟩ := hrel
    have hsr := HBr.out.size
    by_cases hkl : k < A.length
    · obtain ⟨gA, rfl, hst, hgA⟩ := RA.out (by omega)
      have hc := (hst.below HBr.out hgA) k hkl
      rw [Nat.zero_add] at hc
      have hy3 : (A.getD k ByteArray.empty).size = 3 := H3.out _ (getD_mem hkl)
      have HNX := Lib.hid (endsW_next hkl)
      have hlen : (endsW (A.take k)).length = k := by rw [endsW_len, List.length_take]; omega
      generalize A.getD k ByteArray.empty = y at *
      generalize endsW (A.take k) = X at *
      clear hst
      go_wp2_with (at_builtin; refine wpList_append_own _ rfl (.tmp 13) (.tmp 16) 24 rfl w1.heap.size 9 i0 (.string ByteArray.empty) 1 16 Tryz.underlying24 hi hz0 hz1 hz2 rfl (by decide) _ _ _ rfl (HU.out.alloc _) ⟨wr.heap.size, 0, none⟩ 1 1 [.string (y.extract 1 3)] rfl rfl (World.news_of_block (cs := #[.string (y.extract 1 3)]) (t := 9) (fr := (0, 0)) (heap_alloc_new wr _)) (by intro u hu; rw [List.mem_singleton] at hu; subst hu; rfl) (by unfold maxLen; omega) (by omega) (by simp; omega) ?_; intro v3 w3 ho3 hg3 _; have HM3 := Lib.hid ho3; have HB3 := Lib.hid ((HBr.out.alloc hsr _).grown hg3 (by simp; omega) fun q hq => (HU.out.lt q hq).1); clear ho3 hg3)
      go_roundw
      case rel => exact ⟨k + 1, by omega, by go_num, by rw [HNX.out, List.length_append, List.map_append]; exact HM3, HB3⟩
      case measure => simp [intOf]; omega
    · obtain rfl : k = A.length := by omega
      rw [endsW_all] at HU
      have CA := Lib.hid (impl_asc w1.heap.size _ (endsW A) (by rw [endsW_len]; omega) wr HU.out)
      go_wp2_with fail
      refine CA.out.mono ?_
      rintro e w2 ⟨A2, c2, rfl, ho2, hb2, -⟩
      rw [HE.out] at ho2
      have HO := Lib.hid ho2
      have HB2 := Lib.hid (B1.out.trans ((HBr.out.grown hb2 hsr fun q hq => (HU.out.lt q hq).1).mono s1))
      clear ho2 hb2
      rw [HE.out]
      go_wp2
      go_ret
      exact ⟨_, rfl, HO.out.mono s1, HB2.out⟩

/-! ### The shift without some words -/
/-- A shift, new from H0 on, and whether there is one. -/
def ShPost (H0 : Nat) (W0 : World) (o : Option (Int × List ByteArray)) (e : Ending) (w' : World) : Prop := ∃ v, e = .returned (.tuple #[v, .bool o.isSome]) ∧ OwnSh w' H0 v (o.getD (0, [])).1 (o.getD (0, [])).2 ∧ Below H0 W0 w'
def withoutS (L : Int) (xs : List ByteArray) : Option (Int × List ByteArray) := if isShift L (ascW xs) = true then some (L, ascW xs) else none
theorem asc_wide {xs : List ByteArray} (hz : ∀ x ∈ xs, x.size ≤ 2147483648) : ∀ k, k < (ascW xs).length → ((ascW xs).getD k ByteArray.empty).size ≤ 1099511627776 := fun k hk => by
  have := hz _ (mem_ascW.1 (getD_mem hk)); omega

set_option maxRecDepth 100000 in
set_option maxHeartbeats 3200000 in
theorem impl_without (H0 : Nat) (W0 : World) (L : Int) (v : Value) (xs : List ByteArray) (hn : xs.length ≤ 1000000) (hz : ∀ x ∈ xs, x.size ≤ 2147483648) (w : World) (hw : Below H0 W0 w) (hH0 : H0 ≤ w.heap.size)
    (ho : w.ownsRow H0 9 1 v xs.length (xs.map Value.string)) :
    Calls Tryz.prog 48 #[.int .i64 L, v] w (ShPost H0 W0 (withoutS L xs)) := by
  have CA := Lib.hid (impl_asc H0 v xs hn _ (ho.alloc (.cells #[.int .i64 0, .slice none 0 0] 26)))
  have hk0 : (w.alloc (.cells #[.int .i64 0, .slice none 0 0] 26)).heap[w.heap.size]? = some (.cells #[.int .i64 0, .slice none 0 0] 26 (0, 0)) := heap_alloc_new w _
  have hb0 := hw.alloc hH0 (.cells #[.int .i64 0, .slice none 0 0] 26)
  have hs0 : (w.alloc (.cells #[.int .i64 0, .slice none 0 0] 26)).heap.size = w.heap.size + 1 := World.size_alloc _ _
  have hvl : ∀ q, v.ownBlock = some q → H0 ≤ q ∧ q < w.heap.size := fun q hq => ho.lt q hq
  have hle := ascW_le xs
  have HZ := Lib.hid (asc_wide hz)
  obtain ⟨R, hR⟩ : ∃ R, withoutS L xs = R := ⟨_, rfl⟩
  have HR : Hid (R = if isShift L (ascW xs) = true then some (L, ascW xs) else none) := Lib.hid hR.symm
  rw [hR]
  have HV := Lib.hid hvl
  have K0 := Lib.hid hk0
  have B0 := Lib.hid hb0
  clear hk0 hb0 hvl ho hz hR hw
  go_enter Tryz.func48, Tryz.ntmps48
  go_wp2_with fail
  refine CA.out.mono ?_
  rintro e w1 ⟨A, c, rfl, ho1, hg1, hab⟩
  clear CA
  obtain ⟨X, hX⟩ : ∃ X, ascW xs = X := ⟨_, rfl⟩
  rw [hX] at ho1 hab HR HZ hle ⊢
  have s1 := hg1.size
  rw [hs0] at s1
  have hb1 : Below H0 W0 w1 := B0.out.grown hg1 (by omega) fun q hq => (HV.out q hq).1
  have hk1 : w1.heap[w.heap.size]? = some (.cells #[.int .i64 0, .slice none 0 0] 26 (0, 0)) := (hg1.block w.heap.size (by omega) (fun e => by have := (HV.out _ e.symm).2; omega)).trans K0.out
  have hA : ∀ q, (Value.slice A X.length c).ownBlock = some q → q < w.heap.size := fun q hq => (HV.out q (hab ▸ hq)).2
  have hs2 : (w1.alloc (.cells #[.int .i64 L, .slice A X.length c] 26)).heap.size = w1.heap.size + 1 := World.size_alloc _ _
  have hbx : BoxAt (w1.alloc (.cells #[.int .i64 L, .slice A X.length c] 26)) w1.heap.size L (.slice A X.length c) := boxAt_new w1 L _ 26
  have hb2 : Below H0 W0 (w1.alloc (.cells #[.int .i64 L, .slice A X.length c] 26)) := hb1.alloc (by omega) _
  have ho2 : (w1.alloc (.cells #[.int .i64 L, .slice A X.length c] 26)).ownsRow H0 9 1 (.slice A X.length c) X.length (X.map Value.string) := ho1.alloc _
  have hk2 : (w1.alloc (.cells #[.int .i64 L, .slice A X.length c] 26)).heap[w.heap.size]? = some (.cells #[.int .i64 0, .slice none 0 0] 26 (0, 0)) := (heap_alloc_old w1 _ (by omega)).trans hk1
  clear hX ho1 hg1 hab hb1 hk1 B0 K0 HV hs0
  go_wp2_with fail
  generalize w1.alloc (.cells #[.int .i64 L, .slice A X.length c] 26) = W2 at *
  have HA := Lib.hid hA
  have CI := Lib.hid (impl_isShift L A c X (by omega) HZ.out W2 (strsG_of_owns ho2))
  have XB := Lib.hid (fun w' (h : Below W2.heap.size W2 w') => hbx.below h (by omega))
  have O2 := Lib.hid (fun w' (h : Below W2.heap.size W2 w') => owns_below ho2 h)
  have B2 := Lib.hid (fun w' (h : Below W2.heap.size W2 w') => hb2.trans (h.mono (by omega)))
  have K2 := Lib.hid (fun w' (h : Below W2.heap.size W2 w') => (h.block w.heap.size (by omega)).trans hk2)
  clear hbx hb2 ho2 hk2 HZ hA
  refine CI.out.mono ?_
  rintro e w3 ⟨rfl, h3⟩
  obtain ⟨x0, x1⟩ := XB.out w3 h3
  have O3 := Lib.hid (O2.out w3 h3)
  have B3 := Lib.hid (B2.out w3 h3)
  have h5 := K2.out w3 h3
  obtain ⟨d0, d1, d2⟩ := sh_cells h5
  have HH := Lib.hid h5
  clear h3 h5 CI XB O2 B2 K2
  cases hb : isShift L X with
  | true =>
    have HN : Hid (R = some (L, X)) := Lib.hid (by rw [HR.out, if_pos hb])
    clear hb HR
    go_wp2
    refine bodyPost_ret (results_sh rfl _ _ w.heap.size 26 #[.int .i64 L, .slice A X.length c] (0, 0) _ rfl (sh_stores HH.out) Tryz.underlying26 rfl (by kernel_rfl)) rfl ?_
    rw [HN.out]
    refine ⟨_, rfl, ⟨A, c, rfl, ?_⟩, below_stores B3.out (by omega) _ _⟩
    have hne : ∀ (w' : World), w'.ownsRow H0 9 1 (.slice A X.length c) X.length (X.map Value.string) → ¬ (Value.slice A X.length c).ownBlock = some w.heap.size := fun w' _ e => by have := HA.out _ e; omega
    have o1 := ownsRow_setCell_other O3.out (a := ⟨w.heap.size, 0, none⟩) (hne _ O3.out) (.int .i64 L)
    exact ownsRow_setCell_other o1 (a := ⟨w.heap.size, 1, none⟩) (hne _ o1) (.slice A X.length c)
  | false =>
    have HN : Hid (R = none) := Lib.hid (by rw [HR.out, if_neg (by rw [hb]; exact Bool.false_ne_true)])
    clear hb HR
    go_wp2
    refine bodyPost_ret (results_sh rfl _ _ w.heap.size 26 #[.int .i64 0, .slice none 0 0] (0, 0) _ rfl (sh_stores HH.out) Tryz.underlying26 rfl (by kernel_rfl)) rfl ?_
    rw [HN.out]
    exact ⟨_, rfl, ownSh_nil _ _ _, below_stores B3.out (by omega) _ _⟩
end Go.Proofs.YtalclebehbdliaaGreat
