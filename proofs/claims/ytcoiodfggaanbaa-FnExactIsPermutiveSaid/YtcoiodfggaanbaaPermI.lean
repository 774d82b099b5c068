/-
  The program's IsPermutive: as the plain words say; nothing that was there before is changed.
-/
import Derived.Test.YtcoiodfggaanbaaPermNum
import Derived.Test.YtcoiodfggaanbaaRingI
import Derived.Test.YtcoiodfggaanbaaRingSpec
import Derived.Test.YtcoiodfggaanbaaShelfC
namespace Go.Proofs.Ytcoiodfggaanbaa
open Go Go.RowKit Go.Shelf

theorem shape_nextP {w w' : World} (h : w.ShapedOpen Try.prog) (hb : Below w.heap.size w w') : w'.ShapedOpen Try.prog := h.keptBut (hb.frame (fun _ => False)) (fun _ h => h.elim)
theorem byteAt_ext {s : ByteArray} {i j : Nat} (h : i + j < s.size) : byteAt (s.extract i s.size) j = byteAt s (i + j) := by
  unfold byteAt
  rw [ba_extract, List.getD_eq_getElem?_getD, List.getD_eq_getElem?_getD, List.getElem?_take_of_lt (by omega), List.getElem?_drop]
/-- No letter among the first i comes again. -/
def NoRep (s : ByteArray) (i : Nat) : Prop := ∀ a b, a < i → a < b → b < s.size → byteAt s a ≠ byteAt s b
theorem noRep_next {s : ByteArray} {i : Nat} (h : NoRep s i) (ho : occ (s.extract (i + 1) s.size) (oneB (byteAt s i)) = false) : NoRep s (i + 1) := fun a b ha hab hb => by
  by_cases e : a = i
  · subst e
    have h1 := occ_one_no ho (j := b - (a + 1)) (by rw [ByteArray.size_extract]; omega)
    rw [byteAt_ext (by omega), show a + 1 + (b - (a + 1)) = b by omega] at h1
    exact fun e => h1 e.symm
  · exact h a b (by omega) hab hb
theorem rep_yes {s : ByteArray} {i : Nat} (ho : occ (s.extract (i + 1) s.size) (oneB (byteAt s i)) = true) : twiceB s = true := by
  obtain ⟨j, hj, e⟩ := (occ_one _ _).1 ho
  rw [ByteArray.size_extract] at hj
  rw [byteAt_ext (by omega)] at e
  exact twice_yes (a := i) (b := i + 1 + j) (by omega) (by omega) e.symm
theorem rep_no {s : ByteArray} (h : NoRep s s.size) : twiceB s = false := twice_no fun a b hab hb => h a b (by omega) hab hb

set_option maxRecDepth 100000 in
set_option maxHeartbeats 1600000 in
theorem impl_twice (s : ByteArray) (hs : s.size ≤ 1000) (w : World) (hsh : w.ShapedOpen Try.prog) :
    Calls Try.prog 81 #[.string s] w (Says (.bool (twiceB s)) w) := by
  have HC : Hid (∀ i w', Below w.heap.size w w' → Calls Try.prog 112 #[.string (s.extract (i + 1) s.size), .string (oneB (byteAt s i))] w' fun e w'' => e = .returned (.bool (occ (s.extract (i + 1) s.size) (oneB (byteAt s i)))) ∧ w'' = w') := Lib.hid fun i w' hb =>
    Try.strings_Contains_shaped _ _ w' (shape_nextP hsh hb) (by rw [ByteArray.size_extract]; omega)
  clear hsh
  go_enter Try.func81, Try.ntmps81
  go_wp2
  go_loopw [6] (fun iv wr => ∃ i : Nat, i ≤ s.size ∧ iv = .int .i64 (i : Int) ∧ Hid (NoRep s i) ∧ Hid (Below w.heap.size w wr)) (fun iv _ => s.size - (intOf iv).toNat)
  case atStart => exact ⟨0, Nat.zero_le _, rfl, Lib.hid (fun a b h => absurd h (Nat.not_lt_zero _)), Lib.hid (Below.refl _ _)⟩
  case round =>
    obtain ⟨i, hi, rfl, hN, HB⟩ := hrel
    by_cases hlt : i < s.size
    · have HNX := Lib.hid (fun h => noRep_next hN.out (i := i) h)
      have HYES := Lib.hid (fun h => rep_yes (s := s) (i := i) h)
      have HCI : Hid (∀ m, Calls Try.prog 112 #[.string (s.extract (i + 1) s.size), .string (oneB (byteAt s i))] (wr.drewN m) fun e w'' => e = .returned (.bool (occ (s.extract (i + 1) s.size) (oneB (byteAt s i)))) ∧ w'' = wr.drewN m) := Lib.hid fun m => HC.out i _ (HB.out.trans ((drewN_below (Below.refl wr.heap.size wr) m).mono HB.out.size))
      have hx1 := ext_one hlt
      have g0 : (0 : Int) ≤ (i : Int) := by omega
      have g1 : (i : Int) + 1 ≤ (s.size : Int) := by omega
      have g2 : (i : Int) ≤ (i : Int) + 1 := by omega
      have g3 : (0 : Int) ≤ (i : Int) + 1 := by omega
      have hms : s.size - (i + 1) < s.size - i := by omega
      have hi1000 : i ≤ 1000 := by omega
      have HLT := Lib.hid hlt
      clear hN hlt
      obtain ⟨x3, x3b⟩ := one_wrapsR hi1000
      generalize occ (s.extract (i + 1) s.size) (oneB (byteAt s i)) = b at *
      generalize byteAt s i = a at *
      go_wp2
      go_quiet ((go_at_call 112; exact Calls.quiet_of_same (HCI.out _)))
      have HBq := Lib.hid (HB.out.trans ((drewN_below (Below.refl wr.heap.size wr) nq).mono HB.out.size))
      cases b with
      | true =>
        have HF := Lib.hid (HYES.out rfl)
        go_wp2
        go_ret
        exact ⟨by rw [HF.out]; rfl, HBq.out⟩
      | false =>
        have HN := Lib.hid (HNX.out rfl)
        go_wp2
        go_roundw
        case rel => exact ⟨i + 1, HLT.out, by go_num, HN, HBq⟩
        case measure => clear x3 x3b; simp [intOf]; omega
    · obtain rfl : i = s.size := by omega
      have HF := Lib.hid (rep_no hN.out)
      go_wp2
      go_ret
      exact ⟨by rw [HF.out]; rfl, HB.out⟩
theorem one_words (k : Nat) : allW k 1 = (List.range k).map letterB := by
  show longer [ByteArray.empty] k = _
  unfold longer
  simp
theorem one_word_at {k x : Nat} (h : x < k) : (allW k 1).getD x ByteArray.empty = letterB x := by
  rw [one_words, List.getD_eq_getElem?_getD, List.getElem?_map, List.getElem?_range h]; rfl

set_option maxRecDepth 100000 in
set_option maxHeartbeats 3200000 in
theorem impl_given (k n : Nat) (o y : ByteArray) (l : Bool) (ok : CodeOk k n o) (hy : y.size = n - 1) (ha : y.data.toList.all (isL (k : Int)) = true) (w : World) :
    Calls Try.prog 82 #[.agg #[.int .i64 (k : Int), .int .i64 (n : Int), .string o], .string y, .bool l] w (Says (.string (givenTo k o l y k)) w) := by
  have n1 := ok.n1
  have n4 := ok.n4
  have k2 := ok.k2
  have k3 := ok.k3
  have hk := codeIn_new w (k : Int) (n : Int) o
  have HK := Lib.hid hk
  have c0 := hk.c0
  have c1 := hk.c1
  have c2 := hk.c2
  have HB0 := Lib.hid ((Below.refl w.heap.size w).alloc (Nat.le_refl _) (.cells #[.int .i64 (k : Int), .int .i64 (n : Int), .string o] 25))
  have HCO := Lib.hid (fun w' => impl_codingOf (k : Int) (n : Int) o w')
  have HWO : Hid (∀ w', Calls Try.prog 57 #[.int .i64 (k : Int), .int .i64 1] w' (ListPost (allW k 1) w')) := Lib.hid fun w' => by
    have h := impl_wordsOf (k : Int) ((1 : Nat) : Int) w'
    rwa [wordsOf_yes (by omega) k3 (by decide) (six_pow k3 (by decide))] at h
  have HLEN : Hid ((allW k 1).length = k) := Lib.hid (by rw [allW_length, Nat.pow_one])
  have HAT : Hid (∀ x, x < k → (allW k 1).getD x ByteArray.empty = letterB x) := Lib.hid fun x h => one_word_at h
  have HAPP : Hid (∀ x, x < k → ∀ g w', CodeIn w' g (k : Int) (n : Int) o → Calls Try.prog 121 #[.string (besideB l y x), .pointer (some ⟨g, 0, none⟩)] w' (Says (.string (oneB (letterC k o (besideB l y x)))) w')) := Lib.hid fun x hx g w' hg => by
    have h1 := beside_size (l := l) (x := x) hy
    have h2 : (besideB l y x).size = n := by rw [h1]; omega
    have h := impl_coding k n g o (besideB l y x) ok (by omega) (beside_all k3 hx ha) w' hg
    rwa [applied_one h2] at h
  have HNXT := Lib.hid (givenTo_next k o l y)
  have HSZ := Lib.hid (givenTo_size k o l y)
  have eg : ∀ args w, (callFunc 121 args).run Try.prog w = .ok (.enter 121 args) w := enters_of Try.func121 (by kernel_rfl) rfl
  have hy4 : y.size ≤ 4 := by omega
  clear hk ok hy ha
  go_enter Try.func82, Try.ntmps82
  go_wp2_with fail
  refine (HCO.out _).mono ?_
  rintro e w1 ⟨rfl, rfl⟩
  obtain ⟨W0, hW0⟩ : ∃ W0, w.alloc (.cells #[.int .i64 (k : Int), .int .i64 (n : Int), .string o] 25) = W0 := ⟨_, rfl⟩
  have hz0 : W0.heap.size = w.heap.size + 1 := by rw [← hW0]; exact World.size_alloc _ _
  rw [hW0] at HK HB0 ⊢
  have hW1 := codeIn_new W0 (k : Int) (n : Int) o
  have hb1 : Below W0.heap.size W0 (W0.alloc (.cells #[.int .i64 (k : Int), .int .i64 (n : Int), .string o] 25)) := (Below.refl _ _).alloc (Nat.le_refl _) _
  obtain ⟨W1, hW1e⟩ : ∃ W1, W0.alloc (.cells #[.int .i64 (k : Int), .int .i64 (n : Int), .string o] 25) = W1 := ⟨_, rfl⟩
  rw [hW1e] at hW1 hb1 ⊢
  obtain ⟨gc, hgc⟩ : ∃ gc, W0.heap.size = gc := ⟨_, rfl⟩
  rw [hgc] at hW1
  have HG := Lib.hid hW1
  have HB1 := Lib.hid (HB0.out.trans (hb1.mono HB0.out.size))
  have HK1 := Lib.hid (HK.out.below hb1)
  clear hW0 hW1 hb1 hW1e c0 c1 c2
  rw [hgc]
  clear hgc hz0
  have c0 := HK1.out.c0
  go_wp2_with fail
  refine (HWO.out _).mono ?_
  rintro e w2 hp2
  obtain ⟨g, cap, rfl, ho2, hb2⟩ := hp2.some (by rw [HLEN.out]; omega)
  have HST := Lib.hid (StrsAt.of_owns ho2 rfl)
  have hgl := (ho2.lt g rfl).2
  have HB2 := Lib.hid (HB1.out.trans (hb2.mono HB1.out.size))
  have HG2 := Lib.hid (HG.out.below hb2)
  rw [HLEN.out]
  clear hb2 ho2 hp2 c0
  go_wp2
  go_loopw [8, 17] (fun sv xv wr => ∃ x : Nat, x ≤ k ∧ xv = .int .i64 (x : Int) ∧ sv = .string (givenTo k o l y x) ∧ Hid (Below w2.heap.size w2 wr)) (fun _ xv _ => k - (intOf xv).toNat)
  case atStart => exact ⟨0, Nat.zero_le _, rfl, rfl, Lib.hid (Below.refl _ _)⟩
  case round =>
    obtain ⟨x, hx, rfl, rfl, HB⟩ := hrel
    by_cases hxk : x < k
    · have kx := HST.out x (by rw [HLEN.out]; exact hxk)
      rw [Nat.zero_add, HAT.out x hxk] at kx
      have kx := (HB.out.cell (p := ⟨g, x, none⟩) hgl).trans kx
      have HX := Lib.hid (HAPP.out x hxk gc wr (HG2.out.below HB.out))
      have HN := Lib.hid (HNXT.out x)
      have hgs := HSZ.out x
      have x7 := letterB_size x
      have x8 : y.size + (letterB x).size ≤ 9223372036854775807 := by rw [x7]; omega
      have y8 : (letterB x).size + y.size ≤ 9223372036854775807 := by rw [x7]; omega
      have z8 : (givenTo k o l y x).size + (oneB (letterC k o (besideB l y x))).size ≤ 9223372036854775807 := by rw [hgs, oneB_size]; omega
      have hx0 : (0 : Int) ≤ (x : Int) := by omega
      have hx1 : (x : Int) < (k : Int) := by omega
      have hmx : k - (x + 1) < k - x := by omega
      have hx1000 : x ≤ 1000 := by omega
      have hbz : ∀ v, besideB l y x = v → (if l = true then letterB x ++ y else y ++ letterB x) = v := fun v h => h
      obtain ⟨bz, hbz2⟩ : ∃ bz, besideB l y x = bz := ⟨_, rfl⟩
      have hb3 := hbz _ hbz2
      rw [hbz2] at HX HN z8
      generalize letterC k o bz = a at *
      generalize givenTo k o l y x = s at *
      clear hbz hbz2 hgs x7
      obtain ⟨x3, x3b⟩ := one_wrapsR hx1000
      cases l with
      | false =>
        rw [if_neg (by decide)] at hb3
        go_wp2_with fail
        refine HX.out.mono ?_
        rintro e w9 ⟨rfl, hb9⟩
        have HB9 := Lib.hid (HB.out.trans (hb9.mono HB.out.size))
        clear hb9
        go_wp2
        go_roundw
        case rel => exact ⟨x + 1, hxk, by go_num, by rw [HN.out], HB9⟩
        case measure => clear x3 x3b; simp [intOf]; omega
      | true =>
        rw [if_pos rfl] at hb3
        go_wp2_with fail
        refine HX.out.mono ?_
        rintro e w9 ⟨rfl, hb9⟩
        have HB9 := Lib.hid (HB.out.trans (hb9.mono HB.out.size))
        clear hb9
        go_wp2
        go_roundw
        case rel => exact ⟨x + 1, hxk, by go_num, by rw [HN.out], HB9⟩
        case measure => clear x3 x3b; simp [intOf]; omega
    · obtain rfl : x = k := by omega
      go_wp2
      go_ret
      exact ⟨rfl, HB2.out.trans (HB.out.mono HB2.out.size)⟩
theorem enters_perm : ∀ args w, (callFunc 80 args).run Try.prog w = .ok (.enter 80 args) w := enters_of Try.func80 (by kernel_rfl) rfl

set_option maxRecDepth 100000 in
set_option maxHeartbeats 800000 in
theorem perm_at (k n : Nat) (o x : ByteArray) (l : Bool) (g1 g2 : Nat) (ok : CodeOk k n o) (hx : x.size = n - 1 ∧ x.data.toList.all (isL (k : Int)) = true) (W : World) (hsh : W.ShapedOpen Try.prog) (h1 : CodeIn W g1 (k : Int) (n : Int) o) (h2 : W.cell? ⟨g2, 0, none⟩ = some (.bool l)) :
    Calls Try.prog 80 #[.string x, .pointer (some ⟨g1, 0, none⟩), .pointer (some ⟨g2, 0, none⟩)] W (BoolPost (!permW k o l x) W) := by
  have c0 := h1.c0
  have c1 := h1.c1
  have c2 := h1.c2
  have HG := Lib.hid (impl_given k n o x l ok hx.1 hx.2 W)
  have HT : Hid (∀ w', Below W.heap.size W w' → Calls Try.prog 81 #[.string (givenTo k o l x k)] w' (Says (.bool (twiceB (givenTo k o l x k))) w')) := Lib.hid fun w' hb => impl_twice _ (by rw [givenTo_size]; have := ok.k3; omega) w' (shape_nextP hsh hb)
  have HE : Hid ((!permW k o l x) = twiceB (givenTo k o l x k)) := Lib.hid (by unfold permW; rw [Bool.not_not])
  rw [HE.out]
  clear h1 HE hx hsh ok
  generalize twiceB (givenTo k o l x k) = b at *
  generalize givenTo k o l x k = s at *
  go_enter Try.func80, Try.ntmps80
  go_wp2_with fail
  refine HG.out.mono ?_
  rintro e w1 ⟨rfl, hb1⟩
  have HB1 := Lib.hid hb1
  have HT1 := Lib.hid (HT.out w1 hb1)
  clear c0 c1 c2 hb1
  go_wp2_with fail
  refine HT1.out.mono ?_
  rintro e w2 ⟨rfl, hb2⟩
  have HB2 := Lib.hid (HB1.out.trans (hb2.mono HB1.out.size))
  clear hb2
  go_wp2
  go_ret
  exact ⟨rfl, HB2.out⟩

set_option maxRecDepth 100000 in
set_option maxHeartbeats 1600000 in
theorem impl_isPermutive (K N : Int) (o : ByteArray) (l : Bool) (ho : o.size ≤ 1099511627776) (w : World) (hsh : w.ShapedOpen Try.prog) :
    Calls Try.prog 41 #[.agg #[.int .i64 K, .int .i64 N, .string o], .bool l] w (Says (.bool (permB K N o l)) w) := by
  obtain ⟨W2, hW2⟩ : ∃ W2, (w.alloc (.cells #[.int .i64 K, .int .i64 N, .string o] 25)).alloc (.cells #[.bool l] 4) = W2 := ⟨_, rfl⟩
  have hb2 : Below w.heap.size w W2 := by rw [← hW2]; exact ((Below.refl _ _).alloc (Nat.le_refl _) _).alloc (by simp) _
  have hk : CodeIn W2 w.heap.size K N o := by rw [← hW2]; exact (codeIn_new w K N o).below ((Below.refl _ _).alloc (Nat.le_refl _) _)
  have hl : W2.cell? ⟨w.heap.size + 1, 0, none⟩ = some (.bool l) := by
    have h := heap_alloc_new (w.alloc (.cells #[.int .i64 K, .int .i64 N, .string o] 25)) (.cells #[.bool l] 4)
    rw [World.size_alloc, hW2] at h
    unfold World.cell?; rw [h]; rfl
  have hlb : w.heap.size + 1 < W2.heap.size := by rw [← hW2]; simp
  have c0 := hk.c0
  have c1 := hk.c1
  have c2 := hk.c2
  have HK := Lib.hid hk
  have HB0 := Lib.hid hb2
  have HL := Lib.hid hl
  have HLB := Lib.hid hlb
  have HW := Lib.hid hW2
  have HI := Lib.hid (impl_isCode K N o ho W2)
  have HSH := Lib.hid hsh
  clear hk hb2 hl hW2 hlb hsh
  cases hc : isCodeB K N o with
  | false =>
    rw [hc] at HI
    have HR := Lib.hid (perm_no (l := l) hc)
    clear hc
    go_enter Try.func41, Try.ntmps41
    go_wp2_with fail
    rw [HW.out]
    refine HI.out.mono ?_
    rintro e w1 ⟨rfl, hb1⟩
    have HB1 := Lib.hid (HB0.out.trans (hb1.mono HB0.out.size))
    clear hb1
    go_wp2
    go_ret
    exact ⟨by rw [HR.out]; rfl, HB1.out⟩
  | true =>
    rw [hc] at HI
    obtain ⟨k, n, rfl, rfl, ok⟩ := codeOk_of hc
    have n1 := ok.n1
    have n4 := ok.n4
    have k2 := ok.k2
    have k3 := ok.k3
    have HRES := Lib.hid (perm_yes (l := l) ok)
    have HWO := Lib.hid (fun w' => by have h := impl_wordsOf (k : Int) ((n - 1 : Nat) : Int) w'; rwa [wordsOf_yes (by omega) k3 (by omega) (six_pow k3 (by omega))] at h)
    have HOKS : Hid (∀ x ∈ allW k (n - 1), x.size = n - 1 ∧ x.data.toList.all (isL (k : Int)) = true) := Lib.hid fun x hx => ⟨allW_size k _ x hx, allW_all k3 _ x hx⟩
    have hl : (allW k (n - 1)).length ≤ 729 ∧ 0 < (allW k (n - 1)).length := by rw [allW_length]; exact ⟨six_pow k3 (by omega), Nat.pow_pos (by omega)⟩
    have e1 : wrap64 ((n : Int) - 1) = ((n - 1 : Nat) : Int) := by rw [small_wrap (by omega)]; omega
    have e2 : IntKind.i64.wrap ((n : Int) - 1) = ((n - 1 : Nat) : Int) := by rw [IntKind.wrap_i64]; omega
    have HLEN := Lib.hid hl
    have HOK := Lib.hid ok
    clear hc ok hl
    generalize allW k (n - 1) = ws at *
    obtain ⟨m, hm⟩ : ∃ m, n - 1 = m := ⟨_, rfl⟩
    have HM := Lib.hid hm
    rw [hm] at HWO e1 e2
    clear hm
    go_enter Try.func41, Try.ntmps41
    go_wp2_with fail
    rw [HW.out]
    refine HI.out.mono ?_
    rintro e w1 ⟨rfl, hb1⟩
    have HB1 := Lib.hid (HB0.out.trans (hb1.mono HB0.out.size))
    have HK1 := Lib.hid (HK.out.below hb1)
    have HL1 := Lib.hid ((hb1.cell (p := ⟨w.heap.size + 1, 0, none⟩) HLB.out).trans HL.out)
    have HLB1 := Lib.hid (Nat.lt_of_lt_of_le HLB.out hb1.size)
    clear c0 c1 c2 hb1
    have c0 := HK1.out.c0
    have c1 := HK1.out.c1
    have c2 := HK1.out.c2
    go_wp2_with fail
    refine (HWO.out _).mono ?_
    rintro e w2 hp2
    obtain ⟨g, cap, rfl, ho2, hb2⟩ := hp2.some HLEN.out.2
    have HST := Lib.hid (StrsAt.of_owns ho2 rfl)
    have hgl := (ho2.lt g rfl).2
    have HB2 := Lib.hid (HB1.out.trans (hb2.mono HB1.out.size))
    have HK2 := Lib.hid (HK1.out.below hb2)
    have HL2 := Lib.hid ((hb2.cell (p := ⟨w.heap.size + 1, 0, none⟩) HLB1.out).trans HL1.out)
    have HLB2 := Lib.hid (Nat.lt_of_lt_of_le HLB1.out hb2.size)
    clear c0 c1 c2 hb2 ho2 hp2 e1 e2
    have HT : Hid (TestAt w2.heap.size w2 80 #[.pointer (some ⟨w.heap.size, 0, none⟩), .pointer (some ⟨w.heap.size + 1, 0, none⟩)] (fun x => !permW k o l x) (fun x => x.size = n - 1 ∧ x.data.toList.all (isL (k : Int)) = true)) := Lib.hid fun x W hx hW =>
      perm_at k n o x l _ _ HOK.out hx W (shape_nextP HSH.out (HB2.out.trans (hW.mono HB2.out.size))) (HK2.out.below hW) ((hW.cell (p := ⟨w.heap.size + 1, 0, none⟩) HLB2.out).trans HL2.out)
    have HS := Lib.hid (contains_strs _ _ _ _ enters_perm _ _ HT.out g cap ws HOKS.out (by have := HLEN.out.1; omega) w2 (Below.refl _ _) (Nat.le_refl _) HST.out hgl)
    have HE : Hid ((!(ws.any fun x => !permW k o l x)) = ws.all (permW k o l)) := Lib.hid (by rw [List.not_any_eq_all_not]; simp)
    generalize (ws.any fun x => !permW k o l x) = b at *
    go_wp2_with fail
    refine HS.out.mono ?_
    rintro e w10 ⟨rfl, hb10⟩
    have HB10 := Lib.hid (HB2.out.trans (hb10.mono HB2.out.size))
    clear hb10
    go_wp2
    go_ret
    exact ⟨by rw [HRES.out, ← HE.out]; rfl, HB10.out⟩
end Go.Proofs.Ytcoiodfggaanbaa
