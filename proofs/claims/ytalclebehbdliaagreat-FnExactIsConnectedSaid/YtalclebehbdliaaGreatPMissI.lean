/-
  The program's ForbiddenOf: at every shift in memory what the plain words say, in new memory; nothing that was there before is changed.
-/
import Derived.Test.YtalclebehbdliaaGreatStatesI
import Derived.Test.YtalclebehbdliaaGreatLonger
import Derived.Test.YtalclebehbdliaaGreatPresLeast
namespace Go.Proofs.YtalclebehbdliaaGreat
open Go Go.RowKit

theorem lang_some {k : Nat} (hk : k ≤ 3) {ps : List ByteArray} {a b : UInt8} (h : Lively (k : Int) ps a b) {n : Nat} (hn : n ≤ 3) : 0 < (langW k ps n).length := by
  obtain ⟨q1, q2, ⟨c, q3, h4, h5⟩, _⟩ := Lively.closed _ _ a b h
  have hl := tri_letters q1 q2 q3
  have hI := tri_in h4 h h5
  have hp : ((tri a b c).extract 0 n).data.toList <:+: (tri a b c).data.toList := by rw [ba_extract, List.drop_zero]; exact (List.take_prefix _ _).isInfix
  have hm := (mem_langI hk (infix_letters hl hp) (show ((tri a b c).extract 0 n).size = n by rw [ByteArray.size_extract, tri_size]; omega)).2 (hI.part hp)
  exact List.length_pos_of_mem hm
theorem shift_empty {L : Int} {ps : List ByteArray} (h : isShift L ps = true) : avoids ps ByteArray.empty = true := avoids_iff.2 fun f hf hp => by
  have h1 := (shift_words h f hf).2.1
  have h2 := hp.length_le
  have h3 : f.data.toList.length = f.size := rfl
  have h4 : (ByteArray.empty : ByteArray).data.toList.length = 0 := rfl
  omega
/-- Nothing to look for. -/
theorem forb_none {L : Int} {ps : List ByteArray} (h : (langOfS L ps 0).length = 0) : forbS L ps = none := by
  unfold forbS
  rw [if_neg]
  intro hc
  simp only [Bool.and_eq_true, Bool.not_eq_true', decide_eq_true_eq] at hc
  obtain ⟨⟨h1, h2⟩, _⟩ := hc
  rw [langOfS_is h1 (by decide) (by decide)] at h
  have h3 := lang_zero (k := L.toNat) ps
  rw [show ((0 : Int).toNat) = 0 from rfl] at h
  rw [h, shift_empty h1] at h3
  unfold emptyT at h2
  rw [h1, Bool.true_and, decide_eq_false_iff_not] at h2
  rw [if_neg h2, if_pos rfl] at h3
  omega
/-- What there is to know where there is something. -/
structure Missing (L : Int) (ps : List ByteArray) (k : Nat) : Prop where
  num : L = (k : Int)
  one : 1 ≤ k
  three : k ≤ 3
  lang : ∀ n : Nat, n ≤ 3 → langOfS L ps (n : Int) = langW k ps n
  pos : ∀ n : Nat, n ≤ 3 → 0 < (langW k ps n).length
  le : ∀ n : Nat, n ≤ 3 → (langW k ps n).length ≤ 27
  size : ∀ n : Nat, ∀ x ∈ langW k ps n, x.size = n
  most : ∀ n : Nat, n ≤ 3 → (missTo k ps n).length ≤ n * 27
  word : ∀ x ∈ missTo k ps 3, x.size ≤ 3
  fin : withoutS L (missTo k ps 3) = forbS L ps
theorem missing {L : Int} {ps : List ByteArray} (h : ¬ (langOfS L ps 0).length = 0) : ∃ k, Missing L ps k := by
  cases hs : isShift L ps with
  | false =>
    have e : langOfS L ps 0 = [] := by unfold langOfS; rw [if_neg (fun hc => by rw [hs] at hc; exact absurd hc.1 (by decide))]
    rw [e] at h; exact absurd rfl h
  | true =>
    obtain ⟨k1, k3, kL, hps⟩ := shift_sizes hs
    rw [langOfS_is hs (by decide) (by decide), show ((0 : Int).toNat) = 0 from rfl] at h
    have h3 := lang_zero (k := L.toNat) ps
    have hp : ¬ (pairsW L.toNat ps).length = 0 := fun e => h (by rw [h3, if_pos e])
    have he : emptyT L ps = false := by unfold emptyT; rw [hs, Bool.true_and, decide_eq_false hp]
    obtain ⟨a, b, hab⟩ : ∃ a b, Lively (L.toNat : Int) ps a b := by
      cases hq : pairsW L.toNat ps with
      | nil => rw [hq] at hp; exact absurd rfl hp
      | cons x l =>
        have hx : x ∈ pairsW L.toNat ps := by rw [hq]; exact List.mem_cons_self ..
        obtain ⟨a, b, rfl, _, _⟩ := mem_pairsW' k3 hx
        exact ⟨a, b, (mem_pairsW k3 a b).1 hx⟩
    refine ⟨L.toNat, kL.symm, k1, k3, fun n hn => ?_, fun n hn => lang_some k3 hab hn, fun n hn => ?_, fun n x hx => lang_size k3 hx, ?_, fun x hx => ?_, ?_⟩
    · rw [langOfS_is hs (by omega) (by omega), Int.toNat_natCast]
    · have h1 := lang_le k3 ps n
      have h2 : 3 ^ n ≤ 3 ^ 3 := Nat.pow_le_pow_right (by decide) hn
      have h4 : (3 : Nat) ^ 3 = 27 := by decide
      omega
    · intro n
      induction n with
      | zero => intro _; simp [missTo]
      | succ n ih =>
        intro hn
        have h1 := ih (by omega)
        have h2 := missN_le k3 ps (n := n) (by omega)
        unfold missTo
        rw [List.length_append]; omega
    · have := (leastW_out k3 ps x).1 (by rw [← miss_least k3 ps]; exact mem_ascW.2 hx)
      exact this.1.2
    · have hf := leastW_shift k1 k3 ps
      rw [kL] at hf
      unfold withoutS forbS
      rw [miss_least k3 ps, hs, he, hf]
      by_cases h8 : (leastW L.toNat ps).length ≤ 8
      · rw [decide_eq_true h8]; rfl
      · rw [decide_eq_false h8]; rfl
/-- The words of a round, j of them looked at. -/
def missAt (k : Nat) (ps : List ByteArray) (n j : Nat) : List ByteArray := missTo k ps n ++ ((longer (langW k ps n) k).take j).filter (missB (langW k ps n) (langW k ps (n + 1)))
theorem missAt_zero (k : Nat) (ps : List ByteArray) (n : Nat) : missAt k ps n 0 = missTo k ps n := by unfold missAt; simp
theorem missAt_all (k : Nat) (ps : List ByteArray) (n : Nat) : missAt k ps n (longer (langW k ps n) k).length = missTo k ps (n + 1) := by
  unfold missAt
  rw [List.take_length]
  rfl
theorem missAt_yes {k : Nat} {ps : List ByteArray} {n j : Nat} (hj : j < (longer (langW k ps n) k).length) (h : missB (langW k ps n) (langW k ps (n + 1)) ((longer (langW k ps n) k).getD j ByteArray.empty) = true) : missAt k ps n (j + 1) = missAt k ps n j ++ [(longer (langW k ps n) k).getD j ByteArray.empty] := by
  unfold missAt
  rw [take_next _ j hj, List.filter_append, List.filter_cons_of_pos h, List.filter_nil, List.append_assoc]
theorem missAt_no {k : Nat} {ps : List ByteArray} {n j : Nat} (hj : j < (longer (langW k ps n) k).length) (h : missB (langW k ps n) (langW k ps (n + 1)) ((longer (langW k ps n) k).getD j ByteArray.empty) = false) : missAt k ps n (j + 1) = missAt k ps n j := by
  unfold missAt
  rw [take_next _ j hj, List.filter_append, List.filter_cons_of_neg (by rw [h]; exact Bool.false_ne_true), List.filter_nil, List.append_nil]
theorem missAt_len (k : Nat) (ps : List ByteArray) (n j : Nat) : (missAt k ps n j).length ≤ (missTo k ps n).length + (longer (langW k ps n) k).length := by
  unfold missAt
  rw [List.length_append]
  have h1 := List.length_filter_le (missB (langW k ps n) (langW k ps (n + 1))) ((longer (langW k ps n) k).take j)
  rw [List.length_take] at h1
  omega
theorem longer_row {k : Nat} {S : List ByteArray} {n : Nat} (h1 : 1 ≤ k) (h3 : k ≤ 3) (hp : 0 < S.length) (hl : S.length ≤ 27) (hs : ∀ x ∈ S, x.size = n) : 0 < (longer S k).length ∧ (longer S k).length ≤ 81 ∧ ∀ x ∈ longer S k, x.size = n + 1 := by
  refine ⟨?_, ?_, longer_size hs⟩ <;> rw [longer_length]
  · exact Nat.mul_pos hp h1
  · have := Nat.mul_le_mul hl h3
    omega

theorem strs_grownO {w w' : World} {g o : Nat} {r : Option Nat} {xs : List ByteArray} (h : StrsAt w g o xs) (hg : w.grownBy w' r) (hl : g < w.heap.size) (hne : some g ≠ r) : StrsAt w' g o xs := fun k hk =>
  (World.cell?_of_block (w := w) (w' := w') (a := ⟨g, o + k, none⟩) (hg.block g hl hne)).trans (h k hk)
theorem three_grown {w w' : World} {o : Obj} {r : Option Nat} {a b c : Nat} {A B C : List ByteArray} (h : StrsAt w a 0 A ∧ StrsAt w b 0 B ∧ StrsAt w c 0 C) (hg : (w.alloc o).grownBy w' r) (ha : a < w.heap.size) (hb : b < w.heap.size) (hc : c < w.heap.size) (hne : ∀ g, r = some g → g ≠ a ∧ g ≠ b ∧ g ≠ c) : StrsAt w' a 0 A ∧ StrsAt w' b 0 B ∧ StrsAt w' c 0 C := by
  have hx : Below w.heap.size w (w.alloc o) := (Below.refl _ _).alloc (Nat.le_refl _) _
  have hs : (w.alloc o).heap.size = w.heap.size + 1 := World.size_alloc _ _
  exact ⟨strs_grownO (h.1.below hx ha) hg (by omega) fun e => (hne a e.symm).1 rfl, strs_grownO (h.2.1.below hx hb) hg (by omega) fun e => (hne b e.symm).2.1 rfl, strs_grownO (h.2.2.below hx hc) hg (by omega) fun e => (hne c e.symm).2.2 rfl⟩
theorem own_new {r : Option Nat} {gg H n cap a b c : Nat} (hne : ∀ g, r = some g → g ≠ a ∧ g ≠ b ∧ g ≠ c) (hat : r = some gg ∨ gg = H) (ha : a < H) (hb : b < H) (hc : c < H) : ∀ g, (Value.slice (some ⟨gg, 0, none⟩) n cap).ownBlock = some g → g ≠ a ∧ g ≠ b ∧ g ≠ c := by
  intro g hg
  have e : gg = g := Option.some.inj hg
  subst e
  rcases hat with h | h
  · exact hne _ h
  · omega

set_option maxRecDepth 100000 in
set_option maxHeartbeats 6400000 in
theorem impl_forbiddenOf (L : Int) (G : Option Addr) (c : Nat) (ps : List ByteArray) (hl : ps.length ≤ 1048576) (hz : ∀ k, k < ps.length → (ps.getD k ByteArray.empty).size ≤ 2147483648) (w : World) (hs : StrsG w G ps)
    (hsh : ∀ w', Below w.heap.size w w' → w'.ShapedOpen Tryz.prog) :
    Calls Tryz.prog 10 #[.agg #[.int .i64 L, .slice G ps.length c]] w (NewShB (forbS L ps) w) := by
  obtain ⟨i0, hi, hz0, hz1, hz2⟩ := info_parts infoStr
  have HLG := Lib.hid (fun n w' (h : Below w.heap.size w w') => impl_languageOf L n G c ps hl hz w' (hs.below h) (fun w2 h2 => hsh w2 (below_after h h2)))
  have HL0 : Hid (∀ n w', Below w.heap.size w w' → Calls Tryz.prog 37 #[.agg #[.int .i64 L, .slice G ps.length c], .int .i64 n] w' (ListPost (langOfS L ps n) w')) := Lib.hid fun n w' h => by rw [langOf_same]; exact HLG.out n w' h
  obtain ⟨R, hR⟩ : ∃ R, forbS L ps = R := ⟨_, rfl⟩
  have HN0 : Hid ((langOfS L ps 0).length = 0 → R = none) := Lib.hid fun h => by rw [← hR]; exact forb_none h
  have HMS : Hid (¬ (langOfS L ps 0).length = 0 → ∃ k, Missing L ps k) := Lib.hid missing
  have HRR := Lib.hid hR
  rw [hR]
  clear hs hz hR HLG hsh
  go_enter Tryz.func10, Tryz.ntmps10
  go_wp2_with fail
  obtain ⟨Wb, hWb⟩ : ∃ Wb, (w.alloc (.cells #[.int .i64 L, .slice G ps.length c] 26)).alloc (.cells #[.int .i64 0, .slice none 0 0] 26) = Wb := ⟨_, rfl⟩
  have sb : Wb.heap.size = w.heap.size + 1 + 1 := by rw [← hWb]; simp
  have xb : BoxAt Wb w.heap.size L (.slice G ps.length c) := by
    rw [← hWb]
    exact (boxAt_new w L _ 26).below ((Below.refl (w.heap.size + 1) _).alloc (by simp) _) (by omega)
  have rb : Wb.heap[w.heap.size + 1]? = some (.cells #[.int .i64 0, .slice none 0 0] 26) := by
    rw [← hWb]
    have h := heap_alloc_new (w.alloc (.cells #[.int .i64 L, .slice G ps.length c] 26)) (.cells #[.int .i64 0, .slice none 0 0] 26)
    rw [World.size_alloc] at h; exact h
  have bb : Below w.heap.size w Wb := by rw [← hWb]; exact ((Below.refl _ _).alloc (Nat.le_refl _) _).alloc (by simp) _
  rw [hWb]
  clear hWb
  have XB := Lib.hid (fun w' (h : Below Wb.heap.size Wb w') => xb.below h (by omega))
  have RB := Lib.hid (fun w' (h : Below Wb.heap.size Wb w') => (h.block (w.heap.size + 1) (by omega)).trans rb)
  have BB := Lib.hid (fun w' (h : Below Wb.heap.size Wb w') => bb.trans (h.mono (by omega)))
  have HNO : Hid (∀ w', Below Wb.heap.size Wb w' → NewShB none w (.returned (.tuple #[.agg #[.int .i64 0, .slice none 0 0], .bool false])) ((w'.setCell ⟨w.heap.size + 1, 0, none⟩ (.int .i64 0)).setCell ⟨w.heap.size + 1, 1, none⟩ (.slice none 0 0))) := Lib.hid fun w' h => ⟨_, rfl, ownSh_nil _ _ _, below_stores (bb.trans (h.mono (by omega))) (by omega) _ _⟩
  clear xb rb bb
  refine (HL0.out 0 Wb (BB.out Wb (Below.refl _ _))).mono ?_
  rintro e w1 h1
  obtain ⟨GS, cS, rfl, hrS, b1⟩ := ListPost.rowAt h1
  have RS := Lib.hid hrS
  have B1 := Lib.hid b1
  clear h1 hrS b1
  by_cases h0 : (langOfS L ps 0).length = 0
  · have HN : Hid (R = none) := Lib.hid (HN0.out h0)
    have h5 := RB.out w1 B1.out
    obtain ⟨d0, d1, d2⟩ := sh_cells h5
    have HH := Lib.hid h5
    have hzl : (((langOfS L ps 0).length : Int) == 0) = true := by rw [h0]; rfl
    clear h5 HN0 HMS HRR
    go_wp2
    refine bodyPost_ret (results_sh rfl _ _ (w.heap.size + 1) 26 #[.int .i64 0, .slice none 0 0] (0, 0) _ rfl (sh_stores HH.out) Tryz.underlying26 rfl (by kernel_rfl)) rfl ?_
    rw [HN.out]
    exact HNO.out w1 B1.out
  · obtain ⟨kk, hm⟩ := HMS.out h0
    obtain rfl := hm.num
    have k1 := hm.one
    have k3 := hm.three
    have HLN := Lib.hid hm.lang
    have HPOS := Lib.hid hm.pos
    have HLE := Lib.hid hm.le
    have HSZ := Lib.hid hm.size
    have HMO := Lib.hid hm.most
    have HWD := Lib.hid hm.word
    have HFN : Hid (withoutS (kk : Int) (missTo kk ps 3) = R) := Lib.hid (hm.fin.trans HRR.out)
    have hzl : (((langOfS (kk : Int) ps 0).length : Int) == 0) = false := beq_eq_false_iff_ne.2 (by omega)
    have e0 : langOfS (kk : Int) ps 0 = langW kk ps 0 := hm.lang 0 (by omega)
    rw [e0] at RS hzl ⊢
    have HX0 : Hid (w1.ownsRow Wb.heap.size 9 1 (.slice none 0 0) (missTo kk ps 0).length ((missTo kk ps 0).map Value.string)) := Lib.hid (World.ownsRow_nil w1 Wb.heap.size 9 1)
    have HA0 := Lib.hid (fun n => missAt_zero kk ps n)
    have HAA := Lib.hid (fun n => missAt_all kk ps n)
    have HYY := Lib.hid (fun n j (hj : j < (longer (langW kk ps n) kk).length) h => missAt_yes (ps := ps) hj h)
    have HNN := Lib.hid (fun n j (hj : j < (longer (langW kk ps n) kk).length) h => missAt_no (ps := ps) hj h)
    have HLL := Lib.hid (fun n j => missAt_len kk ps n j)
    clear hm HN0 HMS HRR h0 e0
    generalize missAt kk ps = MA at *
    generalize missTo kk ps = MT at *
    generalize langW kk ps = LG at *
    go_wp2
    go_loopw [4, 5, 6] (fun sv mv nv wr => ∃ (n : Nat) (A : Option Addr) (cA : Nat), n ≤ 3 ∧ nv = .int .i64 ((n : Int) + 1) ∧ sv = .slice A (LG n).length cA ∧ Hid (RowAt wr A (LG n)) ∧ Hid (∀ g, mv.ownBlock = some g → A ≠ some ⟨g, 0, none⟩) ∧ Hid (wr.ownsRow Wb.heap.size 9 1 mv (MT n).length ((MT n).map Value.string)) ∧ Hid (Below Wb.heap.size Wb wr)) (fun _ _ nv _ => 4 - (intOf nv).toNat)
    case atStart => exact ⟨0, GS, cS, by omega, rfl, rfl, RS, Lib.hid (fun g h => by cases h), HX0, B1⟩
    case round =>
      clear HX0 RS B1
      obtain ⟨n, A, cA, hn, rfl, rfl, HRA, HNE, HO, HB⟩ := hrel
      have hsr := HB.out.size
      by_cases hn3 : n < 3
      · have hgn : (n : Int) + 1 ≤ 3 := by omega
        obtain ⟨x0, x1⟩ := XB.out wr HB.out
        obtain ⟨gS, rfl, hsS, hgS⟩ := HRA.out (HPOS.out n (by omega))
        have CL := Lib.hid (HL0.out ((n + 1 : Nat) : Int) wr (BB.out wr HB.out))
        rw [HLN.out (n + 1) (by omega)] at CL
        rw [show ((n + 1 : Nat) : Int) = (n : Int) + 1 by omega] at CL
        have lS := HLE.out n (by omega)
        have lW := HLE.out (n + 1) (by omega)
        have pS := HPOS.out n (by omega)
        have pW := HPOS.out (n + 1) (by omega)
        have lM := HMO.out n (by omega)
        have zS := HSZ.out n
        obtain ⟨pX, lX, zX⟩ := longer_row k1 k3 pS lS zS
        have HZX := Lib.hid zX
        have H0 := Lib.hid (HA0.out n)
        have HALL := Lib.hid (HAA.out n)
        have HYES := Lib.hid (HYY.out n)
        have HNOT := Lib.hid (HNN.out n)
        have HLEN := Lib.hid (HLL.out n)
        have HMB : Hid (∀ y, missB (LG n) (LG (n + 1)) y = (!Lib.containsS (LG (n + 1)) y && Lib.containsS (LG n) (y.extract 1 y.size))) := Lib.hid fun y => rfl
        have HSS := Lib.hid hsS
        have CX := Lib.hid (fun w' (h : StrsAt w' gS 0 (LG n)) (hg : gS < w'.heap.size) => impl_longer gS cA n kk (LG n) k3 (by omega) (by omega) zS w' h hg)
        rw [← H0.out] at HO
        have HNEg : Hid (∀ g, _ → _) := HNE
        clear hsS zS zX HRA
        generalize longer (LG n) kk = X at *
        generalize LG n = S at *
        generalize hWe : LG (n + 1) = W at *
        have HWE := Lib.hid hWe
        clear hWe
        go_wp2_with fail
        refine CL.out.mono ?_
        rintro e w2 ⟨vW, rfl, hoW, b2⟩
        obtain ⟨gW, cW, rfl, _, _⟩ := World.ownsRow.form hoW pW
        have hgW := hoW.lt gW rfl
        have s2 := b2.size
        have SW2 := Lib.hid (StrsAt.of_owns hoW rfl)
        have SS2 := Lib.hid (HSS.out.below b2 hgS)
        have O2 := Lib.hid (owns_below HO.out b2)
        have B2 := Lib.hid (HB.out.trans (b2.mono hsr))
        have HOB : Hid (∀ g, _ = some g → g < wr.heap.size) := Lib.hid fun g h => (HO.out.lt g h).2
        clear hoW b2 x0 x1 CL
        obtain ⟨x0, x1⟩ := XB.out w2 B2.out
        go_wp2_with fail
        refine (CX.out w2 SS2.out (by omega)).mono ?_
        rintro e w3 ⟨vX, rfl, hoX, b3⟩
        obtain ⟨gX, cX, rfl, _, _⟩ := World.ownsRow.form hoX pX
        have hgX := hoX.lt gX rfl
        have s3 := b3.size
        have SX3 := Lib.hid (StrsAt.of_owns hoX rfl)
        have SW3 := Lib.hid (SW2.out.below b3 hgW.2)
        have SS3 := Lib.hid (SS2.out.below b3 (by omega))
        have O3 := Lib.hid (owns_below O2.out b3)
        have B3 := Lib.hid (B2.out.trans (b3.mono (by omega)))
        clear hoX b3 CX x0 x1 SW2 SS2 O2 B2 HSS HO HB
        have HNQ : Hid (∀ g, u5.ownBlock = some g → g ≠ gS ∧ g ≠ gW ∧ g ≠ gX) := Lib.hid fun g hg => ⟨fun e => HNE.out g hg (by rw [e]), by have := HOB.out g hg; omega, by have := HOB.out g hg; omega⟩
        have ST3 : Hid (StrsAt w3 gS 0 S ∧ StrsAt w3 gW 0 W ∧ StrsAt w3 gX 0 X) := Lib.hid ⟨SS3.out, SW3.out, SX3.out⟩
        clear HNE HOB SS3 SW3 SX3 HNEg
        obtain ⟨W1, rfl⟩ : ∃ W1 : World, W1 = wr := ⟨_, rfl⟩
        go_wp2
        go_loopw [5, 28] (fun mv jv wq => ∃ j : Nat, j ≤ X.length ∧ jv = .int .i64 (j : Int) ∧ Hid (wq.ownsRow Wb.heap.size 9 1 mv (MA n j).length ((MA n j).map Value.string)) ∧ Hid (∀ g, mv.ownBlock = some g → g ≠ gS ∧ g ≠ gW ∧ g ≠ gX) ∧ Hid (StrsAt wq gS 0 S ∧ StrsAt wq gW 0 W ∧ StrsAt wq gX 0 X) ∧ w3.heap.size ≤ wq.heap.size ∧ Hid (Below Wb.heap.size Wb wq)) (fun _ jv _ => X.length - (intOf jv).toNat)
        case atStart => exact ⟨0, Nat.zero_le _, rfl, O3, HNQ, ST3, Nat.le_refl _, B3⟩
        case round =>
          clear O3 HNQ ST3 B3
          obtain ⟨j, hj, rfl, HO, HN2, HST, hsz, HB⟩ := hrel
          have hsr := HB.out.size
          by_cases hjl : j < X.length
          · obtain ⟨hS, hW, hX⟩ := HST.out
            have hc := hX j hjl
            rw [Nat.zero_add] at hc
            have hy := HZX.out _ (getD_mem hjl)
            have HY := Lib.hid (HYES.out j hjl)
            have HNo := Lib.hid (HNOT.out j hjl)
            have HM := Lib.hid (HMB.out (X.getD j ByteArray.empty))
            have hlj := HLEN.out j
            rw [hy] at HM
            have j0 : (0 : Int) ≤ (j : Int) := by omega
            have j1 : (j : Int) < (X.length : Int) := by omega
            have n1 : (1 : Int) ≤ (n : Int) + 1 := by omega
            have C1 := Lib.hid (Tryz.slices_Contains_string gW 0 W.length cW W (X.getD j ByteArray.empty) wr (Nat.le_refl _) (by omega) hW)
            have C2 := Lib.hid (Tryz.slices_Contains_string gS 0 S.length cA S ((X.getD j ByteArray.empty).extract 1 (n + 1)) wr (Nat.le_refl _) (by omega) hS)
            rw [List.take_length] at C1 C2
            generalize X.getD j ByteArray.empty = y at *
            clear hS hW hX HYES HNOT HMB HLEN
            cases h1 : Lib.containsS W y with
            | true =>
              rw [h1] at C1
              have HE := Lib.hid (HNo.out (by rw [HM.out, h1]; rfl))
              clear h1 HY HNo HM C2
              go_wp2_with fail
              refine C1.out.mono ?_
              rintro e u1 ⟨rfl, hw⟩
              obtain rfl : wr = u1 := hw.symm
              clear hw
              go_wp2
              go_roundw
              case rel => exact ⟨j + 1, by omega, by go_num, by rw [HE.out]; exact HO, HN2, HST, hsz, HB⟩
              case measure => simp [intOf]; omega
            | false =>
              rw [h1] at C1
              cases h2 : Lib.containsS S (y.extract 1 (n + 1)) with
              | false =>
                rw [h2] at C2
                have HE := Lib.hid (HNo.out (by rw [HM.out, h1, h2]; rfl))
                clear h1 h2 HY HNo HM
                go_wp2_with fail
                refine C1.out.mono ?_
                rintro e u1 ⟨rfl, hw⟩
                obtain rfl : wr = u1 := hw.symm
                clear hw
                go_wp2_with fail
                refine C2.out.mono ?_
                rintro e u2 ⟨rfl, hw⟩
                obtain rfl : wr = u2 := hw.symm
                clear hw
                go_wp2
                go_roundw
                case rel => exact ⟨j + 1, by omega, by go_num, by rw [HE.out]; exact HO, HN2, HST, hsz, HB⟩
                case measure => simp [intOf]; omega
              | true =>
                rw [h2] at C2
                have HE := Lib.hid (HY.out (by rw [HM.out, h1, h2]; rfl))
                clear h1 h2 HY HNo HM
                go_wp2_with fail
                refine C1.out.mono ?_
                rintro e u1 ⟨rfl, hw⟩
                obtain rfl : wr = u1 := hw.symm
                clear hw
                go_wp2_with fail
                refine C2.out.mono ?_
                rintro e u2 ⟨rfl, hw⟩
                obtain rfl : wr = u2 := hw.symm
                clear hw
                go_wp2_with (at_builtin; refine wpList_append_lies _ rfl (.tmp 42) (.tmp 44) 24 rfl Wb.heap.size 9 i0 (.string ByteArray.empty) 1 16 Tryz.underlying24 hi hz0 hz1 hz2 rfl (by decide) _ _ _ rfl (HO.out.alloc _) ⟨wr.heap.size, 0, none⟩ 1 1 [.string y] rfl rfl (World.news_of_block (cs := #[.string y]) (t := 9) (fr := (0, 0)) (heap_alloc_new wr _)) (by simp [Value.oneCell']) (by decide) (by unfold maxLen; omega) (by omega) (by simp; omega) (wr.heap.size + 1) (by simp) ?_; intro gg cap w6 ho6 hg6 hat6 hlt6; have HM6 := Lib.hid ho6; have HB6 := Lib.hid ((HB.out.alloc hsr _).grown hg6 (by simp; omega) fun q hq => (HO.out.lt q hq).1); have HS6 := Lib.hid (three_grown HST.out hg6 (by omega) (by omega) (by omega) (fun g hg => HN2.out g hg)); have HN6 : Hid (∀ g, (Value.slice (some ⟨gg, 0, none⟩) ((MA n j).length + 1) cap).ownBlock = some g → g ≠ gS ∧ g ≠ gW ∧ g ≠ gX) := Lib.hid (own_new HN2.out hat6 (by omega) (by omega) (by omega)); have hs6 := hg6.size; rw [World.size_alloc] at hs6; clear ho6 hg6 hat6)
                go_wp2
                go_roundw
                case rel => exact ⟨j + 1, by omega, by go_num, by rw [HE.out, List.length_append, List.map_append]; exact HM6, HN6, HS6, by omega, HB6⟩
                case measure => simp [intOf]; omega
          · obtain rfl : j = X.length := by omega
            rw [HALL.out] at HO
            have HRW : Hid (RowAt wr (some ⟨gW, 0, none⟩) W) := Lib.hid fun _ => ⟨gW, rfl, HST.out.2.1, by omega⟩
            have HNW : Hid (∀ g, _ = some g → (some ⟨gW, 0, none⟩ : Option Addr) ≠ some ⟨g, 0, none⟩) := Lib.hid fun g hg e => (HN2.out g hg).2.1 (by injection e with e; injection e with e; exact e.symm)
            go_wp2
            go_roundw
            case rel => exact ⟨n + 1, some ⟨gW, 0, none⟩, cW, by omega, by go_num, by rw [HWE.out], by rw [HWE.out]; exact HRW, HNW, HO, HB⟩
            case measure => simp [intOf]; omega
      · obtain rfl : n = 3 := by omega
        obtain ⟨x0, x1⟩ := XB.out wr HB.out
        have lM := HMO.out 3 (by omega)
        have CW := Lib.hid (impl_without Wb.heap.size Wb (kk : Int) _ (MT 3) (by omega) (fun x hx => by have := HWD.out x hx; omega) wr HB.out (by omega) HO.out)
        rw [HFN.out] at CW
        have hb0 : ¬ (((3 : Nat) : Int) + 1 ≤ 3) := by omega
        clear HRA HNE HO HLN HPOS HLE HSZ HMO HWD HFN HL0
        go_wp2_with fail
        refine CW.out.mono ?_
        rintro e w4 ⟨v4, rfl, ho4, b4⟩
        obtain ⟨G4, c4, rfl, hown⟩ := ho4
        have h5 := RB.out w4 b4
        obtain ⟨d0, d1, d2⟩ := sh_cells h5
        have HH := Lib.hid h5
        have HOW := Lib.hid hown
        have B4 := Lib.hid b4
        clear h5 hown b4 CW
        obtain ⟨M, hM⟩ : ∃ M, (R.getD (0, [])).1 = M := ⟨_, rfl⟩
        obtain ⟨Y, hY⟩ : ∃ Y, (R.getD (0, [])).2 = Y := ⟨_, rfl⟩
        rw [hM, hY]
        rw [hY] at HOW
        have HMY : Hid ((R.getD (0, [])).1 = M ∧ (R.getD (0, [])).2 = Y) := Lib.hid ⟨hM, hY⟩
        clear hM hY
        go_wp2
        refine bodyPost_ret (results_sh rfl _ _ (w.heap.size + 1) 26 #[.int .i64 M, .slice G4 Y.length c4] (0, 0) _ rfl (sh_stores HH.out) Tryz.underlying26 rfl (by kernel_rfl)) rfl ?_
        refine ⟨_, rfl, ⟨G4, c4, ?_, ?_⟩, below_stores (BB.out w4 B4.out) (by omega) _ _⟩
        · rw [HMY.out.1, HMY.out.2]
        · rw [HMY.out.2]
          exact World.ownsRow.mono (owns_stores HOW.out (by omega)) (by omega)
end Go.Proofs.YtalclebehbdliaaGreat
