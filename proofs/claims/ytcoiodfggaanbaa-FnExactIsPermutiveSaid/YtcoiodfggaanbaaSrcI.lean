/-
  The program's list of the sources of a word: letter by letter, what the code takes elsewhere struck; as the plain list says, in new memory; nothing that was there before is changed.
-/
import Derived.Test.YtcoiodfggaanbaaSrcNum
import Derived.Test.YtcoiodfggaanbaaCodeIB
import Derived.Test.YtcoiodfggaanbaaStrike
import Derived.Test.YtcoiodfggaanbaaWordsOf
import Derived.Test.YtcoiodfggaanbaaLongerB
import Derived.Shelf.Abstract
import Derived.Lib.AtoiErrMem
import Derived.Laws.EntriesVeiled
namespace Go.Proofs.Ytcoiodfggaanbaa
open Go Go.RowKit Go.Shelf

set_option maxRecDepth 100000 in
set_option maxHeartbeats 800000 in
theorem longer_none (k : Nat) (w : World) :
    Calls Try.prog 92 #[.slice none 0 0, .int .i64 k] w (ListPost [] w) := by
  obtain ⟨i0, hi, hz0, hz1, hz2⟩ := info_parts infoStr
  have hcast : (0 : Int) * (k : Int) = ((0 : Nat) : Int) := by simp
  have HC := Lib.hid hcast
  have hw1 : IntKind.i64.wrap ((0 : Int) * (k : Int)) = 0 := by rw [hcast]; rfl
  have hw2 : wrap64 ((0 : Int) * (k : Int)) = 0 := by rw [hcast]; exact small_wrapI (by omega)
  clear hcast
  go_enter Try.func92, Try.ntmps92
  go_wp2_with (at_make; refine wpList_make_own _ rfl _ _ 56 rfl w.heap.size 9 i0 (.string ByteArray.empty) 1 Try.underlying56 hi hz0 hz1 .i64 .i64 _ 0 rfl rfl (by simp) (by rw [hz2]; omega) (by unfold maxLen; omega) (Nat.le_refl _) ?_; intro w1 hown hgrow)
  have HB0 := Lib.hid ((Below.refl w.heap.size w).grown hgrow (Nat.le_refl _) (fun k hk => by cases hk))
  have HO0 := Lib.hid hown
  clear hown hgrow hw1 hw2
  go_wp2
  go_loopw [5, 16] (fun v i wr => i = .int .i64 0 ∧ wr.ownsRow w.heap.size 9 1 v 0 [] ∧ Below w.heap.size w wr) (fun _ _ _ => 0)
  case atStart => exact ⟨rfl, HO0.out, HB0.out⟩
  case round =>
    obtain ⟨rfl, ho, hbl⟩ := hrel
    have HO := Lib.hid ho
    have HB := Lib.hid hbl
    clear ho hbl
    go_wp2
    go_ret
    exact ⟨_, rfl, HO.out, HB.out⟩
theorem longer_list (B m k : Nat) (ws : List ByteArray) (hk : k ≤ 3) (hm : m ≤ 16) (hl : ws.length ≤ 20000) (hz : ∀ x ∈ ws, x.size = m) (v : Value) (w : World) (ho : w.ownsRow B 9 1 v ws.length (ws.map Value.string)) :
    Calls Try.prog 92 #[v, .int .i64 k] w (ListPost (longer ws k) w) := by
  rcases ho.2 with ⟨rfl, h0⟩ | ⟨b, c, cur, rfl, _, _, _⟩
  · obtain rfl : ws = [] := List.eq_nil_of_length_eq_zero h0
    exact longer_none k w
  · exact impl_longerB b c m k ws hk (by omega) hl hz w (StrsAt.of_owns ho rfl) (ho.lt b rfl).2

set_option maxRecDepth 100000 in
theorem impl_shortFor (K N : Int) (o v : ByteArray) (ho : o.size ≤ 1099511627776) (hv : v.size ≤ 1099511627776) (w : World) :
    Calls Try.prog 50 #[.agg #[.int .i64 K, .int .i64 N, .string o], .string v] w (Says (.bool (fitsB K N o v)) w) := by
  have hk := codeIn_new w K N o
  have HK := Lib.hid hk
  have c0 := hk.c0
  have c1 := hk.c1
  have c2 := hk.c2
  have HB0 := Lib.hid ((Below.refl w.heap.size w).alloc (Nat.le_refl _) (.cells #[.int .i64 K, .int .i64 N, .string o] 25))
  have HF := Lib.hid (impl_codeFor K N o v ho hv)
  clear hk
  cases h1 : appOk K N o v with
  | false =>
    rw [h1] at HF
    have HN : Hid (fitsB K N o v = false) := Lib.hid (by unfold fitsB; rw [h1]; rfl)
    clear h1
    go_enter Try.func50, Try.ntmps50
    go_wp2_with fail
    refine (HF.out _).mono ?_
    rintro e w1 ⟨rfl, hb1⟩
    have HB1 := Lib.hid (HB0.out.trans (hb1.mono HB0.out.size))
    clear hb1
    go_wp2
    go_ret
    exact ⟨by simp [HN.out], HB1.out⟩
  | true =>
    rw [h1] at HF
    have HN : Hid (fitsB K N o v = decide (v.size ≤ 8)) := Lib.hid (by unfold fitsB; rw [h1]; rfl)
    clear h1
    go_enter Try.func50, Try.ntmps50
    go_wp2_with fail
    refine (HF.out _).mono ?_
    rintro e w1 ⟨rfl, hb1⟩
    have HB1 := Lib.hid (HB0.out.trans (hb1.mono HB0.out.size))
    clear hb1
    go_wp2
    go_ret
    exact ⟨by simp [HN.out]; omega, HB1.out⟩

theorem enters_hit : ∀ args w, (callFunc 101 args).run Try.prog w = .ok (.enter 101 args) w := enters_of Try.func101 (by kernel_rfl) rfl

set_option maxRecDepth 100000 in
set_option maxHeartbeats 800000 in
theorem hit_at (k n i ga gi gw g : Nat) (o w x : ByteArray) (ok : CodeOk k n o) (hi : i < w.size) (hw : w.size ≤ 8) (hx : x.size = i + n) (ha : allL (k : Int) x = true) (W : World)
    (c1 : W.cell? ⟨ga, 0, none⟩ = some (.func (.func 121) #[] #[.pointer (some ⟨g, 0, none⟩)]))
    (c2 : W.cell? ⟨gi, 0, none⟩ = some (.int .i64 (i : Int))) (c3 : W.cell? ⟨gw, 0, none⟩ = some (.string w)) (hg : CodeIn W g (k : Int) (n : Int) o) :
    Calls Try.prog 101 #[.string x, .pointer (some ⟨ga, 0, none⟩), .pointer (some ⟨gi, 0, none⟩), .pointer (some ⟨gw, 0, none⟩)] W (BoolPost (hitB k n o w i x) W) := by
  have n1 := ok.n1
  have n4 := ok.n4
  have HG := Lib.hid hg
  have HX := Lib.hid (fun w' h => impl_coding k n g o (x.extract i x.size) ok (by rw [ByteArray.size_extract]; omega) (extract_all ha _ _) w' h)
  have HT : Hid (hitB k n o w i x = !((applied k n o (x.extract i x.size)).toList == (w.extract i (i + 1)).toList)) := Lib.hid rfl
  have g0 : (0 : Int) ≤ (i : Int) := by omega
  have g1 : (i : Int) ≤ (x.size : Int) := by omega
  have g2 : (i : Int) ≤ (i : Int) + 1 := by omega
  have g3 : (i : Int) + 1 ≤ (w.size : Int) := by omega
  have e1 : wrap64 ((i : Int) + 1) = (i : Int) + 1 := small_wrapI (by omega)
  have e2 : IntKind.i64.wrap ((i : Int) + 1) = (i : Int) + 1 := by rw [IntKind.wrap_i64]; omega
  clear hg ok ha hx hi
  generalize applied k n o (x.extract i x.size) = y at *
  go_enter Try.func101, Try.ntmps101
  go_wp2
  go_region_held3 (fun w' => w'.cell? ⟨ga, 0, none⟩ = some (.func (.func 121) #[] #[.pointer (some ⟨g, 0, none⟩)]) ∧ w'.cell? ⟨gi, 0, none⟩ = some (.int .i64 (i : Int)) ∧ w'.cell? ⟨gw, 0, none⟩ = some (.string w)) (first | exact ⟨c1, c2, c3⟩ | exact ⟨d1, d2, d3⟩ | go_keep) (first | (go_at_call 121; refine (HX.out _ (HG.out.below (drewN_below (Below.refl _ _) 1))).mono ?_; rintro e w9 ⟨rfl, hb9⟩; have HB9 : Hid (Below W.heap.size W w9) := Lib.hid ((drewN_below (Below.refl _ _) 1).trans hb9); have d1 := (HB9.out.cell (p := ⟨ga, 0, none⟩) (Lib.lt_of_cell c1)).trans c1; have d2 := (HB9.out.cell (p := ⟨gi, 0, none⟩) (Lib.lt_of_cell c2)).trans c2; have d3 := (HB9.out.cell (p := ⟨gw, 0, none⟩) (Lib.lt_of_cell c3)).trans c3; clear hb9))
  go_wp2
  go_ret
  exact ⟨by simp [HT.out], HB9.out⟩

theorem src_pow {k n i : Nat} (ok : FormOk k n) (hi : i ≤ 7) : k ^ (n - 1 + i) ≤ 20000 := by
  have k2 := ok.k2
  have k3 := ok.k3
  have n1 := ok.n1
  have n4 := ok.n4
  have hk : k = 2 ∨ k = 3 := by omega
  rcases hk with rfl | rfl
  · exact Nat.le_trans (Nat.pow_le_pow_right (by decide) (show n - 1 + i ≤ 10 by omega)) (by decide)
  · have hn : n ≤ 3 := by
      by_cases h : n ≤ 3
      · exact h
      · have e : n = 4 := by omega
        subst e
        exact absurd ok.le (by decide)
    exact Nat.le_trans (Nat.pow_le_pow_right (by decide) (show n - 1 + i ≤ 9 by omega)) (by decide)

/-- What lies below while the sources are listed: the code, the word, the code again (the function value's), the function value. -/
structure SrcBox (W : World) (H k n : Nat) (o v : ByteArray) : Prop where
  c0 : W.cell? ⟨H, 0, none⟩ = some (.int .i64 (k : Int))
  c1 : W.cell? ⟨H, 1, none⟩ = some (.int .i64 (n : Int))
  cw : W.cell? ⟨H + 1, 0, none⟩ = some (.string v)
  ca : W.cell? ⟨H + 1 + 1 + 1, 0, none⟩ = some (.func (.func 121) #[] #[.pointer (some ⟨H + 1 + 1, 0, none⟩)])
  code : CodeIn W (H + 1 + 1) (k : Int) (n : Int) o
  size : H + 4 ≤ W.heap.size
theorem SrcBox.below {W W' : World} {H k n : Nat} {o v : ByteArray} (h : SrcBox W H k n o v) (hb : Below (H + 4) W W') : SrcBox W' H k n o v :=
  ⟨(hb.cell (p := ⟨H, 0, none⟩) (by show H < _; omega)).trans h.c0, (hb.cell (p := ⟨H, 1, none⟩) (by show H < _; omega)).trans h.c1, (hb.cell (p := ⟨H + 1, 0, none⟩) (by show H + 1 < _; omega)).trans h.cw,
    (hb.cell (p := ⟨H + 1 + 1 + 1, 0, none⟩) (by show H + 1 + 1 + 1 < _; omega)).trans h.ca, h.code.later hb (by omega), Nat.le_trans h.size hb.size⟩
theorem alloc_old {w : World} {p : Addr} {x : Value} (o : Obj) (h : w.cell? p = some x) : (w.alloc o).cell? p = some x :=
  (((Below.refl w.heap.size w).alloc (Nat.le_refl _) o).cell (Lib.lt_of_cell h)).trans h
theorem srcBox_new (w : World) (k n : Nat) (o v : ByteArray) :
    SrcBox ((((w.alloc (.cells #[.int .i64 (k : Int), .int .i64 (n : Int), .string o] 25)).alloc (.cells #[.string v] 9)).alloc (.cells #[.int .i64 (k : Int), .int .i64 (n : Int), .string o] 25)).alloc (.cells #[.func (.func 121) #[] #[.pointer (some ⟨w.heap.size + 1 + 1, 0, none⟩)]] 114)) w.heap.size k n o v := by
  obtain ⟨w1, e1⟩ : ∃ w1, w1 = w.alloc (.cells #[.int .i64 (k : Int), .int .i64 (n : Int), .string o] 25) := ⟨_, rfl⟩
  have k1 := codeIn_new w (k : Int) (n : Int) o
  have s1 : w1.heap.size = w.heap.size + 1 := by rw [e1, World.size_alloc]
  rw [← e1] at k1 ⊢
  clear e1
  obtain ⟨w2, e2⟩ : ∃ w2, w2 = w1.alloc (.cells #[.string v] 9) := ⟨_, rfl⟩
  have k2 : w2.cell? ⟨w.heap.size + 1, 0, none⟩ = some (.string v) := by
    have h := cell_one_new w1 (.string v) 9 0 (.string v) rfl
    rw [s1] at h
    rw [e2]; exact h
  have k12 := k1.below (e2 ▸ (Below.refl w1.heap.size w1).alloc (Nat.le_refl _) _ : Below w1.heap.size w1 w2)
  have s2 : w2.heap.size = w.heap.size + 1 + 1 := by rw [e2, World.size_alloc, s1]
  rw [← e2]
  clear e2
  obtain ⟨w3, e3⟩ : ∃ w3, w3 = w2.alloc (.cells #[.int .i64 (k : Int), .int .i64 (n : Int), .string o] 25) := ⟨_, rfl⟩
  have k3 := codeIn_new w2 (k : Int) (n : Int) o
  rw [s2] at k3
  have k13 := alloc_old (.cells #[.int .i64 (k : Int), .int .i64 (n : Int), .string o] 25) k12.c0
  have k13b := alloc_old (.cells #[.int .i64 (k : Int), .int .i64 (n : Int), .string o] 25) k12.c1
  have k23 := alloc_old (.cells #[.int .i64 (k : Int), .int .i64 (n : Int), .string o] 25) k2
  have s3 : w3.heap.size = w.heap.size + 1 + 1 + 1 := by rw [e3, World.size_alloc, s2]
  rw [← e3] at k3 k13 k13b k23 ⊢
  clear e3
  have k4 := cell_one_new w3 (.func (.func 121) #[] #[.pointer (some ⟨w.heap.size + 1 + 1, 0, none⟩)]) 114 0 _ rfl
  rw [s3] at k4
  exact ⟨alloc_old _ k13, alloc_old _ k13b, alloc_old _ k23, k4, k3.below ((Below.refl w3.heap.size w3).alloc (Nat.le_refl _) _), by rw [World.size_alloc, s3]; omega⟩

set_option maxRecDepth 100000 in
set_option maxHeartbeats 1600000 in
theorem impl_sourcesOf (k n : Nat) (o v : ByteArray) (ok : CodeOk k n o) (hv : v.size ≤ 8) (ha : allL (k : Int) v = true) (w : World) :
    Calls Try.prog 51 #[.agg #[.int .i64 (k : Int), .int .i64 (n : Int), .string o], .string v] w (ListPost (srcs k n o v v.size) w) := by
  have hk := codeIn_new w (k : Int) (n : Int) o
  have HK := Lib.hid hk
  have c0 := hk.c0
  have c1 := hk.c1
  have c2 := hk.c2
  have hb0 := (Below.refl w.heap.size w).alloc (Nat.le_refl _) (.cells #[.int .i64 (k : Int), .int .i64 (n : Int), .string o] 25)
  have HM := Lib.hid (impl_codingOf (k : Int) (n : Int) o)
  have n1 := ok.n1
  have n4 := ok.n4
  have k3 := ok.k3
  have e1 : wrap64 ((n : Int) - 1) = ((n - 1 : Nat) : Int) := by rw [small_wrapI (by omega)]; omega
  have e2 : IntKind.i64.wrap ((n : Int) - 1) = ((n - 1 : Nat) : Int) := by rw [IntKind.wrap_i64]; omega
  have HW : Hid (∀ w', Calls Try.prog 57 #[.int .i64 (k : Int), .int .i64 ((n - 1 : Nat) : Int)] w' (ListPost (allW k (n - 1)) w')) := Lib.hid fun w' => by
    have h := impl_wordsOf (k : Int) ((n - 1 : Nat) : Int) w'
    rwa [wordsOf_yes (by have := ok.k2; omega) k3 (by omega) (Nat.le_trans (Nat.pow_le_pow_right (by have := ok.k2; omega) (by omega)) (Nat.le_trans ok.le (by decide)))] at h
  have HOK := Lib.hid ok
  have HA := Lib.hid ha
  have HSTEP : Hid (∀ i, i < v.size → (srcs k n o v i).length ≤ 20000 ∧ (∀ x ∈ srcs k n o v i, x.size = n - 1 + i) ∧ (longer (srcs k n o v i) k).length ≤ 1000000 ∧ (∀ x ∈ longer (srcs k n o v i) k, x.size = i + n ∧ allL (k : Int) x = true) ∧ srcs k n o v (i + 1) = (longer (srcs k n o v i) k).filter fun x => !hitB k n o v i x) := Lib.hid fun i hi => by
    have h1 := Nat.le_trans (srcs_le (k := k) (n := n) (o := o) (w := v) (by have := HOK.out.k2; omega) i) (src_pow HOK.out.toFormOk (by omega))
    have h2 := srcs_size (k := k) (o := o) (w := v) n1 i
    refine ⟨h1, h2, ?_, fun x hx => ⟨?_, longer_all k3 (srcs_all k3 i) x hx⟩, rfl⟩
    · rw [longer_length]
      have := Nat.mul_le_mul h1 k3
      omega
    · have := longer_size h2 x hx
      omega
  have HBOX := Lib.hid (srcBox_new w k n o v)
  have HB0 : Hid (Below w.heap.size w ((((w.alloc (.cells #[.int .i64 (k : Int), .int .i64 (n : Int), .string o] 25)).alloc (.cells #[.string v] 9)).alloc (.cells #[.int .i64 (k : Int), .int .i64 (n : Int), .string o] 25)).alloc (.cells #[.func (.func 121) #[] #[.pointer (some ⟨w.heap.size + 1 + 1, 0, none⟩)]] 114))) :=
    Lib.hid (((hb0.alloc hb0.size _).alloc (hb0.alloc hb0.size _).size _).alloc ((hb0.alloc hb0.size _).alloc (hb0.alloc hb0.size _).size _).size _)
  clear hk hb0 ok ha
  go_enter Try.func51, Try.ntmps51
  go_wp2_with fail
  refine (HM.out _).mono ?_
  rintro e w1 ⟨rfl, rfl⟩
  go_wp2_with fail
  generalize ((((w.alloc (.cells #[.int .i64 (k : Int), .int .i64 (n : Int), .string o] 25)).alloc (.cells #[.string v] 9)).alloc (.cells #[.int .i64 (k : Int), .int .i64 (n : Int), .string o] 25)).alloc (.cells #[.func (.func 121) #[] #[.pointer (some ⟨w.heap.size + 1 + 1, 0, none⟩)]] 114)) = W0 at *
  clear c0 c1 c2 HK
  refine (HW.out _).mono ?_
  rintro e w2 ⟨sv0, rfl, ho2, hb2⟩
  have HO2 := Lib.hid (ho2.mono HBOX.out.size)
  have HB2 := Lib.hid (hb2.mono HBOX.out.size)
  have cw := (HBOX.out.below HB2.out).cw
  clear ho2 hb2
  go_wp2
  go_loopw [6, 18] (fun xv iv wr => ∃ (i : Nat) (sv : Value), i ≤ v.size ∧ iv = .int .i64 (i : Int) ∧ sv = xv ∧ Hid (wr.ownsRow (w.heap.size + 4) 9 1 sv (srcs k n o v i).length ((srcs k n o v i).map Value.string)) ∧ Hid (Below (w.heap.size + 4) W0 wr)) (fun _ iv _ => v.size - (intOf iv).toNat)
  case atStart => exact ⟨0, _, Nat.zero_le _, rfl, rfl, HO2, HB2⟩
  case round =>
    clear cw
    obtain ⟨i, sv, hi, rfl, rfl, HO, HB⟩ := hrel
    have hbox := HBOX.out.below HB.out
    have c0 := hbox.c0
    have hsz := hbox.size
    have HBX := Lib.hid hbox
    clear hbox
    by_cases hlt : i < v.size
    · obtain ⟨h1, h2, h3, h4, h5⟩ := HSTEP.out i hlt
      have HL := Lib.hid (fun w' ho => longer_list (w.heap.size + 4) (n - 1 + i) k (srcs k n o v i) k3 (by omega) h1 h2 sv w' ho)
      have HX5 := Lib.hid h5
      have HX4 := Lib.hid h4
      have HX3 := Lib.hid h3
      clear h1 h2 h3 h4 h5
      have hba := (Below.refl wr.heap.size wr).alloc (Nat.le_refl _) (.cells #[.int .i64 (i : Int)] 3)
      have HBA := Lib.hid (HB.out.trans (hba.mono hsz))
      have c0' := alloc_old (.cells #[.int .i64 (i : Int)] 3) c0
      have ci := cell_one_new wr (.int .i64 (i : Int)) 3 0 (.int .i64 (i : Int)) rfl
      have HCI := Lib.hid (show (wr.alloc (.cells #[.int .i64 (i : Int)] 3)).cell? ⟨wr.heap.size, 0, none⟩ = some (.int .i64 (i : Int)) from ci)
      have HT : Hid (TestAt (wr.alloc (.cells #[.int .i64 (i : Int)] 3)).heap.size (wr.alloc (.cells #[.int .i64 (i : Int)] 3)) 101 #[.pointer (some ⟨w.heap.size + 1 + 1 + 1, 0, none⟩), .pointer (some ⟨wr.heap.size, 0, none⟩), .pointer (some ⟨w.heap.size + 1, 0, none⟩)] (hitB k n o v i) (fun x => x.size = i + n ∧ allL (k : Int) x = true)) := Lib.hid fun x W hx hW => by
        have hbW : Below (w.heap.size + 4) W0 W := HBA.out.trans (hW.mono (by rw [World.size_alloc]; omega))
        have hb3 := HBOX.out.below hbW
        exact hit_at k n i _ _ _ _ o v x HOK.out hlt hv hx.1 hx.2 W hb3.ca ((hW.cell (p := ⟨wr.heap.size, 0, none⟩) (by rw [World.size_alloc]; show wr.heap.size < _; omega)).trans HCI.out) hb3.cw hb3.code
      clear hba ci
      have HOA := Lib.hid (HO.out.alloc (.cells #[.int .i64 (i : Int)] 3))
      go_wp2_with fail
      refine (HL.out _ HOA.out).mono ?_
      rintro e w3 ⟨v3, rfl, ho3, hb3⟩
      have hs3 : w.heap.size + 4 ≤ (wr.alloc (.cells #[.int .i64 (i : Int)] 3)).heap.size := by rw [World.size_alloc]; omega
      have HS := Lib.hid (strike_list _ _ _ _ enters_hit _ _ HT.out (longer (srcs k n o v i) k) HX4.out HX3.out v3 w3 hb3 hb3.size ho3)
      have c0'' := (hb3.cell (p := ⟨w.heap.size, 0, none⟩) (by rw [World.size_alloc]; show w.heap.size < _; omega)).trans c0'
      clear ho3 hb3
      go_wp2_with fail
      refine HS.out.mono ?_
      rintro e w4 ⟨v4, rfl, ho4, hb4⟩
      rw [← HX5.out] at ho4
      have HO4 := Lib.hid (ho4.mono hs3)
      have HB4 := Lib.hid (HBA.out.trans (hb4.mono hs3))
      have cw4 := (HBOX.out.below HB4.out).cw
      clear ho4 hb4
      go_wp2
      go_roundw
      case rel => exact ⟨i + 1, _, by omega, by go_num, rfl, HO4, HB4⟩
      case measure => simp [intOf]; omega
    · obtain rfl : i = v.size := by omega
      go_wp2
      go_ret
      exact ⟨_, rfl, HO.out.mono (by omega), HB0.out.trans (HB.out.mono (by omega))⟩
end Go.Proofs.Ytcoiodfggaanbaa
