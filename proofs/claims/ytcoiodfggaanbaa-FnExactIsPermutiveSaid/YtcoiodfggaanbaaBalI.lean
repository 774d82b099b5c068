/-
  The program's IsBalanced: as the plain words say; nothing that was there before is changed.
-/
import Derived.Test.YtcoiodfggaanbaaBalNum
import Derived.Test.YtcoiodfggaanbaaSrcIB
import Derived.Deep.CutRange
namespace Go.Proofs.Ytcoiodfggaanbaa
open Go Go.RowKit Go.Shelf

theorem any_none {p : ByteArray → Bool} {ps : List ByteArray} (h : NoHit p ps ps.length) : ps.any p = false := by
  rw [List.any_eq_false]
  intro x hx
  obtain ⟨j, hj, rfl⟩ := List.getElem_of_mem hx
  have := h j hj
  rw [List.getD_eq_getElem?_getD, List.getElem?_eq_getElem hj, Option.getD_some] at this
  rw [this]; simp
theorem any_some {p : ByteArray → Bool} {ps : List ByteArray} {k : Nat} (hk : k < ps.length) (h : p (ps.getD k ByteArray.empty) = true) : ps.any p = true := by
  rw [List.any_eq_true]
  exact ⟨_, getD_mem hk, h⟩

set_option maxRecDepth 100000 in
theorem contains_strs (H0 : Nat) (W0 : World) (g : Nat) (lb : Array Value) (eg : ∀ args w, (callFunc g args).run Try.prog w = .ok (.enter g args) w) (p : ByteArray → Bool) (ok : ByteArray → Prop) (hp : TestAt H0 W0 g lb p ok) (b c : Nat) (ps : List ByteArray) (hok : ∀ x ∈ ps, ok x) (hn : ps.length ≤ 1000000) (w : World) (hw : Below H0 W0 w) (hH : H0 ≤ w.heap.size)
    (hs : StrsAt w b 0 ps) (hb : b < w.heap.size) :
    Calls Try.prog 63 #[.slice (some ⟨b, 0, none⟩) ps.length c, .func (.func g) #[] lb] w (BoolPost (ps.any p) w) := by
  have HI := Lib.hid (index_some H0 W0 g lb eg p ok hp b c ps hok hn w hw hH hs hb)
  clear hp hok hs hw
  go_enter Try.func63, Try.ntmps63
  go_wp2_with fail
  refine HI.out.mono ?_
  rintro e w1 ⟨hb1, ⟨rfl, hno⟩ | ⟨k, hk, rfl, hno, hit⟩⟩
  · have HB1 := Lib.hid hb1
    have HA := Lib.hid (any_none hno)
    clear hb1 hno
    go_wp2
    go_ret
    exact ⟨by rw [HA.out]; rfl, HB1.out⟩
  · have HB1 := Lib.hid hb1
    have HA := Lib.hid (any_some hk hit)
    have g0 : (0 : Int) ≤ (k : Int) := by omega
    clear hb1 hno hit
    go_wp2
    go_ret
    exact ⟨by rw [HA.out]; simp, HB1.out⟩

/-- A box that holds an integer. -/
def IntBox (w : World) (g : Nat) (a : Int) : Prop := w.heap[g]? = some (.cells #[.int .i64 a] 3 (0, 0))
theorem IntBox.lt {w : World} {g : Nat} {a : Int} (h : IntBox w g a) : g < w.heap.size := (Array.getElem?_eq_some_iff.1 h).1
theorem IntBox.c {w : World} {g : Nat} {a : Int} (h : IntBox w g a) : w.cell? ⟨g, 0, none⟩ = some (.int .i64 a) := by simp [World.cell?, show w.heap[g]? = _ from h]
theorem IntBox.f {w : World} {g : Nat} {a : Int} (h : IntBox w g a) : w.frozen? ⟨g, 0, none⟩ = false := by simp [World.frozen?, show w.heap[g]? = _ from h]
theorem IntBox.below {w w' : World} {g : Nat} {a : Int} (h : IntBox w g a) (hb : Below w.heap.size w w') : IntBox w' g a := (hb.block g h.lt).trans h
theorem intBox_new (w : World) (a : Int) : IntBox (w.alloc (.cells #[.int .i64 a] 3)) w.heap.size a := heap_alloc_new w _
theorem IntBox.set {w : World} {g : Nat} {a : Int} (h : IntBox w g a) (b : Int) : IntBox (w.setCell ⟨g, 0, none⟩ (.int .i64 b)) g b := heap_setCell_same w g 0 _ _ (.int .i64 b) h
theorem IntBox.drewBelow {w w' : World} {g : Nat} {a : Int} (h : IntBox w g a) (hb : Below w.drew.heap.size w.drew w') : IntBox w' g a := h.below ((Below.refl w.heap.size w).drew.trans hb)
theorem enters_bal : ∀ args w, (callFunc 64 args).run Try.prog w = .ok (.enter 64 args) w := enters_of Try.func64 (by kernel_rfl) rfl

set_option maxRecDepth 100000 in
set_option maxHeartbeats 800000 in
theorem bal_at (K N : Int) (o x : ByteArray) (a : Int) (gc ga : Nat) (ho : o.size ≤ 1099511627776) (hx : x.size ≤ 16) (W : World) (hg : CodeIn W gc K N o) (ca : W.cell? ⟨ga, 0, none⟩ = some (.int .i64 a)) :
    Calls Try.prog 64 #[.string x, .pointer (some ⟨gc, 0, none⟩), .pointer (some ⟨ga, 0, none⟩)] W (BoolPost (!(countS K N o x == a)) W) := by
  have c0 := hg.c0
  have c1 := hg.c1
  have c2 := hg.c2
  have HC := Lib.hid (impl_countSources K N o x ho (by omega))
  have HG := Lib.hid hg
  have hga : ga < W.heap.size := Lib.lt_of_cell ca
  clear hg
  generalize countS K N o x = z at *
  go_enter Try.func64, Try.ntmps64
  go_wp2
  go_region_held3 (fun w' => w'.cell? ⟨gc, 0, none⟩ = some (.int .i64 K) ∧ w'.cell? ⟨gc, 1, none⟩ = some (.int .i64 N) ∧ w'.cell? ⟨gc, 2, none⟩ = some (.string o) ∧ w'.cell? ⟨ga, 0, none⟩ = some (.int .i64 a)) (first | exact ⟨c0, c1, c2, ca⟩ | exact ⟨d0, d1, d2, da⟩ | go_keep) (first | (go_at_call 25; refine (HC.out _).mono ?_; rintro e w9 ⟨rfl, hb9⟩; have HB9 : Hid (Below W.heap.size W w9) := Lib.hid ((Below.refl W.heap.size W).drew.trans hb9); have d0 := (HG.out.below HB9.out).c0; have d1 := (HG.out.below HB9.out).c1; have d2 := (HG.out.below HB9.out).c2; have da := (HB9.out.cell (p := ⟨ga, 0, none⟩) hga).trans ca; clear hb9))
  go_wp2
  go_ret
  exact ⟨by simp; rfl, HB9.out⟩

set_option maxRecDepth 100000 in
set_option maxHeartbeats 1600000 in
theorem impl_isBalanced (K N : Int) (o : ByteArray) (m : Int) (ho : o.size ≤ 1099511627776) (w : World) :
    Calls Try.prog 27 #[.agg #[.int .i64 K, .int .i64 N, .string o], .int .i64 m] w (Says (.bool (balB K N o m)) w) := by
  have hk := codeIn_new w K N o
  have HK := Lib.hid hk
  have c0 := hk.c0
  have c1 := hk.c1
  have c2 := hk.c2
  have HB0 := Lib.hid ((Below.refl w.heap.size w).alloc (Nat.le_refl _) (.cells #[.int .i64 K, .int .i64 N, .string o] 25))
  have HI := Lib.hid (impl_isCode K N o ho)
  clear hk
  cases hc : isCodeB K N o with
  | false =>
    rw [hc] at HI
    have HR := Lib.hid (bal_no (m := m) hc)
    clear hc
    go_enter Try.func27, Try.ntmps27
    go_wp2_with fail
    refine (HI.out _).mono ?_
    rintro e w1 ⟨rfl, hb1⟩
    have HB1 := Lib.hid (HB0.out.trans (hb1.mono HB0.out.size))
    clear hb1
    go_wp2
    go_ret
    exact ⟨by rw [HR.out]; rfl, HB1.out⟩
  | true =>
    rw [hc] at HI
    by_cases h0 : m < 0
    · have HR := Lib.hid (bal_out (K := K) (N := N) (o := o) (m := m) (by omega))
      have g0 : decide (m < (0 : Int)) = true := decide_eq_true h0
      clear hc
      go_enter Try.func27, Try.ntmps27
      go_wp2_with fail
      refine (HI.out _).mono ?_
      rintro e w1 ⟨rfl, hb1⟩
      have HB1 := Lib.hid (HB0.out.trans (hb1.mono HB0.out.size))
      clear hb1
      go_wp2
      go_ret
      exact ⟨by rw [HR.out]; rfl, HB1.out⟩
    · have g0 : decide (m < (0 : Int)) = false := decide_eq_false h0
      by_cases h5 : 5 < m
      · have HR := Lib.hid (bal_out (K := K) (N := N) (o := o) (m := m) (by omega))
        have g5 : decide ((5 : Int) < m) = true := decide_eq_true h5
        clear hc
        go_enter Try.func27, Try.ntmps27
        go_wp2_with fail
        refine (HI.out _).mono ?_
        rintro e w1 ⟨rfl, hb1⟩
        have HB1 := Lib.hid (HB0.out.trans (hb1.mono HB0.out.size))
        clear hb1
        go_wp2
        go_ret
        exact ⟨by rw [HR.out]; rfl, HB1.out⟩
      · obtain ⟨mm, rfl⟩ := Int.eq_ofNat_of_zero_le (show 0 ≤ m by omega)
        have hm5 : mm ≤ 5 := by omega
        have g5 : decide ((5 : Int) < (mm : Int)) = false := decide_eq_false h5
        obtain ⟨k, n, rfl, rfl, ok⟩ := codeOk_of hc
        have k2 := ok.k2
        have k3 := ok.k3
        have HR := Lib.hid (bal_first ok hm5)
        have HW : Hid (∀ w', Calls Try.prog 57 #[.int .i64 (k : Int), .int .i64 (mm : Int)] w' (ListPost (allW k mm) w')) := Lib.hid fun w' => by
          have h := impl_wordsOf (k : Int) (mm : Int) w'
          rwa [wordsOf_yes (by omega) k3 (by omega) (Nat.le_trans (Nat.pow_le_pow_left k3 mm) (Nat.le_trans (Nat.pow_le_pow_right (by decide) hm5) (by decide : 3 ^ 5 ≤ 729)))] at h
        have HLEN : Hid (0 < (allW k mm).length ∧ (allW k mm).length ≤ 1000000) := Lib.hid (by
          rw [allW_length]
          exact ⟨Nat.pow_pos (by omega), Nat.le_trans (Nat.pow_le_pow_left k3 mm) (Nat.le_trans (Nat.pow_le_pow_right (by decide) hm5) (by decide : 3 ^ 5 ≤ 1000000))⟩)
        have HSZ : Hid (∀ x ∈ allW k mm, x.size ≤ 16) := Lib.hid fun x hx => by rw [allW_size k mm x hx]; omega
        have HCS := Lib.hid (fun x (hx : x.size ≤ 16) w' => impl_countSources (k : Int) (n : Int) o x ho (by omega) w')
        clear hc ok
        generalize allW k mm = ps at *
        go_enter Try.func27, Try.ntmps27
        go_wp2_with fail
        refine (HI.out _).mono ?_
        rintro e w1 ⟨rfl, hb1⟩
        have HB1 := Lib.hid (HB0.out.trans (hb1.mono HB0.out.size))
        have HK1 := Lib.hid (HK.out.below hb1)
        clear c0 c1 c2 hb1
        have c0 := HK1.out.c0
        have c1 := HK1.out.c1
        have c2 := HK1.out.c2
        go_wp2_with fail
        refine (HW.out _).mono ?_
        rintro e w2 hp2
        obtain ⟨g, cap, rfl, ho2, hb2⟩ := hp2.some HLEN.out.1
        have HB2 := Lib.hid (HB1.out.trans (hb2.mono HB1.out.size))
        have HK2 := Lib.hid (HK1.out.below hb2)
        have hst := StrsAt.of_owns ho2 rfl
        have hgl := (ho2.lt g rfl).2
        have HST := Lib.hid hst
        have kx := hst 0 HLEN.out.1
        rw [Nat.zero_add] at kx
        have HX16 := Lib.hid (HSZ.out _ (getD_mem HLEN.out.1))
        have HC0 := Lib.hid (HCS.out _ HX16.out)
        clear c0 c1 c2 hb2 hst ho2 hp2
        have c0 := HK2.out.c0
        have c1 := HK2.out.c1
        have c2 := HK2.out.c2
        have hl0 : (0 : Int) < (ps.length : Int) := by have := HLEN.out.1; omega
        have hl00 : 0 < ps.length := HLEN.out.1
        obtain ⟨x0, hx0⟩ : ∃ x0, ps.getD 0 ByteArray.empty = x0 := ⟨_, rfl⟩
        rw [hx0] at kx HC0 HR
        clear hx0
        obtain ⟨a, ha⟩ : ∃ a, countS (k : Int) (n : Int) o x0 = a := ⟨_, rfl⟩
        rw [ha] at HC0 HR
        clear ha
        have hne1 : w.heap.size ≠ w2.heap.size := Nat.ne_of_lt HK2.out.lt
        have hne2 : g ≠ w2.heap.size := Nat.ne_of_lt hgl
        go_upto_region 4 with (fail)
        go_cut [6] from 22 to 26 (fun sp wx => ∃ G, sp = .pointer (some ⟨G, 0, none⟩) ∧ Hid (IntBox wx G a ∧ Below w2.heap.size w2 wx))
        case first =>
          go_region_held3 (fun w' => w'.cell? ⟨w.heap.size, 0, none⟩ = some (.int .i64 (k : Int)) ∧ w'.cell? ⟨w.heap.size, 1, none⟩ = some (.int .i64 (n : Int)) ∧ w'.cell? ⟨w.heap.size, 2, none⟩ = some (.string o) ∧ w'.cell? ⟨g, 0, none⟩ = some (.string x0)) (first | exact ⟨c0, c1, c2, kx⟩ | exact ⟨d0, d1, d2, dx⟩ | exact ⟨cell_farC hne1 d0, cell_farC hne1 d1, cell_farC hne1 d2, cell_farC hne2 dx⟩ | go_keep) (first | (go_at_call 25; refine (HC0.out _).mono ?_; rintro e w9 ⟨rfl, hb9⟩; (first | (have HB9 : Hid (Below w2.heap.size w2 w9) := Lib.hid ((((Below.refl w2.heap.size w2).alloc (Nat.le_refl _) _).drew).trans (hb9.mono (by simp))); have HQ9 : Hid (IntBox w9 w2.heap.size 0) := Lib.hid ((intBox_new w2 0).drewBelow hb9); have qc := HQ9.out.c; have qf := HQ9.out.f) | (have HB9 : Hid (Below w2.heap.size w2 w9) := Lib.hid ((Below.refl w2.heap.size w2).drew.trans hb9))); have d0 := (HK2.out.below HB9.out).c0; have d1 := (HK2.out.below HB9.out).c1; have d2 := (HK2.out.below HB9.out).c2; have dx := (HB9.out.cell (p := ⟨g, 0, none⟩) hgl).trans kx; clear hb9))
          all_goals (
            go_wp2_with fail
            go_meet
            first | exact ⟨_, rfl, Lib.hid ⟨intBox_new _ _, HB9.out.alloc HB9.out.size _⟩⟩ | exact ⟨_, rfl, Lib.hid ⟨HQ9.out.set a, HB9.out.setCell (Nat.le_refl _) _⟩⟩)
        case rest =>
          obtain ⟨G, rfl, HG⟩ := hcut
          have HT : Hid (TestAt wc.heap.size wc 64 #[.pointer (some ⟨w.heap.size, 0, none⟩), .pointer (some ⟨G, 0, none⟩)] (fun x => !(countS (k : Int) (n : Int) o x == a)) (fun x => x.size ≤ 16)) := Lib.hid fun x W hx hW =>
            bal_at (k : Int) (n : Int) o x a _ _ ho hx W ((HK2.out.below HG.out.2).below hW) (HG.out.1.below hW).c
          have HS := Lib.hid (contains_strs _ _ _ _ enters_bal _ _ HT.out g cap ps HSZ.out HLEN.out.2 wc (Below.refl _ _) (Nat.le_refl _) (HST.out.below HG.out.2 hgl) (Nat.lt_of_lt_of_le hgl HG.out.2.size))
          have HE : Hid ((!(ps.any fun x => !(countS (k : Int) (n : Int) o x == a))) = balB (k : Int) (n : Int) o (mm : Int)) := Lib.hid (by rw [HR.out, List.not_any_eq_all_not]; simp)
          generalize (ps.any fun x => !(countS (k : Int) (n : Int) o x == a)) = b at *
          have HBc := Lib.hid (HB2.out.trans (HG.out.2.mono HB2.out.size))
          clear c0 c1 c2 kx
          go_wp2_with fail
          refine HS.out.mono ?_
          rintro e w10 ⟨rfl, hb10⟩
          have HB10 := Lib.hid (HBc.out.trans (hb10.mono HBc.out.size))
          clear hb10
          go_wp2
          go_ret
          exact ⟨by rw [← HE.out]; rfl, HB10.out⟩
end Go.Proofs.Ytcoiodfggaanbaa
