/-
  The model's try at a code that undoes another one at a place: as the plain words say; nothing that was there before is changed.
-/
import Derived.Test.YtcoiodfggaanbaaUndoTry
namespace Go.Proofs.Ytcoiodfggaanbaa
open Go Go.RowKit

theorem fits_let {F : ByteArray → ByteArray} {A : ByteArray → UInt8} {ws : List ByteArray} {j : Nat} {b : UInt8} (h : letTo F A ws j (F (ws.getD j ByteArray.empty)) = some b) (hb : b = A (ws.getD j ByteArray.empty)) : ∀ c, letTo F A ws j (F (ws.getD j ByteArray.empty)) = some c → c = A (ws.getD j ByteArray.empty) := fun c hc => by
  rw [h] at hc
  rw [← hb]; exact (Option.some.inj hc).symm
theorem fits_none {F : ByteArray → ByteArray} {A : ByteArray → UInt8} {ws : List ByteArray} {j : Nat} (h : letTo F A ws j (F (ws.getD j ByteArray.empty)) = none) : ∀ c, letTo F A ws j (F (ws.getD j ByteArray.empty)) = some c → c = A (ws.getD j ByteArray.empty) := fun c hc => by
  rw [h] at hc; cases hc
theorem undo_pow {k n m : Nat} (ok : FormOk k n) (okm : FormOk k m) : k ^ (n + m - 1) ≤ 729 := by
  have k2 := ok.k2
  have k3 := ok.k3
  have n4 := ok.n4
  have m4 := okm.n4
  have hk : k = 2 ∨ k = 3 := by omega
  rcases hk with rfl | rfl
  · exact Nat.le_trans (Nat.pow_le_pow_right (by decide) (show n + m - 1 ≤ 7 by omega)) (by decide)
  · have hn : n ≤ 3 := by
      by_cases h : n ≤ 3
      · exact h
      · have e : n = 4 := by omega
        subst e
        exact absurd ok.le (by decide)
    have hm : m ≤ 3 := by
      by_cases h : m ≤ 3
      · exact h
      · have e : m = 4 := by omega
        subst e
        exact absurd okm.le (by decide)
    exact Nat.le_trans (Nat.pow_le_pow_right (by decide) (show n + m - 1 ≤ 5 by omega)) (by decide)
theorem undo_powTo {k n m : Nat} (ok : FormOk k n) (okm : FormOk k m) : ∀ i, i ≤ n + m - 1 → k ^ i ≤ 729 := fun i hi =>
  Nat.le_trans (Nat.pow_le_pow_right (by have := ok.k2; omega) hi) (undo_pow ok okm)
theorem u8_pos {b : UInt8} (h : 97 ≤ b.toNat) : ((b.toNat : Int) == 0) = false ∧ ((b.toNat : Int) != 0) = true := by
  have e : ((b.toNat : Int) == 0) = false := by rw [beq_eq_false_iff_ne]; omega
  exact ⟨e, by rw [bne, e]; rfl⟩
theorem u8_eq {a b : UInt8} : ((a.toNat : Int) == (b.toNat : Int)) = decide (a = b) := by
  by_cases h : a = b
  · rw [h]; simp
  · rw [decide_eq_false h, beq_eq_false_iff_ne]
    exact fun e => h (UInt8.toNat_inj.1 (by omega))

def zerosU (i : Nat) : List UInt8 := List.replicate i 0
theorem own_belowU {w w' : World} {B e n S : Nat} {v : Value} {xs : List Value} (h : w.ownsRow B e 1 v n xs) (hb : Below S w w') (hv : ∀ g, v.ownBlock = some g → g < S) : w'.ownsRow B e 1 v n xs := by
  rcases h.2 with ⟨rfl, h0⟩ | ⟨g, cap, cur, rfl, h3, h4, h5⟩
  · exact ⟨h.1, .inl ⟨rfl, h0⟩⟩
  · have hg := hv g rfl
    refine ⟨h.1, .inr ⟨g, cap, cur, rfl, h3, ?_, h5⟩⟩
    rw [hb.block g hg]; exact h4
theorem owns_drewU {w : World} {B e s n : Nat} {v : Value} {xs : List Value} (h : w.ownsRow B e s v n xs) (q : Nat) : (w.drewN q).ownsRow B e s v n xs := h
theorem strs_drewU {w : World} {g : Nat} {xs : List ByteArray} (h : StrsAt w g 0 xs) (q : Nat) : StrsAt (w.drewN q) g 0 xs := h
theorem strs_farU {w : World} {g go p : Nat} {v : Value} {xs : List ByteArray} (h : StrsAt w g 0 xs) (hne : g ≠ go) : StrsAt (w.setCell ⟨go, p, none⟩ v) g 0 xs := fun j hj =>
  (World.cell?_of_block (heap_setCell_other w ⟨go, p, none⟩ g v hne)).trans (h j hj)
theorem cell_one_newU (w : World) (v : Value) (t : TypeId) : ∀ (j : Nat) (u : Value), [v][j]? = some u → (w.alloc (.cells #[v] t)).cell? ((⟨w.heap.size, 0, none⟩ : Addr).add j) = some u := by
  intro j u hj
  cases j with
  | zero =>
    simp at hj
    subst hj
    have e : (⟨w.heap.size, 0, none⟩ : Addr).add 0 = ⟨w.heap.size, 0, none⟩ := by simp [Addr.add]
    rw [e]
    unfold World.cell?; rw [heap_alloc_new w _]; rfl
  | succ j => simp at hj
theorem zerosU_next (i : Nat) : cellsB (zerosU (i + 1)) = cellsB (zerosU i) ++ [.int .u8 0] := by
  unfold zerosU
  rw [List.replicate_succ', ← cellsB_append]; rfl
theorem sum_wrapsU {n m L : Nat} (n1 : 1 ≤ n) (n4 : n ≤ 4) (m4 : m ≤ 4) (hL : n + m - 1 = L) : wrap64 ((n : Int) + (m : Int)) = (n : Int) + (m : Int) ∧ wrap64 ((n : Int) + (m : Int) - 1) = (L : Int) := by
  refine ⟨small_wrap (by omega), ?_⟩
  rw [show (n : Int) + (m : Int) - 1 = (L : Int) by omega]
  exact small_wrap (by omega)

set_option maxRecDepth 100000 in
set_option maxHeartbeats 6400000 in
theorem spec_try (k n m a : Nat) (o : ByteArray) (ok : CodeOk k n o) (okm : FormOk k m) (ha : a < n + m - 1) (w : World) :
    Calls Try.prog 75 #[.agg #[.int .i64 (k : Int), .int .i64 (n : Int), .string o], .int .i64 (m : Int), .int .i64 (a : Int)] w (Says (.tuple #[.string (if clashB (undoFA k n o) (undoAA a) (allW k (n + m - 1)) = true then ⟨#[]⟩ else undoO k n o m a), .bool (!clashB (undoFA k n o) (undoAA a) (allW k (n + m - 1)))]) w) := by
  obtain ⟨i0, hi0, hz0, hz1, hz2⟩ := info_parts infoByteU
  have n1 := ok.n1
  have n4 := ok.n4
  have m1 := okm.n1
  have m4 := okm.n4
  have k2 := ok.k2
  have k3 := ok.k3
  have hp27 : k ^ m ≤ 27 := okm.le
  have HP := Lib.hid (fun w' => spec_codePow k m k3 m4 w')
  have HALL := Lib.hid (fun w' => spec_all k (n + m - 1) (by omega) k3 (by omega) (undo_powTo ok.toFormOk okm) w')
  have hl : (allW k (n + m - 1)).length ≤ 729 ∧ 0 < (allW k (n + m - 1)).length := by rw [allW_length]; exact ⟨undo_pow ok.toFormOk okm, Nat.pow_pos (by omega)⟩
  have HSZ : Hid (∀ x ∈ allW k (n + m - 1), x.size = n + m - 1) := Lib.hid (allW_size k _)
  have HAL : Hid (∀ x ∈ allW k (n + m - 1), x.data.toList.all (isL (k : Int)) = true) := Lib.hid (allW_all k3 _)
  have HAPP : Hid (∀ x ∈ allW k (n + m - 1), ∀ w', Calls Try.prog 68 #[.agg #[.int .i64 (k : Int), .int .i64 (n : Int), .string o], .string x] w' (Says (.string (undoFA k n o x)) w')) := Lib.hid fun x hx w' =>
    spec_apply k n o x ok (by rw [allW_size k _ x hx]; omega) (allW_all k3 _ x hx) w'
  have HPART : Hid (∀ x ∈ allW k (n + m - 1), ∃ p, p < k ^ m ∧ undoFA k n o x = wdA k m p ∧ ∀ w', Calls Try.prog 108 #[.int .i64 (k : Int), .string (undoFA k n o x)] w' fun e w'' => e = .returned (.int .i64 (p : Int)) ∧ w'' = w') := Lib.hid fun x hx => by
    have h1 : (undoFA k n o x).size = m := by unfold undoFA; rw [applied_size, allW_size k _ x hx]; omega
    have h2 : (undoFA k n o x).data.toList.all (isL (k : Int)) = true := applied_all ok (allW_all k3 _ x hx)
    obtain ⟨p, hp, e⟩ := wd_of_mem ((mem_allW k k3 m _).2 ⟨h1, h2⟩)
    refine ⟨p, hp, e, fun w' => ?_⟩
    have h := spec_number k m (undoFA k n o x) k3 m4 h1 h2 w'
    rwa [show idxB k (undoFA k n o x) = p by rw [e]; exact wd_idx (by omega) k3 m hp] at h
  have HOUT : Hid (undoO k n o m a = ⟨(fillU (undoFA k n o) (undoAA a) (allW k (n + m - 1)) k m (k ^ m)).toArray⟩) := Lib.hid fillU_all.symm
  have H0 := Lib.hid (outU_zero (undoFA k n o) (undoAA a) (allW k (n + m - 1)) k m)
  have HF0 := Lib.hid (fillU_zero (undoFA k n o) (undoAA a) (allW k (n + m - 1)) k m)
  have HOL := Lib.hid (outU_len (undoFA k n o) (undoAA a) (allW k (n + m - 1)) k m)
  have HFL := Lib.hid (fillU_len (undoFA k n o) (undoAA a) (allW k (n + m - 1)) k m)
  have hk := codeIn_new w (k : Int) (n : Int) o
  have HK := Lib.hid hk
  have c0 := hk.c0
  have c1 := hk.c1
  have c2 := hk.c2
  have HB0 := Lib.hid ((Below.refl w.heap.size w).alloc (Nat.le_refl _) (.cells #[.int .i64 (k : Int), .int .i64 (n : Int), .string o] 25))
  have HLEN := Lib.hid hl
  obtain ⟨L, hL⟩ : ∃ L, n + m - 1 = L := ⟨_, rfl⟩
  have haL : a < L := by omega
  have hL7 : L ≤ 7 := by omega
  have HKP : Hid (0 < k) := Lib.hid (by omega)
  have HSUM : Hid ((n : Int) + (m : Int) - 1 = (L : Int)) := Lib.hid (by omega)
  rw [hL] at HALL HLEN HSZ HAL HAPP HPART HOUT H0 HF0 HOL HFL ⊢
  clear hk hl hL ok okm ha
  obtain ⟨W0, hW0⟩ : ∃ W0, w.alloc (.cells #[.int .i64 (k : Int), .int .i64 (n : Int), .string o] 25) = W0 := ⟨_, rfl⟩
  have HW := Lib.hid hW0
  have HZ0 : Hid (W0.heap.size = w.heap.size + 1) := Lib.hid (by rw [← hW0]; exact World.size_alloc _ _)
  rw [hW0] at c0 c1 c2 HK HB0
  clear hW0
  have HK3 := Lib.hid k3
  obtain ⟨sR, hsR⟩ : ∃ s, (if clashB (undoFA k n o) (undoAA a) (allW k L) = true then ⟨#[]⟩ else undoO k n o m a) = s := ⟨_, rfl⟩
  obtain ⟨bR, hbR⟩ : ∃ b, (!clashB (undoFA k n o) (undoAA a) (allW k L)) = b := ⟨_, rfl⟩
  rw [hsR, hbR]
  have HSR := Lib.hid hsR
  have HBR := Lib.hid hbR
  clear hsR hbR
  generalize allW k L = ws at *
  obtain ⟨P, hP⟩ : ∃ P, k ^ m = P := ⟨_, rfl⟩
  rw [hP] at hp27 HP
  have HPP := Lib.hid hP
  clear hP
  have HM0 : Hid ((W0.alloc (.cells #[] 5)).ownsRow W0.heap.size 5 1 (.slice (some ⟨w.heap.size + 1, 0, none⟩) 0 0) 0 (cellsB (zerosU 0))) := Lib.hid (by
    have h := World.ownsRow_made (base := W0.heap.size) (e := 5) (size := 1) W0 #[] 0 (Nat.le_refl _) (by decide) rfl
    rw [← HZ0.out]
    exact h)
  have HM1 : Hid (Below W0.heap.size W0 (W0.alloc (.cells #[] 5))) := Lib.hid ((Below.refl _ _).alloc (Nat.le_refl _) _)
  go_enter Try.func75, Try.ntmps75
  go_wp2
  rw [HW.out]
  go_loopw [8, 9] (fun v iv wr => ∃ i : Nat, i ≤ P ∧ iv = .int .i64 (i : Int) ∧ Hid (wr.ownsRow W0.heap.size 5 1 v i (cellsB (zerosU i))) ∧ Hid (Below W0.heap.size W0 wr)) (fun _ iv _ => P - (intOf iv).toNat)
  case atStart => exact ⟨0, Nat.zero_le _, rfl, HM0, HM1⟩
  case round =>
    clear HM0 HM1
    obtain ⟨i, hi, rfl, HO, HB⟩ := hrel
    have HCr := Lib.hid (HK.out.below HB.out)
    clear c0 c1 c2
    have c0 := HCr.out.c0
    have c1 := HCr.out.c1
    have c2 := HCr.out.c2
    by_cases hlt : i < P
    · have hmp : P - (i + 1) < P - i := by omega
      have hs4 := HB.out.size
      have hi1000 : i ≤ 1000 := by omega
      go_wp2_with fail
      refine (HP.out _).mono ?_
      rintro e w1 ⟨rfl, rfl⟩
      obtain ⟨W3, rfl⟩ : ∃ W3 : World, W3 = w1 := ⟨_, rfl⟩
      go_wp2_with (at_builtin; refine wpList_append_own _ rfl (.tmp 23) (.tmp 24) 22 rfl W0.heap.size 5 i0 (.int .u8 0) 1 1 Try.underlying22 hi0 hz0 hz1 hz2 rfl (by decide) _ _ _ rfl (HO.out.alloc _) ⟨W3.heap.size, 0, none⟩ 1 1 [.int .u8 0] rfl rfl (cell_one_newU _ _ _) (by intro u hu; rw [List.mem_singleton] at hu; subst hu; rfl) (by unfold maxLen; omega) (by omega) (by simp; omega) ?_; intro v1 w6 ho1 hg1 _; have HBN := Lib.hid ((HB.out.alloc hs4 _).grown hg1 (by simp; omega) (fun k hk => (HO.out.lt k hk).1)); have HON : Hid (w6.ownsRow W0.heap.size 5 1 v1 (i + 1) (cellsB (zerosU (i + 1)))) := Lib.hid (by rw [zerosU_next]; exact ho1); clear ho1 hg1; obtain ⟨i3, i3b⟩ := one_wrapsR hi1000)
      go_wp2
      go_roundw
      case rel => exact ⟨i + 1, hlt, by go_num, HON, HBN⟩
      case measure => clear i3 i3b; simp [intOf]; omega
    · obtain rfl : i = P := by omega
      have HOZ : Hid (wr.ownsRow W0.heap.size 5 1 u8 i (cellsB (outU (undoFA k n o) (undoAA a) ws k m 0))) := Lib.hid (by rw [H0.out, HPP.out]; exact HO.out)
      clear HO H0
      go_wp2_with fail
      refine (HP.out _).mono ?_
      rintro e w1 ⟨rfl, rfl⟩
      go_wp2_with fail
      rw [HSUM.out]
      refine (HALL.out _).mono ?_
      rintro e w7 hp7
      obtain ⟨v7, rfl, ho7, hb7⟩ := hp7
      rcases ho7.2 with ⟨rfl, h0⟩ | ⟨g, cap, cur, rfl, _, _, _⟩
      · have := HLEN.out.2; omega
      have HST := Lib.hid (StrsAt.of_owns ho7 rfl)
      have hgg := ho7.lt g rfl
      have hform := HOZ.out.form (n := i) (by have := HPP.out; have := Nat.pow_pos (n := m) HKP.out; omega)
      obtain ⟨go, co, rfl, hg1, hg2⟩ := hform
      have HO7 := Lib.hid (own_belowU HOZ.out hb7 (fun g' hg' => by have : go = g' := Option.some.inj hg'; omega))
      have hne : g ≠ go := by omega
      have HB7 := Lib.hid (HB.out.trans (hb7.mono HB.out.size))
      have hgs := hgg.2
      have hgoW : W0.heap.size ≤ go := hg1
      clear hb7 ho7 hgg HOZ HB HCr c0 c1 c2
      go_wp2
      go_loopw [11] (fun jv wr => ∃ j : Nat, j ≤ ws.length ∧ jv = .int .i64 (j : Int) ∧ Hid (Fits (undoFA k n o) (undoAA a) ws j) ∧ Hid (wr.ownsRow W0.heap.size 5 1 (.slice (some ⟨go, 0, none⟩) i co) i (cellsB (outU (undoFA k n o) (undoAA a) ws k m j))) ∧ Hid (StrsAt wr g 0 ws) ∧ g < wr.heap.size ∧ Hid (Below W0.heap.size W0 wr)) (fun jv _ => ws.length - (intOf jv).toNat)
      case atStart => exact ⟨0, Nat.zero_le _, rfl, Lib.hid Fits.zero, HO7, HST, hgs, HB7⟩
      case round =>
        clear HO7 HST hgs HB7
        obtain ⟨j, hj, rfl, HFIT, HO, HST, hgs, HB⟩ := hrel
        have HCr := Lib.hid (HK.out.below HB.out)
        have c0 := HCr.out.c0
        have c1 := HCr.out.c1
        have c2 := HCr.out.c2
        by_cases hlt : j < ws.length
        · have hmem := getD_memR hlt
          have kx := HST.out j hlt
          rw [Nat.zero_add] at kx
          obtain ⟨p, hp, hpe, HNUM0⟩ := HPART.out _ hmem
          have hxs := HSZ.out _ hmem
          have HAPX := Lib.hid (HAPP.out _ hmem)
          have HPUT := Lib.hid (fun h => outU_set (A := undoAA a) hlt HKP.out HK3.out hp hpe h)
          have HFN := Lib.hid (fun h => HFIT.out.next hlt h)
          have HYES := Lib.hid (fun b h h2 => clash_yes (F := undoFA k n o) (A := undoAA a) hlt (b := b) h h2)
          have HAT := Lib.hid (outU_at (F := undoFA k n o) (A := undoAA a) (ws := ws) (j := j) hp)
          rw [HPP.out] at hp
          rw [← hpe] at HAT
          have HNUM := Lib.hid HNUM0
          have HXA : Hid (undoAA a (ws.getD j ByteArray.empty) = byteAt (ws.getD j ByteArray.empty) a) := Lib.hid rfl
          have hax : a < (ws.getD j ByteArray.empty).size := by rw [hxs]; exact haL
          have HIX : Hid ((ws.getD j ByteArray.empty)[a]'hax = undoAA a (ws.getD j ByteArray.empty)) := Lib.hid (byteAt_is hax).symm
          have HBIG : Hid (∀ b, letTo (undoFA k n o) (undoAA a) ws j (undoFA k n o (ws.getD j ByteArray.empty)) = some b → 97 ≤ b.toNat) := Lib.hid fun b hb => by
            obtain ⟨x', hx', -, h2⟩ := letTo_some hb
            have hm' := List.mem_of_mem_take hx'
            have h3 := (digit_lt (byteAt_all (HAL.out x' hm') (i := a) (by rw [HSZ.out x' hm']; exact haL))).1
            rw [← h2]; exact h3
          have HFX := Lib.hid (fun b (h : letTo (undoFA k n o) (undoAA a) ws j (undoFA k n o (ws.getD j ByteArray.empty)) = some b) (h2 : b = undoAA a (ws.getD j ByteArray.empty)) => fits_let (F := undoFA k n o) (A := undoAA a) h h2)
          have HFZ := Lib.hid (fun (h : letTo (undoFA k n o) (undoAA a) ws j (undoFA k n o (ws.getD j ByteArray.empty)) = none) => fits_none (F := undoFA k n o) (A := undoAA a) h)
          have kc := (HO.out.cellAt p (by omega)).trans (cellsB_at HAT.out)
          have kf := HO.out.frozenAt p
          have hST : ∀ W : World, W.ownsRow W0.heap.size 5 1 (.slice (some ⟨go, 0, none⟩) i co) i (cellsB (outU (undoFA k n o) (undoAA a) ws k m j)) → (outU (undoFA k n o) (undoAA a) ws k m j).set p (undoAA a (ws.getD j ByteArray.empty)) = outU (undoFA k n o) (undoAA a) ws k m (j + 1) → (W.setCell ⟨go, p, none⟩ (.int .u8 ((undoAA a (ws.getD j ByteArray.empty)).toNat : Int))).ownsRow W0.heap.size 5 1 (.slice (some ⟨go, 0, none⟩) i co) i (cellsB (outU (undoFA k n o) (undoAA a) ws k m (j + 1))) := fun W hW he => by
            have h := (hW.stored p (.int .u8 ((undoAA a (ws.getD j ByteArray.empty)).toNat : Int))).1
            rwa [cellsB_set, he] at h
          have HSTO := Lib.hid hST
          have p0 : (0 : Int) ≤ (p : Int) := by omega
          have p1 : (p : Int) < (i : Int) := by omega
          have a0 : (0 : Int) ≤ (a : Int) := by omega
          have a1 : (a : Int) < ((ws.getD j ByteArray.empty).size : Int) := by omega
          have j0 : (0 : Int) ≤ (j : Int) := by omega
          have j1 : (j : Int) < (ws.length : Int) := by omega
          have hmj : ws.length - (j + 1) < ws.length - j := by omega
          have hj1000 : j ≤ 1000 := by have := HLEN.out.1; omega
          have HLT := Lib.hid hlt
          have hgo := (HO.out.lt go rfl).2
          have HFIT2 := HFIT
          clear hST hmem hxs hlt HAT hpe HNUM0 HXA HFIT2
          generalize undoFA k n o (ws.getD j ByteArray.empty) = part at *
          obtain ⟨b0, hb0⟩ : ∃ b0, undoAA a (ws.getD j ByteArray.empty) = b0 := ⟨_, rfl⟩
          have HB0E := Lib.hid hb0
          have hI := HIX.out
          rw [hb0] at hI HPUT HFN HYES HFX HSTO HFZ
          clear hb0 HIX
          generalize ws.getD j ByteArray.empty = x at *
          generalize hlo : letTo (undoFA k n o) (undoAA a) ws j part = lo at *
          obtain ⟨W3, rfl⟩ : ∃ W3 : World, W3 = wr := ⟨_, rfl⟩
          go_wp2
          go_region_held3 (fun w' => w'.cell? ⟨w.heap.size, 0, none⟩ = some (.int .i64 (k : Int)) ∧ w'.cell? ⟨w.heap.size, 1, none⟩ = some (.int .i64 (n : Int)) ∧ w'.cell? ⟨w.heap.size, 2, none⟩ = some (.string o) ∧ w'.cell? ⟨g, j, none⟩ = some (.string x)) (first | exact ⟨c0, c1, c2, kx⟩ | exact ⟨d0, d1, d2, dx⟩ | go_keep) (first | (go_at_call 68; refine (HAPX.out _).mono ?_; rintro e w9 ⟨rfl, hb9⟩; have HB9 : Hid (Below W3.heap.size W3 w9) := Lib.hid ((Below.refl W3.heap.size W3).drew.trans hb9); have d0 := (HCr.out.below HB9.out).c0; have d1 := (HCr.out.below HB9.out).c1; have d2 := (HCr.out.below HB9.out).c2; have dx := (HB9.out.cell (p := ⟨g, j, none⟩) hgs).trans kx; clear hb9) | (go_at_call 108; refine (HNUM.out _).mono ?_; rintro e w10 ⟨rfl, rfl⟩))
          have HS9 := Lib.hid (HST.out.below HB9.out hgs)
          have HO9 := Lib.hid (own_belowU HO.out HB9.out (fun g' hg' => by have : go = g' := Option.some.inj hg'; omega))
          have HB10 := Lib.hid (HB.out.trans (HB9.out.mono HB.out.size))
          have hg10 : g < w10.heap.size := Nat.lt_of_lt_of_le hgs HB9.out.size
          have kc := (HB9.out.cell (p := ⟨go, p, none⟩) hgo).trans kc
          have kx := dx
          have HCs := Lib.hid (HCr.out.below HB9.out)
          clear d0 d1 d2 dx c0 c1 c2 HB HO HST hgs hgo HCr HAPX HNUM HB9
          have c0 := HCs.out.c0
          have c1 := HCs.out.c1
          have c2 := HCs.out.c2
          cases lo with
          | none =>
            have hz : (((none : Option UInt8).getD 0).toNat : Int) = 0 := rfl
            rw [hz] at kc
            have HPUTE := Lib.hid (HPUT.out (HFZ.out rfl))
            have HFN2 := Lib.hid (HFN.out (HFZ.out rfl))
            clear hlo
            go_wp2
            go_quiet (fail)
            obtain ⟨W4, hW4⟩ : ∃ W4, w10.drewN nq = W4 := ⟨_, rfl⟩
            have HSq : Hid (StrsAt W4 g 0 ws) := Lib.hid (by rw [← hW4]; exact strs_drewU HS9.out nq)
            have hoq : W4.ownsRow W0.heap.size 5 1 (.slice (some ⟨go, 0, none⟩) i co) i (cellsB (outU (undoFA k n o) (undoAA a) ws k m j)) := by rw [← hW4]; exact owns_drewU HO9.out nq
            have HBq : Hid (Below W0.heap.size W0 W4) := Lib.hid (by rw [← hW4]; exact drewN_below HB10.out nq)
            have kc4 : W4.cell? ⟨go, p, none⟩ = some (.int .u8 0) := by rw [← hW4]; exact kc
            have kx4 : W4.cell? ⟨g, j, none⟩ = some (.string x) := by rw [← hW4]; exact kx
            have kf4 := hoq.frozenAt p
            have HOq := Lib.hid hoq
            have hg4 : g < W4.heap.size := by rw [← hW4]; exact hg10
            rw [hW4]
            clear hW4 HS9 HO9 HB10 kc kf kx hg10 c0 c1 c2 hoq
            have HN := Lib.hid (HSTO.out W4 HOq.out HPUTE.out)
            have HSn := Lib.hid (strs_farU HSq.out (v := .int .u8 (b0.toNat : Int)) (p := p) hne)
            have HBn := Lib.hid (HBq.out.setCell (p := ⟨go, p, none⟩) hgoW (.int .u8 (b0.toNat : Int)))
            have hgn : g < (W4.setCell ⟨go, p, none⟩ (.int .u8 (b0.toNat : Int))).heap.size := by simpa using hg4
            have HGN := Lib.hid hgn
            clear hgn hg4
            obtain ⟨j3, j3b⟩ := one_wrapsR hj1000
            go_wp2
            go_roundw
            case rel => exact ⟨j + 1, HLT.out, by go_num, HFN2, HN, HSn, HGN.out, HBn⟩
            case measure => clear j3 j3b; simp [intOf]; omega
          | some b =>
            have hz : (((some b).getD 0).toNat : Int) = (b.toNat : Int) := rfl
            rw [hz] at kc
            have hb97 := HBIG.out b rfl
            obtain ⟨z1, z2⟩ := u8_pos hb97
            by_cases hbb : b = b0
            · have HPUTE := Lib.hid (HPUT.out (HFX.out b rfl hbb))
              have HFN2 := Lib.hid (HFN.out (HFX.out b rfl hbb))
              have q1 : ((b.toNat : Int) == (b0.toNat : Int)) = true := by rw [u8_eq]; exact decide_eq_true hbb
              have q2 : ((b.toNat : Int) != (b0.toNat : Int)) = false := by rw [bne, q1]; rfl
              clear hlo hz hb97 hbb
              go_wp2
              go_quiet (fail)
              obtain ⟨W4, hW4⟩ : ∃ W4, w10.drewN nq = W4 := ⟨_, rfl⟩
              have HSq : Hid (StrsAt W4 g 0 ws) := Lib.hid (by rw [← hW4]; exact strs_drewU HS9.out nq)
              have hoq : W4.ownsRow W0.heap.size 5 1 (.slice (some ⟨go, 0, none⟩) i co) i (cellsB (outU (undoFA k n o) (undoAA a) ws k m j)) := by rw [← hW4]; exact owns_drewU HO9.out nq
              have HBq : Hid (Below W0.heap.size W0 W4) := Lib.hid (by rw [← hW4]; exact drewN_below HB10.out nq)
              have kc4 : W4.cell? ⟨go, p, none⟩ = some (.int .u8 (b.toNat : Int)) := by rw [← hW4]; exact kc
              have kx4 : W4.cell? ⟨g, j, none⟩ = some (.string x) := by rw [← hW4]; exact kx
              have kf4 := hoq.frozenAt p
              have HOq := Lib.hid hoq
              have hg4 : g < W4.heap.size := by rw [← hW4]; exact hg10
              rw [hW4]
              clear hW4 HS9 HO9 HB10 kc kf kx hg10 c0 c1 c2 hoq
              have HN := Lib.hid (HSTO.out W4 HOq.out HPUTE.out)
              have HSn := Lib.hid (strs_farU HSq.out (v := .int .u8 (b0.toNat : Int)) (p := p) hne)
              have HBn := Lib.hid (HBq.out.setCell (p := ⟨go, p, none⟩) hgoW (.int .u8 (b0.toNat : Int)))
              have hgn : g < (W4.setCell ⟨go, p, none⟩ (.int .u8 (b0.toNat : Int))).heap.size := by simpa using hg4
              have HGN := Lib.hid hgn
              clear hgn hg4
              obtain ⟨j3, j3b⟩ := one_wrapsR hj1000
              go_wp2
              go_roundw
              case rel => exact ⟨j + 1, HLT.out, by go_num, HFN2, HN, HSn, HGN.out, HBn⟩
              case measure => clear j3 j3b; simp [intOf]; omega
            · have HF := Lib.hid (HYES.out b rfl hbb)
              have q1 : ((b.toNat : Int) == (b0.toNat : Int)) = false := by rw [u8_eq]; exact decide_eq_false hbb
              have q2 : ((b.toNat : Int) != (b0.toNat : Int)) = true := by rw [bne, q1]; rfl
              clear hlo hz hb97 hbb
              go_wp2
              go_quiet (fail)
              obtain ⟨W4, hW4⟩ : ∃ W4, w10.drewN nq = W4 := ⟨_, rfl⟩
              have HSq : Hid (StrsAt W4 g 0 ws) := Lib.hid (by rw [← hW4]; exact strs_drewU HS9.out nq)
              have hoq : W4.ownsRow W0.heap.size 5 1 (.slice (some ⟨go, 0, none⟩) i co) i (cellsB (outU (undoFA k n o) (undoAA a) ws k m j)) := by rw [← hW4]; exact owns_drewU HO9.out nq
              have HBq : Hid (Below W0.heap.size W0 W4) := Lib.hid (by rw [← hW4]; exact drewN_below HB10.out nq)
              have kc4 : W4.cell? ⟨go, p, none⟩ = some (.int .u8 (b.toNat : Int)) := by rw [← hW4]; exact kc
              have kx4 : W4.cell? ⟨g, j, none⟩ = some (.string x) := by rw [← hW4]; exact kx
              have kf4 := hoq.frozenAt p
              have HOq := Lib.hid hoq
              have hg4 : g < W4.heap.size := by rw [← hW4]; exact hg10
              rw [hW4]
              clear hW4 HS9 HO9 HB10 kc kf kx hg10 c0 c1 c2 hoq
              go_wp2
              go_ret2
              exact ⟨by rw [← HSR.out, ← HBR.out, if_pos HF.out, HF.out]; rfl, HB0.out.trans (HBq.out.mono HB0.out.size)⟩
        · obtain rfl : j = ws.length := by omega
          have HNO := Lib.hid (clash_no HFIT.out)
          have HOf : Hid (wr.ownsRow W0.heap.size 5 1 (.slice (some ⟨go, 0, none⟩) i co) i (cellsB (fillU (undoFA k n o) (undoAA a) ws k m 0))) := Lib.hid (by rw [HF0.out]; exact HO.out)
          have HBIG : Hid (∀ part b, letTo (undoFA k n o) (undoAA a) ws ws.length part = some b → 97 ≤ b.toNat) := Lib.hid fun part b hb => by
            obtain ⟨x', hx', -, h2⟩ := letTo_some hb
            have hm' := List.mem_of_mem_take hx'
            have h3 := (digit_lt (byteAt_all (HAL.out x' hm') (i := a) (by rw [HSZ.out x' hm']; exact haL))).1
            rw [← h2]; exact h3
          clear HO HST hgs HFIT HF0 c0 c1 c2 HCr
          go_wp2
          go_loopw [13] (fun tv wr => ∃ t : Nat, t ≤ i ∧ tv = .int .i64 (t : Int) ∧ Hid (wr.ownsRow W0.heap.size 5 1 (.slice (some ⟨go, 0, none⟩) i co) i (cellsB (fillU (undoFA k n o) (undoAA a) ws k m t))) ∧ Hid (Below W0.heap.size W0 wr)) (fun tv _ => i - (intOf tv).toNat)
          case atStart => exact ⟨0, Nat.zero_le _, rfl, HOf, HB⟩
          case round =>
            clear HOf HB
            obtain ⟨t, ht, rfl, HO, HB⟩ := hrel
            by_cases htl : t < i
            · have hat := cellsB_at (fillU_at (F := undoFA k n o) (A := undoAA a) (ws := ws) (i := t) (p := t) (by rw [HPP.out]; exact htl))
              rw [if_neg (Nat.lt_irrefl t)] at hat
              have kc := (HO.out.cellAt t (by omega)).trans hat
              have kf := HO.out.frozenAt t
              have HPUT := Lib.hid (fun h => fillU_put (F := undoFA k n o) (A := undoAA a) (ws := ws) (k := k) (m := m) (i := t) h)
              have HKEEP := Lib.hid (fun b h => fillU_keep (F := undoFA k n o) (A := undoAA a) (ws := ws) (k := k) (m := m) (i := t) (b := b) h)
              have HBG := Lib.hid (fun b h => HBIG.out (wdA k m t) b h)
              have t0 : (0 : Int) ≤ (t : Int) := by omega
              have t1 : (t : Int) < (i : Int) := by omega
              have hmt : i - (t + 1) < i - t := by omega
              have ht1000 : t ≤ 1000 := by omega
              clear hat
              generalize letTo (undoFA k n o) (undoAA a) ws ws.length (wdA k m t) = lo at *
              cases lo with
              | none =>
                have hz : (((none : Option UInt8).getD 0).toNat : Int) = 0 := rfl
                rw [hz] at kc
                have HN : Hid ((wr.setCell ⟨go, t, none⟩ (.int .u8 97)).ownsRow W0.heap.size 5 1 (.slice (some ⟨go, 0, none⟩) i co) i (cellsB (fillU (undoFA k n o) (undoAA a) ws k m (t + 1)))) := Lib.hid (by
                  have h := (HO.out.stored t (.int .u8 ((97 : UInt8).toNat : Int))).1
                  rw [cellsB_set, HPUT.out rfl] at h
                  exact h)
                have HBn := Lib.hid (HB.out.setCell (p := ⟨go, t, none⟩) hgoW (.int .u8 97))
                clear hz
                obtain ⟨j3, j3b⟩ := one_wrapsR ht1000
                go_wp2
                go_roundw
                case rel => exact ⟨t + 1, htl, by go_num, HN, HBn⟩
                case measure => clear j3 j3b; simp [intOf]; omega
              | some b =>
                have hz : (((some b).getD 0).toNat : Int) = (b.toNat : Int) := rfl
                rw [hz] at kc
                obtain ⟨z1, z2⟩ := u8_pos (HBG.out b rfl)
                have HN := HO
                rw [HKEEP.out b rfl] at HN
                clear hz
                obtain ⟨j3, j3b⟩ := one_wrapsR ht1000
                go_wp2
                go_roundw
                case rel => exact ⟨t + 1, htl, by go_num, HN, HB⟩
                case measure => clear j3 j3b; simp [intOf]; omega
            · obtain rfl : t = i := by omega
              have hcv := conv_owned (P := Try.prog) Try.underlying22 Try.underlying5 Try.underlying9 (l := fillU (undoFA k n o) (undoAA a) ws k m t) (by rw [HFL.out, HPP.out]; exact HO.out)
              have HRS : Hid ((⟨(fillU (undoFA k n o) (undoAA a) ws k m t).toArray⟩ : ByteArray) = sR) := Lib.hid (by rw [← HSR.out, HNO.out, if_neg (by decide), HOUT.out, HPP.out])
              rw [HRS.out] at hcv
              have HBF : Hid (true = bR) := Lib.hid (by rw [← HBR.out, HNO.out]; rfl)
              go_wp2
              go_ret2
              exact ⟨by rw [← HBF.out]; rfl, HB0.out.trans (HB.out.mono HB0.out.size)⟩
end Go.Proofs.Ytcoiodfggaanbaa
