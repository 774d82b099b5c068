/-
  The program's try at a code that undoes another one at a place: as the plain words say; nothing that was there before is changed.
-/
import Derived.Test.YtcoiodfggaanbaaUndoMap
import Derived.Test.YtcoiodfggaanbaaCodeID
import Derived.Shelf.Abstract
import Derived.Laws.EntriesVeiled
namespace Go.Proofs.Ytcoiodfggaanbaa
open Go Go.RowKit Go.Maps Go.Shelf

theorem enters_und : ∀ args w, (callFunc 111 args).run Try.prog w = .ok (.enter 111 args) w := enters_of Try.func111 (by kernel_rfl) rfl
theorem strs_two {w w' : World} {x y : ByteArray} (hw : w'.heap = (w.alloc (.cells #[.string x, .string y] 9)).heap) : StrsAt w' w.heap.size 0 [x, y] := fun j hj => by
  have h := heap_alloc_new w (.cells #[.string x, .string y] 9)
  unfold World.cell?
  rw [hw, h]
  match j, hj with
  | 0, _ => rfl
  | 1, _ => rfl

set_option maxRecDepth 100000 in
set_option maxHeartbeats 1600000 in
theorem und_at (F : ByteArray → ByteArray) (A : ByteArray → UInt8) (ws : List ByteArray) (gb bm : Nat) (part : ByteArray) (hp : part.size ≤ 1000) (W : World) (h1 : W.cell? ⟨gb, 0, none⟩ = some (.map (some bm))) (hm : MapU W F A ws ws.length bm) :
    Calls Try.prog 111 #[.string part, .pointer (some ⟨gb, 0, none⟩)] W (Says (.string (undoF F A ws part)) W) := by
  have hlk := hm.look hp
  have HU : Hid (undoF F A ws part = oneB ((letTo F A ws ws.length part).getD 97)) := Lib.hid rfl
  rw [HU.out]
  clear hm hp HU
  cases hl : letTo F A ws ws.length part with
  | none =>
    rw [hl] at hlk
    have HO : Hid (∀ w', w'.heap = (W.alloc (.cells #[.string ⟨#[]⟩, .string ⟨#[97]⟩] 9)).heap → Calls Try.prog 109 #[.slice (some ⟨W.heap.size, 0, none⟩) 2 2] w' fun e w'' => e = .returned (.string (oneB 97)) ∧ w'' = w') := Lib.hid fun w' hw => or_none _ 97 w' (strs_two hw)
    have hlk2 : (Instr.lookup 125 (.map (some bm)) (.string part) false).run Try.prog W = .ok (.string ⟨#[]⟩) W := hlk
    clear hl hlk
    go_enter Try.func111, Try.ntmps111
    go_wp2_with fail
    refine (HO.out _ (by rfl)).mono ?_
    rintro e w1 ⟨rfl, rfl⟩
    go_wp2
    go_ret
    exact ⟨rfl, (Below.refl _ _).alloc (Nat.le_refl _) _⟩
  | some b =>
    rw [hl] at hlk
    have HO : Hid (∀ w', w'.heap = (W.alloc (.cells #[.string (oneB b), .string ⟨#[97]⟩] 9)).heap → Calls Try.prog 109 #[.slice (some ⟨W.heap.size, 0, none⟩) 2 2] w' fun e w'' => e = .returned (.string (oneB b)) ∧ w'' = w') := Lib.hid fun w' hw => or_some _ b ⟨#[97]⟩ w' (strs_two hw)
    have hlk2 : (Instr.lookup 125 (.map (some bm)) (.string part) false).run Try.prog W = .ok (.string (oneB b)) W := hlk
    have hob : ((some b).getD 97) = b := rfl
    rw [hob]
    clear hl hlk hob
    generalize oneB b = y at *
    go_enter Try.func111, Try.ntmps111
    go_wp2_with fail
    refine (HO.out _ (by rfl)).mono ?_
    rintro e w1 ⟨rfl, rfl⟩
    go_wp2
    go_ret
    exact ⟨rfl, (Below.refl _ _).alloc (Nat.le_refl _) _⟩
theorem strs_grownU {w w' : World} {g b : Nat} {xs : List ByteArray} (h : StrsAt w b 0 xs) (hg : w.grownBy w' (some g)) (hb : b < w.heap.size) (hne : b ≠ g) : StrsAt w' b 0 xs := fun k hk =>
  (World.cell?_of_block (hg.block b hb (fun e => hne (Option.some.inj e)))).trans (h k hk)
/-- The world ahead of the words: the code, the result, the code again (the function value's), the map and its box. -/
structure UndBox (w W : World) (k n : Nat) (o : ByteArray) : Prop where
  code : CodeIn W w.heap.size (k : Int) (n : Int) o
  res : CodeIn W (w.heap.size + 1) 0 0 ⟨#[]⟩
  code2 : CodeIn W (w.heap.size + 2) (k : Int) (n : Int) o
  box : W.cell? ⟨w.heap.size + 4, 0, none⟩ = some (.map (some (w.heap.size + 3)))
  size : w.heap.size + 5 ≤ W.heap.size
theorem UndBox.keep {w W W' : World} {k n : Nat} {o : ByteArray} (h : UndBox w W k n o) (hs : W.heap.size ≤ W'.heap.size) (hb : ∀ b, b < w.heap.size + 5 → b ≠ w.heap.size + 3 → W'.heap[b]? = W.heap[b]?) : UndBox w W' k n o :=
  ⟨(hb _ (by omega) (by omega)).trans h.code, (hb _ (by omega) (by omega)).trans h.res, (hb _ (by omega) (by omega)).trans h.code2, (World.cell?_of_block (hb (w.heap.size + 4) (by omega) (by omega))).trans h.box, Nat.le_trans h.size hs⟩
theorem UndBox.later {w W W' : World} {k n : Nat} {o : ByteArray} (h : UndBox w W k n o) (hb : Below W.heap.size W W') : UndBox w W' k n o :=
  h.keep hb.size fun b hl _ => hb.block b (Nat.lt_of_lt_of_le hl h.size)

set_option maxRecDepth 100000 in
set_option maxHeartbeats 3200000 in
theorem impl_undoingAt (k n m a : Nat) (o : ByteArray) (ok : CodeOk k n o) (okm : FormOk k m) (ha : a < n + m - 1) (w : World) :
    Calls Try.prog 77 #[.agg #[.int .i64 (k : Int), .int .i64 (n : Int), .string o], .int .i64 (m : Int), .int .i64 (a : Int)] w (Says (CodeRes (!clashB (undoFA k n o) (undoAA a) (allW k (n + m - 1))) (k : Int) (m : Int) (undoO k n o m a)) w) := by
  have n1 := ok.n1
  have n4 := ok.n4
  have m1 := okm.n1
  have m4 := okm.n4
  have k2 := ok.k2
  have k3 := ok.k3
  have hL7 : n + m - 1 ≤ 7 := by omega
  have HCO := Lib.hid (fun w' => impl_codingOf (k : Int) (n : Int) o w')
  have HWO := Lib.hid (fun w' => by have h := impl_wordsOf (k : Int) ((n + m - 1 : Nat) : Int) w'; rwa [wordsOf_yes (by omega) k3 (by omega) (undo_pow ok.toFormOk okm)] at h)
  have hl : (allW k (n + m - 1)).length ≤ 729 ∧ 0 < (allW k (n + m - 1)).length := by rw [allW_length]; exact ⟨undo_pow ok.toFormOk okm, Nat.pow_pos (by omega)⟩
  have HLEN := Lib.hid hl
  have HSZ : Hid (∀ x ∈ allW k (n + m - 1), x.size = n + m - 1) := Lib.hid (allW_size k _)
  have HPS : Hid (∀ x ∈ allW k (n + m - 1), (undoFA k n o x).size ≤ 1000) := Lib.hid fun x hx => by unfold undoFA; rw [applied_size, allW_size k _ x hx]; omega
  have HAPP : Hid (∀ x ∈ allW k (n + m - 1), ∀ g w', CodeIn w' g (k : Int) (n : Int) o → Calls Try.prog 121 #[.string x, .pointer (some ⟨g, 0, none⟩)] w' (Says (.string (undoFA k n o x)) w')) := Lib.hid fun x hx g w' hg =>
    impl_coding k n g o x ok (by rw [allW_size k _ x hx]; omega) (allW_all k3 _ x hx) w' hg
  have HTAB := Lib.hid (fun (w' : World) b c gb bm (hf : w'.cell? ⟨b, 0, none⟩ = some (.func (.func 111) #[] #[.pointer (some ⟨gb, 0, none⟩)])) (hb : b < w'.heap.size) (hgb : gb < w'.heap.size) (hc : w'.cell? ⟨gb, 0, none⟩ = some (.map (some bm))) (hm : MapU w' (undoFA k n o) (undoAA a) (allW k (n + m - 1)) (allW k (n + m - 1)).length bm) =>
    impl_tab k m 1 111 b c (fun _ => gb) (fun _ x => undoF (undoFA k n o) (undoAA a) (allW k (n + m - 1)) x) okm enters_und w' (fun j hj => by rw [show j = 0 by omega]; exact hf) hb (by decide)
      (fun x hx j hj w'' hb'' => by
        obtain rfl : j = 0 := by omega
        exact und_at _ _ _ gb bm x (by rw [allW_size k _ x hx]; omega) w'' ((hb''.cell (p := ⟨gb, 0, none⟩) hgb).trans hc) (hm.later hb''))
      (fun x _ => rfl))
  have HOUT : Hid (undoO k n o m a = catW (fun x => runTo (fun _ x => undoF (undoFA k n o) (undoAA a) (allW k (n + m - 1)) x) x 1) (allW k m)) := Lib.hid rfl
  have eg : ∀ args w, (callFunc 121 args).run Try.prog w = .ok (.enter 121 args) w := enters_of Try.func121 (by kernel_rfl) rfl
  obtain ⟨W2, hW2, hb2, z2, k1, k2'⟩ := two_start (k : Int) (n : Int) 0 0 o ⟨#[]⟩ w
  have c0 := k1.c0
  have c1 := k1.c1
  have c2 := k1.c2
  have HK1 := Lib.hid k1
  have HK2 := Lib.hid k2'
  have HB2 := Lib.hid hb2
  have HW := Lib.hid hW2
  have HZ2 := Lib.hid z2
  have HSUM : Hid ((n : Int) + (m : Int) - 1 = ((n + m - 1 : Nat) : Int)) := Lib.hid (by omega)
  have HAL : Hid (a < n + m - 1) := Lib.hid ha
  have hmk : ∀ w, (Instr.makeMap 125 none).run Try.prog w = .ok (.map (some w.heap.size)) (w.alloc (.map #[] 0)) := fun w => rfl
  clear k1 k2' hb2 hW2 z2 hl ok okm ha
  obtain ⟨RV, hRV⟩ : ∃ RV, CodeRes (!clashB (undoFA k n o) (undoAA a) (allW k (n + m - 1))) (k : Int) (m : Int) (undoO k n o m a) = RV := ⟨_, rfl⟩
  rw [hRV]
  have HRV := Lib.hid hRV
  clear hRV
  generalize allW k (n + m - 1) = ws at *
  go_enter Try.func77, Try.ntmps77
  go_wp2_with fail
  rw [HW.out]
  refine (HCO.out _).mono ?_
  rintro e w3 ⟨rfl, rfl⟩
  obtain ⟨W3, hW3⟩ : ∃ W3, W2.alloc (.cells #[.int .i64 (k : Int), .int .i64 (n : Int), .string o] 25) = W3 := ⟨_, rfl⟩
  have hb3 : Below W2.heap.size W2 W3 := by rw [← hW3]; exact (Below.refl _ _).alloc (Nat.le_refl _) _
  have hc3 : CodeIn W3 (w.heap.size + 2) (k : Int) (n : Int) o := by
    have h := codeIn_new W2 (k : Int) (n : Int) o
    rw [HZ2.out, hW3] at h
    exact h
  have hz3 : W3.heap.size = w.heap.size + 3 := by rw [← hW3, World.size_alloc, HZ2.out]
  have HB3 := Lib.hid (HB2.out.trans (hb3.mono HB2.out.size))
  have HA3 := Lib.hid (HK1.out.below hb3)
  have HR3 := Lib.hid (HK2.out.below hb3)
  have HC3 := Lib.hid hc3
  have HZ3 := Lib.hid hz3
  have HZ2' := HZ2
  rw [hW3]
  clear hW3 hb3 hc3 hz3 c0 c1 c2
  obtain ⟨W5, hW5⟩ : ∃ W5, ((W3.alloc (.map #[] 0)).alloc (.cells #[.map (some W3.heap.size)] 125)) = W5 := ⟨_, rfl⟩
  have hs4 : (W3.alloc (.map #[] 0)).heap.size = W3.heap.size + 1 := World.size_alloc _ _
  have hb5 : Below W3.heap.size W3 W5 := by rw [← hW5]; exact ((Below.refl _ _).alloc (Nat.le_refl _) _).alloc (by rw [hs4]; omega) _
  have hbox : W5.cell? ⟨w.heap.size + 4, 0, none⟩ = some (.map (some (w.heap.size + 3))) := by
    have h := heap_alloc_new (W3.alloc (.map #[] 0)) (.cells #[.map (some W3.heap.size)] 125)
    rw [hs4, hW5, HZ3.out] at h
    unfold World.cell?; rw [h]; rfl
  have HU5 : Hid (UndBox w W5 k n o) := Lib.hid ⟨HA3.out.below hb5, HR3.out.below hb5, HC3.out.below hb5, hbox, by rw [← hW5, World.size_alloc, hs4, HZ3.out]; omega⟩
  have HM5 : Hid (MapU W5 (undoFA k n o) (undoAA a) ws 0 (w.heap.size + 3)) := Lib.hid (by
    have h := (mapU_start (F := undoFA k n o) (A := undoAA a) (ws := ws) W3).later ((Below.refl _ _).alloc (Nat.le_refl _) (.cells #[.map (some W3.heap.size)] 125))
    rw [hW5, HZ3.out] at h
    exact h)
  have HB5 := Lib.hid (HB3.out.trans (hb5.mono HB3.out.size))
  have c0 : ((W3.alloc (.map #[] 0)).alloc (.cells #[.map (some W3.heap.size)] 125)).cell? ⟨w.heap.size, 0, none⟩ = some (.int .i64 (k : Int)) := by rw [hW5]; exact HU5.out.code.c0
  have c1 : ((W3.alloc (.map #[] 0)).alloc (.cells #[.map (some W3.heap.size)] 125)).cell? ⟨w.heap.size, 1, none⟩ = some (.int .i64 (n : Int)) := by rw [hW5]; exact HU5.out.code.c1
  have c2 : ((W3.alloc (.map #[] 0)).alloc (.cells #[.map (some W3.heap.size)] 125)).cell? ⟨w.heap.size, 2, none⟩ = some (.string o) := by rw [hW5]; exact HU5.out.code.c2
  have HW5 := Lib.hid hW5
  have a0 := HA3.out.c0
  have a1 := HA3.out.c1
  have a2 := HA3.out.c2
  clear hW5 hs4 hb5 hbox
  go_wp2_with fail
  rw [HW5.out, HSUM.out]
  refine (HWO.out _).mono ?_
  rintro e w6 hp6
  obtain ⟨g, cap, rfl, ho6, hb6⟩ := hp6.some HLEN.out.2
  have HST := Lib.hid (StrsAt.of_owns ho6 rfl)
  have hgg := ho6.lt g rfl
  have HU6 := Lib.hid (HU5.out.later hb6)
  have HM6 := Lib.hid (HM5.out.later hb6)
  have HB6 := Lib.hid (HB5.out.trans (hb6.mono HB5.out.size))
  have hgs := hgg.2
  have HG : Hid (w.heap.size + 5 ≤ g) := Lib.hid (Nat.le_trans HU5.out.size hgg.1)
  rw [show W2.heap.size = w.heap.size + 2 from HZ2.out, show W3.heap.size = w.heap.size + 3 from HZ3.out]
  clear c0 c1 c2 a0 a1 a2 hgg hb6 ho6 hp6 HU5 HM5 HB5 HW5 HA3 HR3 HC3 HB3
  go_wp2
  go_loopw [26] (fun jv wr => ∃ j : Nat, j ≤ ws.length ∧ jv = .int .i64 (j : Int) ∧ Hid (Fits (undoFA k n o) (undoAA a) ws j) ∧ Hid (UndBox w wr k n o) ∧ Hid (MapU wr (undoFA k n o) (undoAA a) ws j (w.heap.size + 3)) ∧ Hid (StrsAt wr g 0 ws) ∧ g < wr.heap.size ∧ Hid (Below w.heap.size w wr)) (fun jv _ => ws.length - (intOf jv).toNat)
  case atStart => exact ⟨0, Nat.zero_le _, rfl, Lib.hid Fits.zero, HU6, HM6, HST, hgs, HB6⟩
  case round =>
    clear HU6 HM6 HST hgs HB6
    obtain ⟨j, hj, rfl, HFIT, HU, HM, HST, hgs, HB⟩ := hrel
    by_cases hlt : j < ws.length
    · have hmem := getD_memR hlt
      have kx := HST.out j hlt
      rw [Nat.zero_add] at kx
      have hxs := HSZ.out _ hmem
      have hps := HPS.out _ hmem
      have HAPX := Lib.hid (HAPP.out _ hmem (w.heap.size + 2))
      have hax : a < (ws.getD j ByteArray.empty).size := by rw [hxs]; exact HAL.out
      have hx1 := extract_one hax
      have hl1000 : ws.length ≤ 1000 := by have := HLEN.out.1; omega
      have a0 : (0 : Int) ≤ (a : Int) := by omega
      have a1 : (a : Int) + 1 ≤ ((ws.getD j ByteArray.empty).size : Int) := by omega
      have a2 : (a : Int) ≤ (a : Int) + 1 := by omega
      have j0 : (0 : Int) ≤ (j : Int) := by omega
      have j1 : (j : Int) < (ws.length : Int) := by omega
      have hmj : ws.length - (j + 1) < ws.length - j := by omega
      have hj1000 : j ≤ 1000 := by omega
      have ha1000 : a ≤ 1000 := by have := HAL.out; omega
      obtain ⟨b0, hb0⟩ : ∃ b0, undoAA a (ws.getD j ByteArray.empty) = b0 := ⟨_, rfl⟩
      have HB0E := Lib.hid hb0
      have hb0' : byteAt (ws.getD j ByteArray.empty) a = b0 := hb0
      rw [hb0'] at hx1
      clear hmem hxs hb0 hb0' hax
      obtain ⟨part, hpart⟩ : ∃ part, undoFA k n o (ws.getD j ByteArray.empty) = part := ⟨_, rfl⟩
      obtain ⟨x, hxe⟩ : ∃ x, ws.getD j ByteArray.empty = x := ⟨_, rfl⟩
      have HPE := Lib.hid hpart
      rw [hpart] at HAPX hps
      rw [hxe] at kx hx1 a1 HAPX
      clear hpart hxe
      have HLT := Lib.hid hlt
      clear hlt
      obtain ⟨e3, e3b⟩ := one_wrapsR ha1000
      go_wp2
      go_region_held3 (fun w' => w'.cell? ⟨g, j, none⟩ = some (.string x)) (first | exact kx | exact dx | go_keep) ((go_at_call 121; refine (HAPX.out _ (by exact HU.out.code2)).mono ?_; rintro e w9 ⟨rfl, hb9⟩; have HB9 : Hid (Below wr.heap.size wr w9) := Lib.hid (by first | exact hb9 | exact (Below.refl wr.heap.size wr).drew.trans hb9); have dx := (HB9.out.cell (p := ⟨g, j, none⟩) hgs).trans kx; clear hb9))
      clear e3 e3b kx dx
      have HU9 := Lib.hid (HU.out.later HB9.out)
      have HM9 := Lib.hid (HM.out.later HB9.out)
      have HS9 := Lib.hid (HST.out.below HB9.out hgs)
      have HBn := Lib.hid (HB.out.trans (HB9.out.mono HB.out.size))
      have hg9 : g < w9.heap.size := Nat.lt_of_lt_of_le hgs HB9.out.size
      have hbx9 := HU9.out.box
      have hlk := HM9.out.look hps
      clear HU HM HST HB hgs HB9 HAPX
      cases hlo : letTo (undoFA k n o) (undoAA a) ws j part with
      | none =>
        rw [hlo] at hlk
        have hlk2 : (Instr.lookup 125 (.map (some (w.heap.size + 3))) (.string part) false).run Try.prog w9 = .ok (.string ⟨#[]⟩) w9 := hlk
        obtain ⟨W10, hW10⟩ : ∃ W10, w9.alloc (.cells #[.string ⟨#[]⟩, .string (oneB b0)] 9) = W10 := ⟨_, rfl⟩
        have HPRF : Hid (∀ c, letTo (undoFA k n o) (undoAA a) ws j part = some c → c = b0) := Lib.hid fun c hc => by rw [hlo] at hc; cases hc
        have HFN : Hid (Fits (undoFA k n o) (undoAA a) ws (j + 1)) := Lib.hid (HFIT.out.next HLT.out fun c hc => by rw [HPE.out] at hc; rw [HB0E.out]; exact HPRF.out c hc)
        have HO : Hid (Calls Try.prog 109 #[.slice (some ⟨w9.heap.size, 0, none⟩) 2 2] W10 fun e w'' => e = .returned (.string (oneB b0)) ∧ w'' = W10) := Lib.hid (or_none _ b0 W10 (strs_two (by rw [hW10])))
        have hb10 : Below w9.heap.size w9 W10 := by rw [← hW10]; exact (Below.refl _ _).alloc (Nat.le_refl _) _
        have HU10 := Lib.hid (HU9.out.later hb10)
        have HM10 := Lib.hid (HM9.out.later hb10)
        have HS10 := Lib.hid (HS9.out.below hb10 hg9)
        have HBX := Lib.hid (HBn.out.trans (hb10.mono HBn.out.size))
        have hg10 : g < W10.heap.size := Nat.lt_of_lt_of_le hg9 hb10.size
        obtain ⟨w11, hrun, hm11, hgr⟩ := HM10.out.put HLT.out hl1000 HPE.out hps HB0E.out HPRF.out
        have HU11 := Lib.hid (HU10.out.keep hgr.size fun b' hl' hne' => hgr.block b' (Nat.lt_of_lt_of_le hl' HU10.out.size) (fun e => hne' (Option.some.inj e)))
        have HM11 := Lib.hid hm11
        have HS11 := Lib.hid (strs_grownU HS10.out hgr hg10 (by have := HG.out; omega))
        have HB11 := Lib.hid (HBX.out.grown hgr HBX.out.size fun q hq => by have := Option.some.inj hq; omega)
        have HG11 := Lib.hid (Nat.lt_of_lt_of_le hg10 hgr.size)
        have qb := HU10.out.box
        have HW10 := Lib.hid hW10
        clear hlk hlo hb10 hm11 hgr HU9 HM9 HS9 HBn hg9 HU10 HM10 HS10 HBX hg10 hW10
        generalize oneB b0 = y at *
        go_wp2_with fail
        rw [HW10.out]
        refine HO.out.mono ?_
        rintro e w12 ⟨rfl, rfl⟩
        obtain ⟨j3, j3b⟩ := one_wrapsR hj1000
        go_wp2
        go_roundw
        case rel => exact ⟨j + 1, HLT.out, by go_num, HFN, HU11, HM11, HS11, HG11.out, HB11⟩
        case measure => clear j3 j3b; simp [intOf]; omega
      | some b =>
        rw [hlo] at hlk
        have hlk2 : (Instr.lookup 125 (.map (some (w.heap.size + 3))) (.string part) false).run Try.prog w9 = .ok (.string (oneB b)) w9 := hlk
        obtain ⟨W10, hW10⟩ : ∃ W10, w9.alloc (.cells #[.string (oneB b), .string (oneB b0)] 9) = W10 := ⟨_, rfl⟩
        have HO : Hid (Calls Try.prog 109 #[.slice (some ⟨w9.heap.size, 0, none⟩) 2 2] W10 fun e w'' => e = .returned (.string (oneB b)) ∧ w'' = W10) := Lib.hid (or_some _ b (oneB b0) W10 (strs_two (by rw [hW10])))
        by_cases hbb : b = b0
        · subst hbb
          have HPRF : Hid (∀ c, letTo (undoFA k n o) (undoAA a) ws j part = some c → c = b) := Lib.hid fun c hc => by rw [hlo] at hc; exact (Option.some.inj hc).symm
          have HFN : Hid (Fits (undoFA k n o) (undoAA a) ws (j + 1)) := Lib.hid (HFIT.out.next HLT.out fun c hc => by rw [HPE.out] at hc; rw [HB0E.out]; exact HPRF.out c hc)
          have hb10 : Below w9.heap.size w9 W10 := by rw [← hW10]; exact (Below.refl _ _).alloc (Nat.le_refl _) _
          have HU10 := Lib.hid (HU9.out.later hb10)
          have HM10 := Lib.hid (HM9.out.later hb10)
          have HS10 := Lib.hid (HS9.out.below hb10 hg9)
          have HBX := Lib.hid (HBn.out.trans (hb10.mono HBn.out.size))
          have hg10 : g < W10.heap.size := Nat.lt_of_lt_of_le hg9 hb10.size
          obtain ⟨w11, hrun, hm11, hgr⟩ := HM10.out.put HLT.out hl1000 HPE.out hps HB0E.out HPRF.out
          have HU11 := Lib.hid (HU10.out.keep hgr.size fun b' hl' hne' => hgr.block b' (Nat.lt_of_lt_of_le hl' HU10.out.size) (fun e => hne' (Option.some.inj e)))
          have HM11 := Lib.hid hm11
          have HS11 := Lib.hid (strs_grownU HS10.out hgr hg10 (by have := HG.out; omega))
          have HB11 := Lib.hid (HBX.out.grown hgr HBX.out.size fun q hq => by have := Option.some.inj hq; omega)
          have HG11 := Lib.hid (Nat.lt_of_lt_of_le hg10 hgr.size)
          have qb := HU10.out.box
          have HW10 := Lib.hid hW10
          clear hlk hlo hb10 hm11 hgr HU9 HM9 HS9 HBn hg9 HU10 HM10 HS10 HBX hg10 hW10
          generalize oneB b = y at *
          go_wp2_with fail
          rw [HW10.out]
          refine HO.out.mono ?_
          rintro e w12 ⟨rfl, rfl⟩
          obtain ⟨j3, j3b⟩ := one_wrapsR hj1000
          go_wp2
          go_roundw
          case rel => exact ⟨j + 1, HLT.out, by go_num, HFN, HU11, HM11, HS11, HG11.out, HB11⟩
          case measure => clear j3 j3b; simp [intOf]; omega
        · have hne : ((oneB b).toList == (oneB b0).toList) = false := by
            rw [beq_eq_false_iff_ne, ByteArray.toList_eq, ByteArray.toList_eq]
            simpa [oneB] using hbb
          have HCL := Lib.hid (clash_yes (F := undoFA k n o) (A := undoAA a) HLT.out (b := b) (by rw [HPE.out]; exact hlo) (by rw [HB0E.out]; exact hbb))
          have hb10 : Below w9.heap.size w9 W10 := by rw [← hW10]; exact (Below.refl _ _).alloc (Nat.le_refl _) _
          have HU10 := Lib.hid (HU9.out.later hb10)
          have HBX := Lib.hid (HBn.out.trans (hb10.mono HBn.out.size))
          have q0 := HU10.out.res.c0
          have q1 := HU10.out.res.c1
          have q2 := HU10.out.res.c2
          have f0 := HU10.out.res.f 0
          have f1 := HU10.out.res.f 1
          have f2 := HU10.out.res.f 2
          have HW10 := Lib.hid hW10
          clear hlk hlo hb10 HU9 HM9 HS9 HBn hg9 hW10 hbb
          generalize oneB b0 = y at *
          generalize oneB b = z at *
          go_wp2_with fail
          rw [HW10.out]
          refine HO.out.mono ?_
          rintro e w12 ⟨rfl, rfl⟩
          go_wp2
          refine bodyPost_ret (results_code rfl _ _ _ 25 #[.int .i64 0, .int .i64 0, .string ⟨#[]⟩] (0, 0) _ rfl (codeIn_set HU10.out.res _ _ _) Try.underlying25 rfl (by kernel_rfl)) rfl ?_
          exact ⟨by rw [← HRV.out, HCL.out]; rfl, below_set HBX.out (by omega) _ _ _⟩
    · obtain rfl : j = ws.length := by omega
      have HCL := Lib.hid (clash_no HFIT.out)
      obtain ⟨W12, hW12⟩ : ∃ W12, wr.alloc (.cells #[.func (.func 111) #[] #[.pointer (some ⟨w.heap.size + 4, 0, none⟩)]] 114) = W12 := ⟨_, rfl⟩
      have hb12 : Below wr.heap.size wr W12 := by rw [← hW12]; exact (Below.refl _ _).alloc (Nat.le_refl _) _
      have hz12 : wr.heap.size < W12.heap.size := by rw [← hW12]; simp
      have hf12 : W12.cell? ⟨wr.heap.size, 0, none⟩ = some (.func (.func 111) #[] #[.pointer (some ⟨w.heap.size + 4, 0, none⟩)]) := by
        rw [← hW12]
        unfold World.cell?
        rw [heap_alloc_new wr _]; rfl
      have HU12 := Lib.hid (HU.out.later hb12)
      have HT := Lib.hid (HTAB.out W12 wr.heap.size 1 (w.heap.size + 4) (w.heap.size + 3) hf12 hz12 (by have := HU12.out.size; omega) HU12.out.box (HM.out.later hb12))
      rw [← HOUT.out] at HT
      have HB12 := Lib.hid (HB.out.trans (hb12.mono HB.out.size))
      have c0 := HU.out.code.c0
      have HW12 := Lib.hid hW12
      have HV : Hid (RV = .tuple #[.agg #[.int .i64 (k : Int), .int .i64 (m : Int), .string (undoO k n o m a)], .bool true]) := Lib.hid (by rw [← HRV.out, HCL.out]; rfl)
      have HCR : Hid (CodeRes true (k : Int) (m : Int) (undoO k n o m a) = .tuple #[.agg #[.int .i64 (k : Int), .int .i64 (m : Int), .string (undoO k n o m a)], .bool true]) := Lib.hid rfl
      rw [HCR.out] at HT
      clear hb12 hz12 hf12 hW12 HU HM HST hgs HB HFIT HTAB
      generalize undoO k n o m a = d at *
      go_wp2_with fail
      rw [HW12.out]
      refine HT.out.mono ?_
      rintro e w13 ⟨rfl, hb13⟩
      have HU13 := Lib.hid (HU12.out.later hb13)
      have HB13 := Lib.hid (HB12.out.trans (hb13.mono HB12.out.size))
      have q0 := HU13.out.res.c0
      have q1 := HU13.out.res.c1
      have q2 := HU13.out.res.c2
      have f0 := HU13.out.res.f 0
      have f1 := HU13.out.res.f 1
      have f2 := HU13.out.res.f 2
      clear hb13 c0
      go_wp2
      refine bodyPost_ret (results_code rfl _ _ _ 25 #[.int .i64 (k : Int), .int .i64 (m : Int), .string d] (0, 0) _ rfl (codeIn_set HU13.out.res _ _ _) Try.underlying25 rfl (by kernel_rfl)) rfl ?_
      exact ⟨by rw [HV.out]; rfl, below_set HB13.out (by omega) _ _ _⟩
end Go.Proofs.Ytcoiodfggaanbaa
