/-
  The model's PathsOf: the paths that the plain words say, in new memory; nothing that was there before is changed.
-/
import Derived.Test.YthljogoggiejmaaGraphSpec
import Derived.Test.YthljogoggiejmaaAppendZero
namespace Go.Proofs.Ythljogoggiejmaa
open Go Go.RowKit

theorem fillTo_mono (arcs : List (List Int)) (d : Nat) (head : List Int) {k : Nat} : ∀ (n : Nat), k ≤ n → (fillTo arcs d head k).length ≤ (fillTo arcs d head n).length
  | 0, h => by obtain rfl : k = 0 := by omega
               exact Nat.le_refl _
  | n + 1, h => by
    by_cases e : k = n + 1
    · subst e; exact Nat.le_refl _
    · have := fillTo_mono arcs d head n (k := k) (by omega)
      rw [fillTo_next, List.length_append]; omega
theorem ints_one (xs : List Int) : ∀ u ∈ xs.map (Value.int .i64), u.oneCell' = true := by
  intro u hu
  obtain ⟨x, _, rfl⟩ := List.mem_map.1 hu
  rfl
theorem ints_cells {w : World} {g : Nat} {xs : List Int} (h : IntsAt w g 0 xs) : ∀ j u, (xs.map (Value.int .i64))[j]? = some u → w.cell? ((⟨g, 0, none⟩ : Addr).add j) = some u := by
  intro j u hu
  rw [List.getElem?_map] at hu
  obtain ⟨x, hx, rfl⟩ := Option.map_eq_some_iff.1 hu
  have hj := (List.getElem?_eq_some_iff.1 hx).1
  have := h j hj
  rw [Nat.zero_add] at this
  rw [show (⟨g, 0, none⟩ : Addr).add j = ⟨g, j, none⟩ by unfold Addr.add; split <;> simp_all, this, List.getD_eq_getElem?_getD, hx]; rfl
theorem ints_far {w w' : World} {g : Nat} {xs : List Int} {r : Option Nat} (h : IntsAt w g 0 xs) (hl : g < w.heap.size) (hg : w.grownBy w' r) (hne : r ≠ some g) : IntsAt w' g 0 xs ∧ g < w'.heap.size := by
  refine ⟨fun k hk => ?_, Nat.lt_of_lt_of_le hl hg.size⟩
  have hb := hg.block g hl (Ne.symm hne)
  have := h k hk
  unfold World.cell? at this ⊢
  rw [hb]; exact this

/-- Paths are put behind others, in the same block or in a new one. -/
def FillPost (B : Nat) (v : Value) (m : List (List Int)) (w : World) (e : Ending) (w' : World) : Prop :=
  ∃ v' vs, e = .returned v' ∧ w'.ownsRow B 28 1 v' m.length vs ∧ RowsOwn w' B v'.ownBlock vs m ∧ w.grownBy w' v.ownBlock ∧ (v'.ownBlock = v.ownBlock ∨ ∃ g, v'.ownBlock = some g ∧ w.heap.size ≤ g)
theorem grown_trans {w w1 w2 : World} {r r1 : Option Nat} (h : w.grownBy w1 r) (k : w1.grownBy w2 r1) (hr : r1 = r ∨ ∃ g, r1 = some g ∧ w.heap.size ≤ g) : w.grownBy w2 r := by
  refine ⟨k.os.trans h.os, k.tape.trans h.tape, k.output.trans h.output, Nat.le_trans h.size k.size, fun j hj hne => ?_⟩
  refine (k.block j (Nat.lt_of_lt_of_le hj h.size) ?_).trans (h.block j hj hne)
  rcases hr with rfl | ⟨g, rfl, hg⟩
  · exact hne
  · intro e
    have := Option.some.inj e
    omega
theorem below_grown {w w' : World} (h : Below w.heap.size w w') (r : Option Nat) : w.grownBy w' r := ⟨h.os, h.tape, h.output, h.size, fun k hk _ => h.block k hk⟩

theorem fill_next {B : Nat} {w0 w w3 : World} {gg cap : Nat} {v u : Value} {vs : List Value} {out : List (List Int)} {head : List Int} (hO : w0.ownsRow B 28 1 v out.length vs) (hR : RowsOwn w0 B v.ownBlock vs out) (h0 : Below w0.heap.size w0 w) (hB : B ≤ w0.heap.size)
    (hu : w.ownsRow w0.heap.size 3 1 u head.length (head.map (Value.int .i64))) (o : Obj)
    (ho3 : w3.ownsRow B 28 1 (.slice (some ⟨gg, 0, none⟩) (out.length + 1) cap) (out.length + 1) (vs ++ [u])) (hg3 : (w.alloc o).grownBy w3 v.ownBlock) (hat : v.ownBlock = some gg ∨ gg = w.heap.size + 1) :
    w3.ownsRow B 28 1 (.slice (some ⟨gg, 0, none⟩) (out.length + 1) cap) (out ++ [head]).length (vs ++ [u]) ∧ RowsOwn w3 B (Value.slice (some ⟨gg, 0, none⟩) (out.length + 1) cap).ownBlock (vs ++ [u]) (out ++ [head]) ∧ w.grownBy w3 v.ownBlock ∧
      ((Value.slice (some ⟨gg, 0, none⟩) (out.length + 1) cap).ownBlock = v.ownBlock ∨ ∃ g, (Value.slice (some ⟨gg, 0, none⟩) (out.length + 1) cap).ownBlock = some g ∧ w.heap.size ≤ g) := by
  have hb1 : Below w0.heap.size w0 (w.alloc o) := h0.alloc h0.size o
  refine ⟨by rw [List.length_append]; exact ho3, own_append (w := w.alloc o) (cap := cap) hO hR hb1 (World.ownsRow.alloc (World.ownsRow.mono hu hB) o) (fun g hg => (hu.lt g hg).1) ho3 hg3 (by rw [World.size_alloc]; exact hat), grown_trans (World.grownBy_alloc w o none |> fun h => ⟨h.os, h.tape, h.output, h.size, fun k hk _ => h.block k hk (by intro e; cases e)⟩) hg3 (Or.inl rfl), ?_⟩
  rcases hat with h | h
  · exact Or.inl h.symm
  · exact Or.inr ⟨gg, rfl, by omega⟩

set_option maxRecDepth 100000 in
set_option maxHeartbeats 800000 in
theorem fill_base (Aa : Option Addr) (ca : Nat) (arcs : List (List Int)) (B : Nat) (head : List Int) (out : List (List Int)) (hb ch : Nat) (v : Value) (vs : List Value) (w0 w : World) (hB : B ≤ w0.heap.size)
    (hO : w0.ownsRow B 28 1 v out.length vs) (hR : RowsOwn w0 B v.ownBlock vs out) (h0 : Below w0.heap.size w0 w) (hu : w.ownsRow w0.heap.size 3 1 (.slice (some ⟨hb, 0, none⟩) head.length ch) head.length (head.map (Value.int .i64))) (hlen : out.length ≤ 50000000000) :
    Calls Try.prog 56 #[.slice Aa arcs.length ca, .int .i64 (head.length : Int), .slice (some ⟨hb, 0, none⟩) head.length ch, v] w (FillPost B v (out ++ [head]) w) := by
  obtain ⟨i0, hi, hz0, hz1, hz2⟩ := info_parts infoSl
  obtain ⟨Av, cv, rfl⟩ := slice_of_owns hO
  have HO := Lib.hid hO
  have HR := Lib.hid hR
  have H0 := Lib.hid h0
  have HU := Lib.hid hu
  have HOK := Lib.hid (kept_below hO h0)
  have hs := h0.size
  clear hO hR h0 hu
  go_enter Try.func56, Try.ntmps56
  go_wp2_with (at_builtin; refine wpList_append_lies _ rfl (.tmp 14) (.tmp 16) 24 rfl B 28 i0 (.slice none 0 0) 1 24 Try.underlying24 hi hz0 hz1 hz2 rfl (by decide) _ _ _ rfl (HOK.out.alloc _) ⟨w.heap.size, 0, none⟩ 1 1 [.slice (some ⟨hb, 0, none⟩) head.length ch] rfl rfl (World.news_of_block (cs := #[.slice (some ⟨hb, 0, none⟩) head.length ch]) (t := 28) (fr := (0, 0)) (heap_alloc_new w _)) (by simp [Value.oneCell']) (by decide) (by unfold maxLen; omega) (by omega) (by simp; omega) (w.heap.size + 1) (by simp) ?_; intro gg cap w3 ho3 hg3 hat hlt3; have HN := Lib.hid (fill_next HO.out HR.out H0.out hB HU.out _ ho3 hg3 hat); clear ho3 hg3 hat)
  go_ret
  exact ⟨_, _, rfl, HN.out.1, HN.out.2.1, HN.out.2.2.1, HN.out.2.2.2⟩

theorem head_next {W1 w1 w3 : World} {gg cap n : Nat} {u : Value} {head : List Int} {x : Int} (hb : Below W1.heap.size W1 w1) (hU : w1.ownsRow W1.heap.size 3 1 u head.length (head.map (Value.int .i64))) (o : Obj) (hn : n = head.length + 1)
    (ho3 : w3.ownsRow W1.heap.size 3 1 (.slice (some ⟨gg, 0, none⟩) n cap) n (head.map (Value.int .i64) ++ [.int .i64 x])) (hg3 : (w1.alloc o).grownBy w3 u.ownBlock) :
    w3.ownsRow W1.heap.size 3 1 (.slice (some ⟨gg, 0, none⟩) (head ++ [x]).length cap) (head ++ [x]).length ((head ++ [x]).map (Value.int .i64)) ∧ Below W1.heap.size W1 w3 := by
  subst hn
  refine ⟨?_, (hb.alloc hb.size o).grown hg3 (by have := hb.size; simp; omega) fun q hq => (hU.lt q hq).1⟩
  rw [List.length_append, List.map_append]; exact ho3

/-- The head's copy. -/
theorem first_part {W1 w1 w2 : World} {gg cap : Nat} {u : Value} {head : List Int} (hb : Below W1.heap.size W1 w1) (hU : w1.ownsRow W1.heap.size 3 1 u 0 [])
    (ho2 : w2.ownsRow W1.heap.size 3 1 (.slice (some ⟨gg, 0, none⟩) (0 + head.length) cap) (0 + head.length) ([] ++ head.map (Value.int .i64))) (hg2 : w1.grownBy w2 u.ownBlock) :
    w2.ownsRow W1.heap.size 3 1 (.slice (some ⟨gg, 0, none⟩) head.length cap) head.length (head.map (Value.int .i64)) ∧ Below W1.heap.size W1 w2 := by
  rw [Nat.zero_add, List.nil_append] at ho2
  exact ⟨ho2, hb.grown hg2 hb.size fun q hq => (hU.lt q hq).1⟩

set_option maxRecDepth 100000 in
set_option maxHeartbeats 3200000 in
theorem spec_fill (WA : World) (Aa : Option Addr) (ca : Nat) (arcs : List (List Int)) (hg : GridS WA Aa arcs) (h2 : ∀ r ∈ arcs, r.length = 2) (hal : arcs.length ≤ 60) (n : Nat) (hn : n ≤ 6) :
    ∀ (d : Nat) (head : List Int) (out : List (List Int)) (hb ch : Nat) (v : Value) (vs : List Value) (w0 w : World), head.length + d = n → (∀ k, k < head.length → 0 ≤ head.getD k 0 ∧ head.getD k 0 < (arcs.length : Int)) →
      Below WA.heap.size WA w → WA.heap.size ≤ w0.heap.size → w0.ownsRow WA.heap.size 28 1 v out.length vs → RowsOwn w0 WA.heap.size v.ownBlock vs out → Below w0.heap.size w0 w →
      IntsAt w hb 0 head → hb < w.heap.size → v.ownBlock ≠ some hb → (d = 0 → w.ownsRow w0.heap.size 3 1 (.slice (some ⟨hb, 0, none⟩) head.length ch) head.length (head.map (Value.int .i64))) →
      out.length + (fillM arcs d head).length ≤ 50000000000 →
      Calls Try.prog 56 #[.slice Aa arcs.length ca, .int .i64 (n : Int), .slice (some ⟨hb, 0, none⟩) head.length ch, v] w (FillPost WA.heap.size v (out ++ fillM arcs d head) w) := by
  intro d
  induction d with
  | zero =>
    intro head out hb ch v vs w0 w hl _ _ hB hO hR h0 _ _ _ hu hlen
    rw [Nat.add_zero] at hl
    subst hl
    exact fill_base Aa ca arcs WA.heap.size head out hb ch v vs w0 w hB hO hR h0 (hu rfl) (by omega)
  | succ d ih =>
    intro head out hb ch v vs w0 w hl hval hA hB hO hR h0 hat hbl hne _ hlen
    obtain ⟨j0, hj, hy0, hy1, hy2⟩ := info_parts infoInt
    have hnl : ¬ (head.length : Int) = (n : Int) := by omega
    have HG := Lib.hid hg
    have H2 := Lib.hid h2
    have HV := Lib.hid hval
    have HA := Lib.hid hA
    have HAT := Lib.hid hat
    have HNE := Lib.hid hne
    have HVB : Hid (∀ g, v.ownBlock = some g → WA.heap.size ≤ g) := Lib.hid fun g h => (hO.lt g h).1
    have HO := Lib.hid (kept_below hO h0)
    have HR := Lib.hid (hR.below h0)
    have HIH := Lib.hid ih
    have HL := Lib.hid hlen
    have hh6 : head.length < 6 := by omega
    have HHL := Lib.hid hl
    have h0s := h0.size
    obtain ⟨Av, cv, rfl⟩ := slice_of_owns hO
    rcases Nat.eq_zero_or_pos head.length with hz | hz
    · obtain rfl : head = [] := List.eq_nil_of_length_eq_zero hz
      rw [List.length_nil]
      clear hnl
      have hnl : ((0 : Int) == (n : Int)) = false := by
        cases e : ((0 : Int) == (n : Int)) with
        | false => rfl
        | true => have := eq_of_beq e; simp at hl; omega
      clear hg h2 hval hA hat hne hO hR h0 ih hlen hl
      go_enter Try.func56, Try.ntmps56
      go_wp2
      generalize hv0 : Value.slice Av out.length cv = v at *
      go_loopw [3, 9] (fun v' kv wr => ∃ (k : Nat) (vs : List Value), k ≤ arcs.length ∧ kv = .int .i64 k ∧ wr.ownsRow WA.heap.size 28 1 v' (out ++ fillTo arcs d [] k).length vs ∧ RowsOwn wr WA.heap.size v'.ownBlock vs (out ++ fillTo arcs d [] k) ∧ w.grownBy wr v.ownBlock ∧ (v'.ownBlock = v.ownBlock ∨ ∃ g, v'.ownBlock = some g ∧ w.heap.size ≤ g)) (fun _ k _ => arcs.length - (intOf k).toNat)
      case atStart => exact ⟨0, vs, Nat.zero_le _, rfl, by rw [fillTo_zero, List.append_nil]; exact HO.out, by rw [fillTo_zero, List.append_nil]; exact HR.out, World.grownBy.refl _ _, Or.inl rfl⟩
      case round =>
        obtain ⟨k, vs, hk, rfl, hO, hR, hgr, hvb⟩ := hrel
        by_cases hkl : k < arcs.length
        · have hBA := HA.out.grown hgr (by have := HA.out.size; omega) HVB.out
          obtain ⟨b, off, b2, o2, d2, rfl, k4, k5, k6⟩ := arc_at (HG.out.below hBA) H2.out hkl
          obtain ⟨hat1, hbl1⟩ := ints_far HAT.out hbl hgr HNE.out
          have hwr := hgr.size
          have HO1 := Lib.hid hO
          have HR1 := Lib.hid hR
          have HGR := Lib.hid hgr
          have HVV := Lib.hid hvb
          have HBA := Lib.hid hBA
          have HAT1 := Lib.hid hat1
          have HB1 : Hid (∀ W', Below wr.heap.size wr W' → W'.ownsRow WA.heap.size 28 1 _ (out ++ fillTo arcs d [] k).length vs ∧ RowsOwn W' WA.heap.size _ vs (out ++ fillTo arcs d [] k) ∧ w.grownBy W' v.ownBlock) := Lib.hid fun W' h => ⟨kept_below hO h, hR.below h, grown_trans hgr (below_grown h v.ownBlock) (Or.inl rfl)⟩
          have HNX0 := Lib.hid (fillTo_next arcs d [] k)
          have hlm := fillTo_mono arcs d [] arcs.length (k := k + 1) hkl
          rw [fillTo_all] at hlm
          have HLM := Lib.hid hlm
          have gk : (k : Int) < (arcs.length : Int) := by omega
          clear hO hR hgr hvb hBA hat1 hlm
          have HNX : Hid (fillTo arcs d [] k ++ fillM arcs d ([] ++ [(k : Int)]) = fillTo arcs d [] (k + 1)) := Lib.hid (by rw [HNX0.out]; rfl)
          have HLK : Hid ((out ++ fillTo arcs d [] k).length + (fillM arcs d ([] ++ [(k : Int)])).length ≤ 50000000000) := Lib.hid (by
            have h1 := HL.out
            have h2 := HLM.out
            rw [← HNX.out, List.length_append] at h2
            rw [List.length_append]; omega)
          have HVN : Hid (∀ t, t < ([] ++ [(k : Int)]).length → 0 ≤ ([] ++ [(k : Int)]).getD t 0 ∧ ([] ++ [(k : Int)]).getD t 0 < (arcs.length : Int)) := Lib.hid fun t ht => by
            obtain rfl : t = 0 := by simp at ht; omega
            simp; omega
          clear k4 k5 k6 HNX0 HLM
          go_wp2
          go_quiet (fail)
          obtain ⟨W1, hW1⟩ : ∃ W1, wr.drewN nq = W1 := ⟨_, rfl⟩
          have hbd : Below wr.heap.size wr W1 := by rw [← hW1]; exact below_drewN (Below.refl _ _) _
          rw [hW1]
          clear hW1
          obtain ⟨hO2, hR2, hG2⟩ := HB1.out W1 hbd
          have HBA1 := Lib.hid (HBA.out.trans (hbd.mono HBA.out.size))
          have hWA := HBA1.out.size
          have hW1s := hG2.size
          have HE : Hid ((W1.alloc (.cells #[] 3)).ownsRow W1.heap.size 3 1 (.slice (some ⟨W1.heap.size, 0, none⟩) 0 0) 0 []) := Lib.hid (World.ownsRow_made (base := W1.heap.size) (e := 3) (size := 1) W1 #[] 0 (Nat.le_refl _) (by unfold maxLen; omega) rfl)
          have hb1 : Below W1.heap.size W1 (W1.alloc (.cells #[] 3)) := (Below.refl _ _).alloc (Nat.le_refl _) _
          go_wp2_with (first | (at_builtin; refine wpList_append_zero rfl (.tmp 49) (.tmp 50) 28 rfl 3 j0 Try.underlying28 hj W1.heap.size 0 0 (Nat.le_refl _) ⟨hb, 0, none⟩ ch rfl rfl ?_) | (at_builtin; refine wpList_append_lies _ rfl (.tmp 51) (.tmp 53) 28 rfl W1.heap.size 3 j0 (.int .i64 0) 1 8 Try.underlying28 hj hy0 hy1 hy2 rfl (by decide) _ _ _ rfl (HE.out.alloc _) ⟨W1.heap.size + 1, 0, none⟩ 1 1 [.int .i64 (k : Int)] rfl rfl (World.news_of_block (cs := #[.int .i64 (k : Int)]) (t := 3) (fr := (0, 0)) (by have := heap_alloc_new (W1.alloc (.cells #[] 3)) (.cells #[.int .i64 (k : Int)] 3); rw [World.size_alloc] at this; exact this)) (by simp [Value.oneCell']) (by decide) (by unfold maxLen; omega) (by omega) (by simp; omega) (W1.heap.size + 1 + 1) (by simp) ?_; intro gg cap w3 ho3 hg3 hat3 hlt3; have HT := Lib.hid (head_next (head := []) (x := (k : Int)) hb1 HE.out _ rfl ho3 hg3); clear ho3 hg3 hat3))
          have hgb := HT.out.1.lt gg rfl
          have HC := Lib.hid (HIH.out ([] ++ [(k : Int)]) _ gg cap _ vs W1 w3 (by rw [List.length_append]; have := HHL.out; simp at this ⊢; omega) HVN.out (HBA1.out.trans (HT.out.2.mono hWA)) hWA hO2 hR2 HT.out.2 (IntsAt.of_owns HT.out.1 rfl) hgb.2 (fun e => by have := (hO2.lt gg e).2; have := hgb.1; omega) (fun _ => HT.out.1) HLK.out)
          have hl1 : (([] : List Int) ++ [(k : Int)]).length = 1 := rfl
          rw [hl1] at HC
          refine HC.out.mono ?_
          rintro e w4 ⟨v4, vs4, rfl, ho4, hr4, hg4, hv4⟩
          have HG4 : Hid (w.grownBy w4 v.ownBlock) := Lib.hid (grown_trans (grown_trans hG2 (below_grown HT.out.2 v.ownBlock) (Or.inl rfl)) hg4 HVV.out)
          have HV4 : Hid (v4.ownBlock = v.ownBlock ∨ ∃ g, v4.ownBlock = some g ∧ w.heap.size ≤ g) := Lib.hid (by
            rcases hv4 with e | ⟨g, e, h⟩
            · rw [e]; exact HVV.out
            · exact Or.inr ⟨g, e, by have := HT.out.2.size; omega⟩)
          rw [List.append_assoc, HNX.out] at ho4 hr4
          have HO4 := Lib.hid ho4
          have HR4 := Lib.hid hr4
          clear ho4 hr4 hg4 hv4 hO2 hR2 hG2
          go_wp2
          go_roundw
          case rel => exact ⟨k + 1, vs4, by omega, by go_num, HO4.out, HR4.out, HG4.out, HV4.out⟩
          case measure => simp [intOf]; omega
        · obtain rfl : k = arcs.length := by omega
          rw [fillTo_all] at hO hR
          have HO1 := Lib.hid hO
          have HR1 := Lib.hid hR
          clear hO hR
          go_wp2
          go_ret
          exact ⟨_, vs, rfl, HO1.out, HR1.out, hgr, hvb⟩
    · have hnl2 : ((head.length : Int) == (n : Int)) = false := by
        cases e : ((head.length : Int) == (n : Int)) with
        | false => rfl
        | true => exact absurd (eq_of_beq e) hnl
      have hzi : ((head.length : Int) == 0) = false := by
        cases e : ((head.length : Int) == 0) with
        | false => rfl
        | true => have := eq_of_beq e; omega
      clear hg h2 hval hA hat hne hO hR h0 ih hlen hl
      go_enter Try.func56, Try.ntmps56
      go_wp2
      generalize hv0 : Value.slice Av out.length cv = v at *
      go_loopw [3, 9] (fun v' kv wr => ∃ (k : Nat) (vs : List Value), k ≤ arcs.length ∧ kv = .int .i64 k ∧ wr.ownsRow WA.heap.size 28 1 v' (out ++ fillTo arcs d head k).length vs ∧ RowsOwn wr WA.heap.size v'.ownBlock vs (out ++ fillTo arcs d head k) ∧ w.grownBy wr v.ownBlock ∧ (v'.ownBlock = v.ownBlock ∨ ∃ g, v'.ownBlock = some g ∧ w.heap.size ≤ g)) (fun _ k _ => arcs.length - (intOf k).toNat)
      case atStart => exact ⟨0, vs, Nat.zero_le _, rfl, by rw [fillTo_zero, List.append_nil]; exact HO.out, by rw [fillTo_zero, List.append_nil]; exact HR.out, World.grownBy.refl _ _, Or.inl rfl⟩
      case round =>
        obtain ⟨k, vs, hk, rfl, hO, hR, hgr, hvb⟩ := hrel
        by_cases hkl : k < arcs.length
        · have hBA := HA.out.grown hgr (by have := HA.out.size; omega) HVB.out
          obtain ⟨b, off, b2, o2, d2, rfl, k4, k5, k6⟩ := arc_at (HG.out.below hBA) H2.out hkl
          obtain ⟨hat1, hbl1⟩ := ints_far HAT.out hbl hgr HNE.out
          have hwr := hgr.size
          have HO1 := Lib.hid hO
          have HR1 := Lib.hid hR
          have HGR := Lib.hid hgr
          have HVV := Lib.hid hvb
          have HBA := Lib.hid hBA
          have HAT1 := Lib.hid hat1
          have HB1 : Hid (∀ W', Below wr.heap.size wr W' → W'.ownsRow WA.heap.size 28 1 _ (out ++ fillTo arcs d head k).length vs ∧ RowsOwn W' WA.heap.size _ vs (out ++ fillTo arcs d head k) ∧ w.grownBy W' v.ownBlock) := Lib.hid fun W' h => ⟨kept_below hO h, hR.below h, grown_trans hgr (below_grown h v.ownBlock) (Or.inl rfl)⟩
          have HNX0 := Lib.hid (fillTo_next arcs d head k)
          have hlm := fillTo_mono arcs d head arcs.length (k := k + 1) hkl
          rw [fillTo_all] at hlm
          have HLM := Lib.hid hlm
          have gk : (k : Int) < (arcs.length : Int) := by omega
          clear hO hR hgr hvb hBA hat1 hlm
          have hzc := HAT1.out (head.length - 1) (by omega)
          rw [Nat.zero_add] at hzc
          obtain ⟨z0, z1⟩ := HV.out (head.length - 1) (by omega)
          have HGO : Hid (goesOnM arcs head k = decide (endOf arcs (head.getD (head.length - 1) 0) = cellOf arcs k 0)) := Lib.hid (by
            unfold goesOnM
            rw [decide_eq_false (by omega), Bool.false_or])
          have HVN : Hid (∀ t, t < (head ++ [(k : Int)]).length → 0 ≤ (head ++ [(k : Int)]).getD t 0 ∧ (head ++ [(k : Int)]).getD t 0 < (arcs.length : Int)) := Lib.hid fun t ht => by
            by_cases e : t < head.length
            · have h := HV.out t e
              simpa [List.getD, List.getElem?_append_left e] using h
            · obtain rfl : t = head.length := by simp at ht; omega
              simp [List.getD]; omega
          generalize head.getD (head.length - 1) 0 = z at *
          obtain ⟨zn, rfl⟩ : ∃ n : Nat, z = (n : Int) := ⟨z.toNat, by omega⟩
          obtain ⟨b', off', b1, o1, d1, hbb, q1, q2, q3⟩ := arc_at (HG.out.below HBA.out) H2.out (k := zn) (by omega)
          simp only [Option.some.injEq, Addr.mk.injEq, and_true] at hbb
          obtain ⟨rfl, rfl⟩ := hbb
          unfold endOf at HGO
          rw [Int.toNat_natCast] at HGO
          have g1 : (zn : Int) < (arcs.length : Int) := by omega
          clear q2 k6
          generalize cellOf arcs zn 1 = e1 at *
          generalize cellOf arcs k 0 = e2 at *
          by_cases he : e1 = e2
          · have hgo : goesOnM arcs head k = true := HGO.out.trans (decide_eq_true he)
            have HNX : Hid (fillTo arcs d head k ++ fillM arcs d (head ++ [(k : Int)]) = fillTo arcs d head (k + 1)) := Lib.hid (by rw [HNX0.out, if_pos hgo])
            have HLK : Hid ((out ++ fillTo arcs d head k).length + (fillM arcs d (head ++ [(k : Int)])).length ≤ 50000000000) := Lib.hid (by
              have h1 := HL.out
              have h2 := HLM.out
              rw [← HNX.out, List.length_append] at h2
              rw [List.length_append]; omega)
            subst he
            clear hgo HGO HNX0 HLM
            go_wp2
            go_quiet (fail)
            obtain ⟨W1, hW1⟩ : ∃ W1, wr.drewN nq = W1 := ⟨_, rfl⟩
            have hbd : Below wr.heap.size wr W1 := by rw [← hW1]; exact below_drewN (Below.refl _ _) _
            rw [hW1]
            clear hW1
            obtain ⟨hO2, hR2, hG2⟩ := HB1.out W1 hbd
            have HBA1 := Lib.hid (HBA.out.trans (hbd.mono HBA.out.size))
            have hWA := HBA1.out.size
            have hW1s := hG2.size
            have HAT2 := Lib.hid (HAT1.out.below hbd hbl1)
            have HE : Hid ((W1.alloc (.cells #[] 3)).ownsRow W1.heap.size 3 1 (.slice (some ⟨W1.heap.size, 0, none⟩) 0 0) 0 []) := Lib.hid (World.ownsRow_made (base := W1.heap.size) (e := 3) (size := 1) W1 #[] 0 (Nat.le_refl _) (by unfold maxLen; omega) rfl)
            have hb1 : Below W1.heap.size W1 (W1.alloc (.cells #[] 3)) := (Below.refl _ _).alloc (Nat.le_refl _) _
            have HAT3 := Lib.hid (HAT2.out.below ((Below.refl W1.heap.size W1).alloc (Nat.le_refl _) (.cells #[] 3)) (Nat.lt_of_lt_of_le hbl1 hbd.size))
            have u1 := ints_cells HAT3.out
            have u2 := ints_one head
            go_wp2_with (first | (at_builtin; refine wpList_append_lies _ rfl (.tmp 49) (.tmp 50) 28 rfl W1.heap.size 3 j0 (.int .i64 0) 1 8 Try.underlying28 hj hy0 hy1 hy2 rfl (by decide) _ _ _ rfl HE.out ⟨hb, 0, none⟩ head.length ch (head.map (Value.int .i64)) rfl (by rw [List.length_map, Nat.mul_one]) u1 u2 (by omega) (by unfold maxLen; omega) (by omega) (by simp) (W1.heap.size + 1) (by simp) ?_; intro gg1 cap1 w2 ho2 hg2 hat2 hlt2; have HT1 := Lib.hid (first_part hb1 HE.out ho2 hg2); have hw2 := HT1.out.2.size; clear ho2 hg2 hat2) | (at_builtin; refine wpList_append_lies _ rfl (.tmp 51) (.tmp 53) 28 rfl W1.heap.size 3 j0 (.int .i64 0) 1 8 Try.underlying28 hj hy0 hy1 hy2 rfl (by decide) _ _ _ rfl (HT1.out.1.alloc _) ⟨w2.heap.size, 0, none⟩ 1 1 [.int .i64 (k : Int)] rfl rfl (World.news_of_block (cs := #[.int .i64 (k : Int)]) (t := 3) (fr := (0, 0)) (heap_alloc_new w2 _)) (by simp [Value.oneCell']) (by decide) (by unfold maxLen; omega) (by omega) (by simp; omega) (w2.heap.size + 1) (by simp) ?_; intro gg cap w3 ho3 hg3 hat3 hlt3; have HT := Lib.hid (head_next (x := (k : Int)) HT1.out.2 HT1.out.1 _ rfl ho3 hg3); clear ho3 hg3 hat3))
            have hgb := HT.out.1.lt gg rfl
            have HC := Lib.hid (HIH.out (head ++ [(k : Int)]) _ gg cap _ vs W1 w3 (by rw [List.length_append]; have := HHL.out; simp at this ⊢; omega) HVN.out (HBA1.out.trans (HT.out.2.mono hWA)) hWA hO2 hR2 HT.out.2 (IntsAt.of_owns HT.out.1 rfl) hgb.2 (fun e => by have := (hO2.lt gg e).2; have := hgb.1; omega) (fun _ => HT.out.1) HLK.out)
            have hl1 : (head ++ [(k : Int)]).length = head.length + 1 := by rw [List.length_append]; rfl
            rw [hl1] at HC
            refine HC.out.mono ?_
            rintro e w4 ⟨v4, vs4, rfl, ho4, hr4, hg4, hv4⟩
            have HG4 : Hid (w.grownBy w4 v.ownBlock) := Lib.hid (grown_trans (grown_trans hG2 (below_grown HT.out.2 v.ownBlock) (Or.inl rfl)) hg4 HVV.out)
            have HV4 : Hid (v4.ownBlock = v.ownBlock ∨ ∃ g, v4.ownBlock = some g ∧ w.heap.size ≤ g) := Lib.hid (by
              rcases hv4 with e | ⟨g, e, h⟩
              · rw [e]; exact HVV.out
              · exact Or.inr ⟨g, e, by have := HT.out.2.size; omega⟩)
            rw [List.append_assoc, HNX.out] at ho4 hr4
            have HO4 := Lib.hid ho4
            have HR4 := Lib.hid hr4
            clear ho4 hr4 hg4 hv4 hO2 hR2 hG2
            go_wp2
            go_roundw
            case rel => exact ⟨k + 1, vs4, by omega, by go_num, HO4.out, HR4.out, HG4.out, HV4.out⟩
            case measure => simp [intOf]; omega
          · have hgo : goesOnM arcs head k = false := HGO.out.trans (decide_eq_false he)
            have HNX : Hid (fillTo arcs d head (k + 1) = fillTo arcs d head k) := Lib.hid (by rw [HNX0.out, if_neg (by rw [hgo]; decide), List.append_nil])
            clear hgo HGO HNX0 HLM
            go_wp2
            go_quiet (fail)
            obtain ⟨W1, hW1⟩ : ∃ W1, wr.drewN nq = W1 := ⟨_, rfl⟩
            have hbd : Below wr.heap.size wr W1 := by rw [← hW1]; exact below_drewN (Below.refl _ _) _
            rw [hW1]
            clear hW1
            obtain ⟨hO2, hR2, hG2⟩ := HB1.out W1 hbd
            have HBA1 := Lib.hid (HBA.out.trans (hbd.mono HBA.out.size))
            have hWA := HBA1.out.size
            have hW1s := hG2.size
            rw [← HNX.out] at hO2 hR2
            have HO2 := Lib.hid hO2
            have HR2 := Lib.hid hR2
            clear hO2 hR2
            go_wp2
            go_roundw
            case rel => exact ⟨k + 1, vs, by omega, by go_num, HO2.out, HR2.out, hG2, HVV.out⟩
            case measure => simp [intOf]; omega
        · obtain rfl : k = arcs.length := by omega
          rw [fillTo_all] at hO hR
          have HO1 := Lib.hid hO
          have HR1 := Lib.hid hR
          clear hO hR
          go_wp2
          go_ret
          exact ⟨_, vs, rfl, HO1.out, HR1.out, hgr, hvb⟩

/-- PathsOf. -/
def pathsOkM (m : List (List Int)) (n : Int) : Bool := isGraphM m && ((decide (1 ≤ n) && decide (n ≤ 6)) && (decide (0 ≤ countM m n) && decide (countM m n ≤ 500)))
def pathsM (m : List (List Int)) (n : Int) : List (List Int) := if pathsOkM m n = true then fillM (arcsM m) n.toNat [] else []
theorem pow_le_six {a n : Nat} (ha : a ≤ 60) (hn : n ≤ 6) : a ^ n ≤ 46656000000 :=
  Nat.le_trans (Nat.pow_le_pow_left ha n) (Nat.le_trans (Nat.pow_le_pow_right (by decide) hn) (by decide))

set_option maxRecDepth 100000 in
set_option maxHeartbeats 1600000 in
theorem spec_pathsOf (A : Option Addr) (c : Nat) (m : List (List Int)) (hl : m.length ≤ 1048576) (ht : tot m ≤ 1048576) (n : Int) (w : World) (hg : GridS w A m) :
    Calls Try.prog 22 #[.slice A m.length c, .int .i64 n] w (NewG (pathsM m n) w) := by
  have HI := Lib.hid (spec_isGraph A c m (by omega) (fun k hk => by have := row_le_tot hk; omega) w hg)
  have HN := Lib.hid (fun w' => m_in n 1 6 w')
  have HC := Lib.hid (spec_countPaths A c m hl ht n w hg)
  have HN2 := Lib.hid (fun w' => m_in (countM m n) 0 500 w')
  have HE := Lib.hid (fun w' : World => ownG_empty w')
  cases h1 : isGraphM m with
  | false =>
    rw [show pathsM m n = [] by unfold pathsM pathsOkM; rw [h1]; rfl]
    rw [h1] at HI
    clear hg h1
    go_enter Try.func22, Try.ntmps22
    go_wp2_with fail
    refine HI.out.mono ?_
    rintro e w1 ⟨rfl, hw⟩
    obtain rfl : w = w1 := hw.symm
    go_wp2
    go_ret
    exact ⟨_, rfl, HE.out w, below_new⟩
  | true =>
    rw [h1] at HI
    cases h2 : (decide (1 ≤ n) && decide (n ≤ 6)) with
    | false =>
      rw [show pathsM m n = [] by unfold pathsM pathsOkM; rw [h1, h2]; rfl]
      rw [h2] at HN
      clear hg h1 h2
      go_enter Try.func22, Try.ntmps22
      go_wp2_with fail
      refine HI.out.mono ?_
      rintro e w1 ⟨rfl, hw⟩
      obtain rfl : w = w1 := hw.symm
      go_wp2_with fail
      refine (HN.out _).mono ?_
      rintro e w1 ⟨rfl, hw⟩
      obtain rfl : w = w1 := hw.symm
      go_wp2
      go_ret
      exact ⟨_, rfl, HE.out w, below_new⟩
    | true =>
      rw [h2] at HN
      cases h3 : (decide (0 ≤ countM m n) && decide (countM m n ≤ 500)) with
      | false =>
        rw [show pathsM m n = [] by unfold pathsM pathsOkM; rw [h1, h2, h3]; rfl]
        rw [h3] at HN2
        clear hg h1 h2 h3
        generalize countM m n = x at *
        go_enter Try.func22, Try.ntmps22
        go_wp2_with fail
        refine HI.out.mono ?_
        rintro e w1 ⟨rfl, hw⟩
        obtain rfl : w = w1 := hw.symm
        go_wp2_with fail
        refine (HN.out _).mono ?_
        rintro e w1 ⟨rfl, hw⟩
        obtain rfl : w = w1 := hw.symm
        go_wp2_with fail
        refine HC.out.mono ?_
        rintro e w2 ⟨rfl, hb⟩
        go_wp2_with fail
        refine (HN2.out _).mono ?_
        rintro e w3 ⟨rfl, hw⟩
        obtain rfl : w2 = w3 := hw.symm
        go_wp2
        go_ret
        exact ⟨_, rfl, (HE.out w2).mono hb.size, hb.alloc hb.size _⟩
      | true =>
        rw [show pathsM m n = fillM (arcsM m) n.toNat [] by unfold pathsM pathsOkM; rw [h1, h2, h3]; rfl]
        rw [h3] at HN2
        obtain ⟨hz, hs⟩ := isGraphM_facts h1
        rw [Bool.and_eq_true, decide_eq_true_iff, decide_eq_true_iff] at h2
        obtain ⟨d, rfl⟩ : ∃ d : Nat, n = (d : Int) := ⟨n.toNat, by omega⟩
        rw [Int.toNat_natCast]
        have hlen := arcsM_length hz
        have HA : Hid (∀ w', Below w.heap.size w w' → Calls Try.prog 57 #[.slice A m.length c] w' (NewG (arcsM m) w')) := Lib.hid fun w' hb => spec_arcs A c m hz w' (hg.below hb)
        have HTWO := Lib.hid (arcsM_two m)
        have hal : (arcsM m).length ≤ 60 := by omega
        have HFL := Lib.hid (Nat.le_trans (fillM_le (arcsM m) d []) (pow_le_six hal (by omega)))
        clear hg h1 h3 hz hs hlen
        generalize countM m (d : Int) = x at *
        generalize arcsM m = arcs at *
        go_enter Try.func22, Try.ntmps22
        go_wp2_with fail
        refine HI.out.mono ?_
        rintro e w1 ⟨rfl, hw⟩
        obtain rfl : w = w1 := hw.symm
        go_wp2_with fail
        refine (HN.out _).mono ?_
        rintro e w1 ⟨rfl, hw⟩
        obtain rfl : w = w1 := hw.symm
        go_wp2_with fail
        refine HC.out.mono ?_
        rintro e w2 ⟨rfl, hb⟩
        go_wp2_with fail
        refine (HN2.out _).mono ?_
        rintro e w3 ⟨rfl, hw⟩
        obtain rfl : w2 = w3 := hw.symm
        have HB2 := Lib.hid hb
        clear hb
        go_wp2_with fail
        refine (HA.out _ HB2.out).mono ?_
        rintro e WA ⟨v, rfl, ho, hb⟩
        obtain ⟨Aa, ca, rfl, hga⟩ := ho.gridS
        have HBA := Lib.hid (below_behind HB2.out hb)
        have hsA := HBA.out.size
        have hbn : Below WA.heap.size WA ((WA.alloc (.cells #[] 3)).alloc (.cells #[] 28)) := ((Below.refl _ _).alloc (Nat.le_refl _) _).alloc (by simp) _
        have hO : ((WA.alloc (.cells #[] 3)).alloc (.cells #[] 28)).ownsRow WA.heap.size 28 1 (.slice (some ⟨WA.heap.size + 1, 0, none⟩) 0 0) 0 [] := by
          have h := World.ownsRow_made (base := WA.heap.size) (e := 28) (size := 1) (WA.alloc (.cells #[] 3)) #[] 0 (by simp) (by unfold maxLen; omega) rfl
          rw [World.size_alloc] at h; exact h
        have HF := Lib.hid (spec_fill WA Aa ca arcs hga HTWO.out hal d (by omega) d [] [] WA.heap.size 0 (.slice (some ⟨WA.heap.size + 1, 0, none⟩) 0 0) [] _ _ (by simp) (fun k hk => by simp at hk) hbn (by simp; omega) hO (RowsOwn.nil _ _ _) (Below.refl _ _) (fun k hk => by simp at hk) (by simp; omega) (fun e => by have h : WA.heap.size + 1 = WA.heap.size := Option.some.inj e; omega) (fun e => by omega) (by have := HFL.out; simp; omega))
        rw [List.length_nil, List.nil_append] at HF
        have HBN := Lib.hid hbn
        clear ho hb hga hbn hO
        go_wp2_with fail
        refine HF.out.mono ?_
        rintro e w5 ⟨v5, vs5, rfl, ho5, hr5, hg5, _⟩
        have HO5 := Lib.hid (OwnG.mono ⟨vs5, ho5, hr5⟩ hsA)
        have HB5 := Lib.hid ((HBA.out.trans (HBN.out.mono hsA)).grown hg5 (by simp; omega) fun q hq => by have h : WA.heap.size + 1 = q := Option.some.inj hq; omega)
        clear ho5 hr5 hg5
        go_wp2
        go_ret
        exact ⟨_, rfl, HO5.out, HB5.out⟩
end Go.Proofs.Ythljogoggiejmaa
