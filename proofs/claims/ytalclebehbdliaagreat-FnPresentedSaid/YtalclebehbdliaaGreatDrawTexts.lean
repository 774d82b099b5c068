/-
  Merged: The model's draws of letters and short words: whatever the bytes, a short string; what lay above the cursor is as it was.
  The model's ParseShift at short texts: a shift whose words are few and short, in new memory; and its put of a word into a list that the call owns, wherever that lies.
  The model's put of a word into an ascending list that the call owns, wherever it lies, and also where it is nil: the list is the call's own, and no other block is changed.
  The model's draws of shifts: whatever the bytes, a shift whose words are few and short, its list in new memory; what lay above the cursor is as it was.
  The model's draw of a shift, bent: its letters or its list may be none of a shift's; the list in new memory.
  The model's draw of a shift and a number: whatever the bytes, a short shift in new memory; nothing that was there before is changed.
-/
import Derived.Test.YtalclebehbdliaaGreatBaseTexts
import Derived.Deep.RegionHeld3
import Derived.Deep.RegionLaw
import Derived.Deep.AppendLies
namespace Go.Proofs.YtalclebehbdliaaGreat
open Go Go.RowKit

theorem cur_lt {B : Nat} {a : Option Addr} {n c g : Nat} {W0 w : World} (h : Cur B a n c g W0 w) : g < w.heap.size := by
  obtain ⟨_, _, _, i, x, _, h5⟩ := h
  exact lt_of_block h5
theorem cur_from {B : Nat} {a : Option Addr} {n c g : Nat} {W0 w : World} (h : Cur B a n c g W0 w) : B ≤ g := h.2.2.1
theorem only_from {g : Nat} {w w' : World} (h : Only g w w') : From (g + 1) w w' := ⟨Nat.le_of_eq h.1.symm, fun k hk _ => h.2 k (by omega)⟩
theorem from_new {B : Nat} {w : World} (o : Obj) : From B w (w.alloc o) := From.of_below ((Below.refl _ _).alloc (Nat.le_refl _) _)
theorem from_drew {B : Nat} {w : World} : From B w w.drew := ⟨Nat.le_refl _, fun _ _ _ => rfl⟩
theorem strs_from {B : Nat} {w w' : World} {g o : Nat} {xs : List ByteArray} (h : StrsAt w g o xs) (hf : From B w w') (hB : B ≤ g) (hl : g < w.heap.size) : StrsAt w' g o xs := fun k hk =>
  (World.cell?_of_block (w := w) (w' := w') (a := ⟨g, o + k, none⟩) (hf.block g hB hl)).trans (h k hk)
/-- A short string, the cursor moved on; what lay above the cursor is as it was. -/
def StrNew (m : Nat) (B : Nat) (a : Option Addr) (n c g : Nat) (W0 w : World) (e : Ending) (w' : World) : Prop := ∃ s : ByteArray, s.size ≤ m ∧ e = .returned (.string s) ∧ Cur B a n c g W0 w' ∧ From (g + 1) w w'
def abcL : List ByteArray := [⟨#[97]⟩, ⟨#[98]⟩, ⟨#[99]⟩]
theorem abcL_short : ∀ s ∈ abcL, s.size ≤ 1 := by decide
theorem getD_memS {l : List ByteArray} {k : Nat} (h : k < l.length) : l.getD k ByteArray.empty ∈ l := by
  simp only [List.getD, List.getElem?_eq_getElem h, Option.getD_some]
  exact List.getElem_mem h
theorem pick_of (xs : List ByteArray) (m d b : Nat) (hx0 : 0 < xs.length) (hx : xs.length ≤ 1000) (hs : ∀ s ∈ xs, s.size ≤ m) (B : Nat) (a : Option Addr) (n c g : Nat) (W0 w : World) (hcode : CodeAt W0 B a n) (hn : n ≤ 1048576) (hcur : Cur B a n c g W0 w) (hst : StrsAt w b 0 xs) (hbg : b ≠ g) :
    Calls Tryz.prog 76 #[.pointer (some ⟨g, 0, none⟩), .slice (some ⟨b, 0, none⟩) xs.length d] w (StrNew m B a n c g W0 w) := by
  refine (l1Pick b d xs hx0 (by omega) B a n c g W0 w hcode hn hcur hst hbg).mono ?_
  rintro e w1 ⟨k, hk, rfl, hc, ho⟩
  exact ⟨_, hs _ (getD_memS hk), rfl, hc, only_from ho⟩
theorem abc_take {k : Nat} (h3 : k ≤ 3) : (abcL.take k).length = k := by rw [List.length_take]; simp [abcL]; omega
theorem abc_at {w : World} {b k : Nat} (h : StrsAt w b 0 abcL) (h3 : k ≤ 3) : StrsAt w b 0 (abcL.take k) := fun j hj => by
  rw [abc_take h3] at hj
  rw [h j (by simp [abcL]; omega)]
  simp [List.getD_eq_getElem?_getD, hj]

set_option maxRecDepth 100000 in
set_option maxHeartbeats 800000 in
theorem draw_word (k m : Nat) (h1 : 1 ≤ k) (h3 : k ≤ 3) (hm : m ≤ 100) (B : Nat) (a : Option Addr) (n c g : Nat) (W0 w : World) (hcode : CodeAt W0 B a n) (hn : n ≤ 1048576) (hcur : Cur B a n c g W0 w) :
    Calls Tryz.prog 104 #[.pointer (some ⟨g, 0, none⟩), .int .i64 (k : Int), .int .i64 (m : Int)] w (StrNew m B a n c g W0 w) := by
  have HB := Lib.hid (l1Below ((m : Int) + 1) (by omega) B a n c g W0 w hcode hn hcur)
  have hgl := cur_lt hcur
  have HP : Hid (∀ w', Cur B a n c g W0 w' → Calls Tryz.prog 76 #[.pointer (some ⟨g, 0, none⟩), .slice (some ⟨w'.heap.size, 0, none⟩) k 3] (w'.alloc (.cells #[.string ⟨#[97]⟩, .string ⟨#[98]⟩, .string ⟨#[99]⟩] 9)) (StrNew 1 B a n c g W0 (w'.alloc (.cells #[.string ⟨#[97]⟩, .string ⟨#[98]⟩, .string ⟨#[99]⟩] 9)))) := Lib.hid fun w' hc => by
    have h := pick_of (abcL.take k) 1 3 w'.heap.size (by rw [abc_take h3]; omega) (by rw [abc_take h3]; omega) (fun s hs => abcL_short s (List.mem_of_mem_take hs)) B a n c g W0 (w'.alloc (.cells #[.string ⟨#[97]⟩, .string ⟨#[98]⟩, .string ⟨#[99]⟩] 9)) hcode hn (hc.alloc _) (abc_at (strsAt_new w' abcL 9) h3) (by have := cur_lt hc; omega)
    rw [abc_take h3] at h
    exact h
  clear hcode hcur
  go_enter Tryz.func104, Tryz.ntmps104
  go_wp2_with fail
  refine HB.out.mono ?_
  rintro e w1 ⟨x, x0, x1, rfl, hc1, ho1⟩
  obtain ⟨t, rfl⟩ := Int.eq_ofNat_of_zero_le x0
  have ht : t ≤ m := by omega
  have HC1 := Lib.hid hc1
  have HF1 := Lib.hid (only_from ho1)
  clear hc1 x0 x1 ho1
  go_wp2
  go_loopw [7, 8] (fun v i wr => ∃ (d : Nat) (s : ByteArray), d ≤ t ∧ i = .int .i64 d ∧ v = .string s ∧ s.size + d ≤ m ∧ Hid (Cur B a n c g W0 wr) ∧ Hid (From (g + 1) w wr)) (fun _ i _ => (intOf i).toNat)
  case atStart => exact ⟨t, ByteArray.empty, Nat.le_refl _, rfl, rfl, by simpa using ht, HC1, HF1⟩
  case round =>
    obtain ⟨d, s, hd, rfl, rfl, hs, hc, hf⟩ := hrel
    by_cases h0 : 0 < d
    · have HP1 := Lib.hid (HP.out wr hc.out)
      go_wp2_with fail
      refine HP1.out.mono ?_
      rintro e w2 ⟨y, hy, rfl, hc2, hf2⟩
      have HC2 := Lib.hid hc2
      have HF2 := Lib.hid ((hf.out.trans (from_new _)).trans hf2)
      clear hc2 hf2
      go_wp2
      go_roundw
      case rel => exact ⟨d - 1, s ++ y, by omega, by go_num, rfl, by rw [ByteArray.size_append]; omega, HC2, HF2⟩
      case measure => simp [intOf]; omega
    · obtain rfl : d = 0 := by omega
      go_wp2
      go_ret
      exact ⟨s, by omega, rfl, hc.out, hf.out⟩
end Go.Proofs.YtalclebehbdliaaGreat
namespace Go.Proofs.YtalclebehbdliaaGreat
open Go Go.RowKit

theorem sizeS (w : World) : (sizeOf 9).run Tryz.prog w = .ok 1 w := Tryz.sizeOf9 w
set_option maxRecDepth 100000 in
theorem strs_to (a : Addr) (n c j : Nat) (hj : j ≤ c) (w : World) : (Instr.slice 24 (.slice (some a) n c) none (some (.int .i64 (j : Int))) none).run Tryz.prog w = .ok (.slice (some a) j c) w := by
  have ht : Tryz.prog.underlying 24 = some (.slice (Tryz.prog.elem 24)) := Tryz.underlying24
  have he : Tryz.prog.elem 24 = 9 := by kernel_rfl
  rw [run_slice_h w _ _ _ _ ht .i64 (j : Int) (by omega) (by omega), he, sizeS]
  simp [Result.andThen, sliced, Addr.add]
set_option maxRecDepth 100000 in
theorem strs_from1 (b n c : Nat) (hn : n + 1 ≤ c) : ∃ p2, (p2 = 1 ∨ n = 0) ∧ ∀ w, (Instr.slice 24 (.slice (some ⟨b, 0, none⟩) (n + 1) c) (some (.int .i64 1)) none none).run Tryz.prog w = .ok (.slice (some ⟨b, p2, none⟩) n (c - 1)) w := by
  have ht : Tryz.prog.underlying 24 = some (.slice (Tryz.prog.elem 24)) := Tryz.underlying24
  have he : Tryz.prog.elem 24 = 9 := by kernel_rfl
  by_cases h : c = 1
  · refine ⟨0, Or.inr (by omega), fun w => ?_⟩
    rw [run_slice_l w _ _ _ _ ht .i64 (1 : Int) (by omega) (by omega), he, sizeS]
    simp [Result.andThen, sliced, h]
  · refine ⟨1, Or.inl rfl, fun w => ?_⟩
    rw [run_slice_l w _ _ _ _ ht .i64 (1 : Int) (by omega) (by omega), he, sizeS]
    simp [Result.andThen, sliced, h, Addr.add]

/-- A shift of which the words are few and short, in new memory. -/
def SmallL (ps : List ByteArray) : Prop := ps.length ≤ 200 ∧ ∀ x ∈ ps, x.size ≤ 1000
def ShOwn (w : World) (B : Nat) (v : Value) (L : Int) (ps : List ByteArray) : Prop := (∃ A cA, v = .agg #[.int .i64 L, .slice A ps.length cA] ∧ w.ownsRow B 9 1 (.slice A ps.length cA) ps.length (ps.map Value.string)) ∧ SmallL ps
def ParsedOwn (w : World) (e : Ending) (w' : World) : Prop := ∃ v L ps b, e = .returned (.tuple #[v, .bool b]) ∧ ShOwn w' w.heap.size v L ps ∧ Below w.heap.size w w'
theorem shOwn_nil (w : World) (B : Nat) (L : Int) : ShOwn w B (.agg #[.int .i64 L, .slice none 0 0]) L [] := ⟨⟨none, 0, rfl, World.ownsRow_nil w B 9 1⟩, by simp [SmallL]⟩

set_option maxRecDepth 100000 in
set_option maxHeartbeats 3200000 in
theorem spec_parseO (s : ByteArray) (hs : s.size ≤ 100) (w : World) :
    Calls Tryz.prog 103 #[.string s] w (ParsedOwn w) := by
  obtain ⟨i0, hi, hz0, hz1, hz2⟩ := info_parts infoStr
  obtain ⟨hlen, htot, _⟩ := parts_facts 32 s.size s (Nat.le_refl _)
  obtain ⟨p, xs, hp⟩ : ∃ p xs, parts 32 s = p :: xs := by
    have h := parts_length 32 s
    cases hq : parts 32 s with
    | nil => rw [hq] at h; simp at h
    | cons p xs => exact ⟨p, xs, rfl⟩
  rw [hp] at hlen htot
  have hb := (Below.refl w.heap.size w).alloc (Nat.le_refl _) (.cells #[.int .i64 0, .slice none 0 0] 26)
  have h0 := heap_alloc_new w (.cells #[.int .i64 0, .slice none 0 0] 26)
  have hsp := spec_split 32 s (by omega) (w.alloc (.cells #[.int .i64 0, .slice none 0 0] 26))
  unfold PartsPost at hsp
  rw [hp] at hsp
  have HSP := Lib.hid hsp
  have htot2 : total (p :: xs) = p.size + total xs := by simp [total]
  have hxl : xs.length ≤ 100 := by simp at hlen; omega
  have HXS : Hid (∀ x ∈ xs, x.size ≤ 1000) := Lib.hid fun x hx => by
    obtain ⟨k, hk, rfl⟩ := List.getElem_of_mem hx
    have := size_le_total (xs := xs) hk
    rw [List.getD_eq_getElem?_getD, List.getElem?_eq_getElem hk, Option.getD_some] at this
    omega
  have HPN := Lib.hid (fun w' => spec_parseInt p (by omega) w')
  have HB := Lib.hid hb
  have HH := Lib.hid h0
  clear hsp hb h0 hlen htot hp htot2
  go_enter Tryz.func103, Tryz.ntmps103
  go_wp2_with fail
  refine HSP.out.mono ?_
  rintro e w2 ⟨g, cap, rfl, ow, b2⟩
  rw [World.size_alloc] at ow b2
  have HO2 := Lib.hid ow
  have hg := ow.lt g rfl
  have hcap : xs.length + 1 ≤ cap := by
    rcases ow.2 with ⟨h', _⟩ | ⟨g', cap', cur, h', _, _, hnc, _⟩
    · simp at h'
    · simp only [Value.slice.injEq, Option.some.injEq, Addr.mk.injEq, and_true, true_and] at h'
      obtain ⟨rfl, rfl⟩ := h'
      simpa using hnc
  have c0 : w2.cell? ⟨g, 0, none⟩ = some (.string p) := by
    have := ow.cellAt 0 (by simp)
    simpa using this
  have HB2 := Lib.hid (HB.out.trans (b2.mono (by omega)))
  have HH2 := Lib.hid ((b2.block w.heap.size (by omega)).trans HH.out)
  have HP1 := Lib.hid (HPN.out w2)
  have hs2 : w.heap.size + 1 ≤ w2.heap.size := by have := b2.size; rw [World.size_alloc] at this; exact this
  have l1 : (p :: xs).length = xs.length + 1 := rfl
  rw [l1]
  clear ow b2 l1
  go_wp2_with fail
  refine HP1.out.mono ?_
  rintro e w3 ⟨rfl, b3⟩
  have HO3 := Lib.hid (owns_below HO2.out b3)
  have HB3 := Lib.hid (below_after HB2.out b3)
  have HH3 := Lib.hid ((b3.block w.heap.size (by omega)).trans HH2.out)
  have hs3 : w2.heap.size ≤ w3.heap.size := b3.size
  clear b3 c0
  obtain ⟨n, HN⟩ : ∃ n, Hid (numV (intOfS p) = n) := ⟨_, Lib.hid rfl⟩
  obtain ⟨bo, HBO⟩ : ∃ b, Hid (numB (intOfS p) = b) := ⟨_, Lib.hid rfl⟩
  rw [HN.out, HBO.out]
  clear HP1 HSP HPN HO2 HB2 HH2 HB HH
  have b3a := (Below.refl w3.heap.size w3).alloc (Nat.le_refl _) (.cells #[] 9)
  have HM := Lib.hid (World.ownsRow_made (base := w3.heap.size) (e := 9) (size := 1) w3 #[] 0 (Nat.le_refl _) (by decide) rfl)
  have HBa := Lib.hid (HB3.out.trans (b3a.mono (by omega)))
  have HHa := Lib.hid ((heap_alloc_old w3 (.cells #[] 9) (by omega)).trans HH3.out)
  obtain ⟨p2, hp2, hsl⟩ := strs_from1 g xs.length cap hcap
  have hst : 0 < xs.length → ∃ ad : Addr, (some ⟨g, p2, none⟩ : Option Addr) = some ad ∧ ∀ j u, (xs.map Value.string)[j]? = some u → (w3.alloc (.cells #[] 9)).cell? (ad.add j) = some u := fun hpos => by
    have e2 : p2 = 1 := by omega
    subst e2
    refine ⟨_, rfl, fun j u hu => ?_⟩
    have hj : j < xs.length := by
      by_cases hj : j < xs.length
      · exact hj
      · rw [List.getElem?_eq_none (by simpa using Nat.le_of_not_lt hj)] at hu; cases hu
    have e : (⟨g, 1, none⟩ : Addr).add j = ⟨g, 1 + j, none⟩ := by unfold Addr.add; split <;> simp_all
    have h1 := (HO3.out.alloc (.cells #[] 9)).cellAt (1 + j) (by simp; omega)
    rw [e, h1]
    rw [List.getElem?_map, List.getElem?_eq_getElem hj] at hu
    simp only [Option.map_some, Option.some.injEq] at hu
    simp [Nat.add_comm 1 j, hj, ← hu]
  have HST := Lib.hid hst
  clear b3a hst hp2
  cases bo with
  | false =>
    go_wp2_with (at_builtin; refine wpList_append_src rfl (.tmp 18) (.tmp 20) 24 rfl w3.heap.size 9 i0 (.string ByteArray.empty) 16 Tryz.underlying24 hi hz0 hz1 hz2 rfl _ _ _ rfl HM.out (some ⟨g, p2, none⟩) xs.length (cap - 1) (xs.map Value.string) rfl (by simp) HST.out str_one (by unfold maxLen; omega) (by omega) (by simp) ?_; intro v4 w4 ho4 hg4; have ho4' : w4.ownsRow w3.heap.size 9 1 v4 xs.length (xs.map Value.string) := (by rw [Nat.zero_add] at ho4; exact ho4); obtain ⟨A4, c4, rfl⟩ : ∃ A c, v4 = .slice A xs.length c := (by rcases ho4'.2 with ⟨rfl, h0⟩ | ⟨b, cc, cur, rfl, _⟩; exact ⟨none, 0, by rw [h0]⟩; exact ⟨_, cc, rfl⟩); have hb4 : Below w.heap.size w w4 := HBa.out.grown hg4 (by simp; omega) (fun q hq => by have := (HM.out.lt q hq).1; omega); have hh4 := (hg4.block w.heap.size (by simp; omega) (fun e => by have := (HM.out.lt _ e.symm).1; omega)).trans HHa.out; have hs4 := hg4.size; rw [World.size_alloc] at hs4; have HO4 := Lib.hid ho4'; have HB4 := Lib.hid hb4; have HH4 := Lib.hid hh4; have h6 := (heap_alloc_old w4 (.cells #[.int .i64 n, .slice A4 xs.length c4] 26) (by omega)).trans hh4; obtain ⟨d0, d1, d2⟩ := sh_cells h6; have HH6 := Lib.hid h6; clear ho4 ho4' hg4 hb4 hh4 h6)
    have HB6 := Lib.hid (HB4.out.alloc (by omega) (.cells #[.int .i64 n, .slice A4 xs.length c4] 26))
    refine bodyPost_ret (results_sh rfl _ _ w.heap.size 26 #[.int .i64 0, .slice none 0 0] (0, 0) _ rfl (sh_stores HH6.out) Tryz.underlying26 rfl (by kernel_rfl)) rfl ?_
    exact ⟨_, 0, [], false, rfl, shOwn_nil _ _ _, below_stores HB6.out (Nat.le_refl _) _ _⟩
  | true =>
    go_wp2_with (at_builtin; refine wpList_append_src rfl (.tmp 18) (.tmp 20) 24 rfl w3.heap.size 9 i0 (.string ByteArray.empty) 16 Tryz.underlying24 hi hz0 hz1 hz2 rfl _ _ _ rfl HM.out (some ⟨g, p2, none⟩) xs.length (cap - 1) (xs.map Value.string) rfl (by simp) HST.out str_one (by unfold maxLen; omega) (by omega) (by simp) ?_; intro v4 w4 ho4 hg4; have ho4' : w4.ownsRow w3.heap.size 9 1 v4 xs.length (xs.map Value.string) := (by rw [Nat.zero_add] at ho4; exact ho4); obtain ⟨A4, c4, rfl⟩ : ∃ A c, v4 = .slice A xs.length c := (by rcases ho4'.2 with ⟨rfl, h0⟩ | ⟨b, cc, cur, rfl, _⟩; exact ⟨none, 0, by rw [h0]⟩; exact ⟨_, cc, rfl⟩); have hb4 : Below w.heap.size w w4 := HBa.out.grown hg4 (by simp; omega) (fun q hq => by have := (HM.out.lt q hq).1; omega); have hh4 := (hg4.block w.heap.size (by simp; omega) (fun e => by have := (HM.out.lt _ e.symm).1; omega)).trans HHa.out; have hs4 := hg4.size; rw [World.size_alloc] at hs4; have HO4 := Lib.hid ho4'; have HB4 := Lib.hid hb4; have HH4 := Lib.hid hh4; clear ho4 ho4' hg4 hb4 hh4)
    obtain ⟨W5, hW5⟩ : ∃ W5, w4.alloc (.cells #[.int .i64 n, .slice A4 xs.length c4] 26) = W5 := ⟨_, rfl⟩
    have s5 : W5.heap.size = w4.heap.size + 1 := by rw [← hW5]; simp
    have h5 : W5.heap[w.heap.size]? = some (.cells #[.int .i64 0, .slice none 0 0] 26) := by rw [← hW5]; exact (heap_alloc_old w4 _ (by omega)).trans HH4.out
    have x5 : BoxAt W5 w4.heap.size n (.slice A4 xs.length c4) := by rw [← hW5]; exact boxAt_new w4 n _ 26
    have o5 : W5.ownsRow w3.heap.size 9 1 (.slice A4 xs.length c4) xs.length (xs.map Value.string) := by rw [← hW5]; exact HO4.out.alloc _
    have b5 : Below w.heap.size w W5 := by rw [← hW5]; exact HB4.out.alloc (by omega) _
    have CI := Lib.hid (spec_isShift n A4 c4 xs (by omega) (fun k hk => by have := HXS.out _ (getD_memS hk); omega) W5 (strsG_of_owns o5))
    have H5 := Lib.hid (fun w' (h : Below W5.heap.size W5 w') => (h.block w.heap.size (by omega)).trans h5)
    have X5 := Lib.hid (fun w' (h : Below W5.heap.size W5 w') => x5.below h (by omega))
    have O5 := Lib.hid (fun w' (h : Below W5.heap.size W5 w') => owns_below o5 h)
    have B5 := Lib.hid (fun w' (h : Below W5.heap.size W5 w') => b5.trans (h.mono (by omega)))
    rw [hW5]
    clear hW5 h5 x5 o5 b5
    refine CI.out.mono ?_
    rintro e w6 ⟨rfl, b6⟩
    have h6 := H5.out w6 b6
    obtain ⟨d0, d1, d2⟩ := sh_cells h6
    obtain ⟨y0, y1⟩ := X5.out w6 b6
    have HH6 := Lib.hid h6
    have O6 := Lib.hid (O5.out w6 b6)
    have B6 := Lib.hid (B5.out w6 b6)
    clear h6 b6 H5 X5 O5 B5 CI
    cases hsf : isShift n xs with
    | false =>
      clear hsf
      go_wp2
      refine bodyPost_ret (results_sh rfl _ _ w.heap.size 26 #[.int .i64 0, .slice none 0 0] (0, 0) _ rfl (sh_stores HH6.out) Tryz.underlying26 rfl (by kernel_rfl)) rfl ?_
      exact ⟨_, 0, [], false, rfl, shOwn_nil _ _ _, below_stores B6.out (Nat.le_refl _) _ _⟩
    | true =>
      clear hsf
      go_wp2
      refine bodyPost_ret (results_sh rfl _ _ w.heap.size 26 #[.int .i64 n, .slice A4 xs.length c4] (0, 0) _ rfl (sh_stores HH6.out) Tryz.underlying26 rfl (by kernel_rfl)) rfl ?_
      exact ⟨_, n, xs, true, rfl, ⟨⟨A4, c4, rfl, World.ownsRow.mono (owns_stores O6.out (by omega)) (by omega)⟩, by omega, HXS.out⟩, below_stores B6.out (Nat.le_refl _) _ _⟩
end Go.Proofs.YtalclebehbdliaaGreat
namespace Go.Proofs.YtalclebehbdliaaGreat
open Go Go.RowKit

/-- A list of the call's own; of the older blocks that one alone may have turned where the list lay. -/
def PutAny (B : Nat) (A : Option Addr) (x : ByteArray) (ps : List ByteArray) (w : World) (e : Ending) (w' : World) : Prop :=
  ∃ g c, e = .returned (.slice (some ⟨g, 0, none⟩) (putW x ps).length c) ∧ w'.ownsRow B 9 1 (.slice (some ⟨g, 0, none⟩) (putW x ps).length c) (putW x ps).length ((putW x ps).map Value.string) ∧ Below B w w' ∧ w.heap.size ≤ w'.heap.size ∧ (∀ k, k < w.heap.size → A ≠ some ⟨k, 0, none⟩ → w'.heap[k]? = w.heap[k]?) ∧ (A = some ⟨g, 0, none⟩ ∨ w.heap.size ≤ g)

set_option maxRecDepth 100000 in
set_option maxHeartbeats 1600000 in
theorem put_nil (x : ByteArray) (w : World) :
    Calls Tryz.prog 54 #[.slice none 0 0, .string x] w fun e w' => ∃ g c, e = .returned (.slice (some ⟨g, 0, none⟩) 1 c) ∧ w'.ownsRow w.heap.size 9 1 (.slice (some ⟨g, 0, none⟩) 1 c) 1 [.string x] ∧ Below w.heap.size w w' := by
  obtain ⟨i0, hi, hz0, hz1, hz2⟩ := info_parts infoStr
  have HM := Lib.hid (World.ownsRow_made (base := w.heap.size) (e := 9) (size := 1) w #[] 0 (Nat.le_refl _) (by decide) rfl)
  have HBA := Lib.hid ((Below.refl w.heap.size w).alloc (Nat.le_refl _) (.cells #[] 9))
  go_enter Tryz.func54, Tryz.ntmps54
  go_wp2
  go_loopw [5] (fun iv wr => iv = .int .i64 0 ∧ wr = w) (fun _ _ => 0)
  case atStart => exact ⟨rfl, rfl⟩
  case round =>
    obtain ⟨rfl, rfl⟩ := hrel
    obtain ⟨W0, rfl⟩ : ∃ W0 : World, W0 = wr := ⟨_, rfl⟩
    go_wp2_with (first
      | (at_builtin; refine wpList_append_src rfl (.tmp 34) (.tmp 37) 24 rfl W0.heap.size 9 i0 (.string ByteArray.empty) 16 Tryz.underlying24 hi hz0 hz1 hz2 rfl _ _ _ rfl HM.out none 0 0 [] rfl rfl (fun h => absurd h (by decide)) (fun u hu => by cases hu) (by unfold maxLen; omega) (by omega) (by simp) ?_; intro v1 w1 ho1 hg1; obtain ⟨A1, c1, rfl⟩ : ∃ A c, v1 = .slice A 0 c := (by rcases ho1.2 with ⟨rfl, _⟩ | ⟨b, cc, cur, rfl, _⟩; exact ⟨none, 0, rfl⟩; exact ⟨_, cc, rfl⟩); have HO1 : Hid (w1.ownsRow W0.heap.size 9 1 (.slice A1 0 c1) 0 []) := Lib.hid ho1; have HB1 := Lib.hid (HBA.out.grown hg1 (by simp) (fun q hq => (HM.out.lt q hq).1)); have hs1 := hg1.size; rw [World.size_alloc] at hs1; clear ho1 hg1)
      | (at_builtin; refine wpList_append_lies _ rfl (.tmp 41) (.tmp 43) 24 rfl w1.heap.size 9 i0 (.string ByteArray.empty) 1 16 Tryz.underlying24 hi hz0 hz1 hz2 rfl (by decide) _ _ _ rfl (World.ownsRow_nil _ w1.heap.size 9 1) ⟨w1.heap.size, 0, none⟩ 1 1 [.string x] rfl rfl (World.news_of_block (cs := #[.string x]) (t := 9) (fr := (0, 0)) (heap_alloc_new w1 _)) (by simp [Value.oneCell']) (by decide) (by unfold maxLen; omega) (by omega) (by simp) (w1.heap.size + 1) (by simp) ?_; intro g2 c2 w2 ho2 hg2 hat2 hlt2; have HO2 : Hid (w2.ownsRow w1.heap.size 9 1 (.slice (some ⟨g2, 0, none⟩) 1 c2) 1 [.string x]) := Lib.hid ho2; have HB2 := Lib.hid ((HB1.out.alloc (by omega) _).grown hg2 (by simp; omega) (fun q hq => by cases hq)); have hs2 := hg2.size; rw [World.size_alloc] at hs2; clear ho2 hg2 hat2)
      | (at_builtin; refine wpList_append_src rfl (.tmp 44) (.tmp 45) 24 rfl w1.heap.size 9 i0 (.string ByteArray.empty) 16 Tryz.underlying24 hi hz0 hz1 hz2 rfl _ _ _ rfl HO2.out A1 0 c1 [] rfl rfl (fun h => absurd h (by decide)) (fun u hu => by cases hu) (by unfold maxLen; omega) (by omega) (by omega) ?_; intro v3 w3 ho3 hg3; have HO3 : Hid (w3.ownsRow w1.heap.size 9 1 v3 1 [.string x]) := Lib.hid ho3; have HB3 := Lib.hid (HB2.out.grown hg3 (by omega) (fun q hq => by have := (HO2.out.lt q hq).1; omega)); clear ho3 hg3))
    go_ret
    obtain ⟨g3, c3, rfl, _, _⟩ := World.ownsRow.form HO3.out (by decide)
    exact ⟨g3, c3, rfl, World.ownsRow.mono HO3.out (by omega), HB3.out⟩
theorem put_any (B : Nat) (A : Option Addr) (cA : Nat) (ps : List ByteArray) (x : ByteArray) (hl : ps.length ≤ 1000) (w : World) (hB : B ≤ w.heap.size)
    (ho : w.ownsRow B 9 1 (.slice A ps.length cA) ps.length (ps.map Value.string)) :
    Calls Tryz.prog 54 #[.slice A ps.length cA, .string x] w (PutAny B A x ps w) := by
  rcases ho.2 with ⟨h, h0⟩ | ⟨g, cap, cur, h, _⟩
  · simp only [Value.slice.injEq] at h
    obtain ⟨rfl, hp, rfl⟩ := h
    obtain rfl : ps = [] := List.eq_nil_of_length_eq_zero hp
    refine (put_nil x w).mono ?_
    rintro e w' ⟨g, c, rfl, h1, h2⟩
    exact ⟨g, c, rfl, World.ownsRow.mono h1 hB, h2.mono hB, h2.size, fun k hk _ => h2.block k hk, .inr (h1.lt g rfl).1⟩
  · simp only [Value.slice.injEq, true_and] at h
    obtain ⟨rfl, rfl⟩ := h
    refine (spec_put2 B g cA ps x hl w ho).mono ?_
    rintro e w' ⟨g2, c2, rfl, h1, h2, h3, h4⟩
    refine ⟨g2, c2, rfl, h1, h2, h3.1, fun k hk hne => h3.2 k hk (fun e => hne (by rw [e])), ?_⟩
    rcases h4 with e | e
    · exact .inl (by rw [e])
    · exact .inr e
end Go.Proofs.YtalclebehbdliaaGreat
namespace Go.Proofs.YtalclebehbdliaaGreat
open Go Go.RowKit

theorem cur_put {B : Nat} {a : Option Addr} {n c g h o : Nat} {W0 w : World} {v : Value} (hc : Cur B a n c g W0 w) (hne : h ≠ g) (hB : B ≤ h) : Cur B a n c g W0 (w.setCell ⟨h, o, none⟩ v) := by
  obtain ⟨h1, h2, h3, i, x, h4, h5⟩ := hc
  refine ⟨h1.setCell (p := ⟨h, o, none⟩) hB v, by simpa using h2, h3, i, x, h4, ?_⟩
  rw [Below.heap_setCell w ⟨h, o, none⟩ v g (fun e => hne e.symm)]; exact h5
theorem from_put {b : Nat} {w w' : World} (h : From b w w') {gi : Nat} (hgi : w.heap.size ≤ gi) (o : Nat) (v : Value) : From b w (w'.setCell ⟨gi, o, none⟩ v) :=
  ⟨by simpa [World.setCell] using h.size, fun k h1 h2 => (Below.heap_setCell w' ⟨gi, o, none⟩ v k (by show k ≠ gi; omega)).trans (h.block k h1 h2)⟩
theorem from_cell {b : Nat} {w w' : World} (h : From b w w') {p : Addr} (h1 : b ≤ p.block) (h2 : p.block < w.heap.size) : w'.cell? p = w.cell? p := World.cell?_of_block (h.block p.block h1 h2)
theorem shOwn_stores {w : World} {B h : Nat} {v x y : Value} {L : Int} {ps : List ByteArray} (ho : ShOwn w B v L ps) (hh : h < B) : ShOwn ((w.setCell ⟨h, 0, none⟩ x).setCell ⟨h, 1, none⟩ y) B v L ps := by
  obtain ⟨⟨A, cA, hv, hr⟩, hs⟩ := ho
  exact ⟨⟨A, cA, hv, owns_stores hr hh⟩, hs⟩
theorem ShOwn.mono {w : World} {B B' : Nat} {v : Value} {L : Int} {ps : List ByteArray} (h : ShOwn w B v L ps) (hB : B' ≤ B) : ShOwn w B' v L ps := by
  obtain ⟨⟨A, cA, hv, hr⟩, hs⟩ := h
  exact ⟨⟨A, cA, hv, World.ownsRow.mono hr hB⟩, hs⟩
theorem ShOwn.below {w w' : World} {B : Nat} {v : Value} {L : Int} {ps : List ByteArray} (h : ShOwn w B v L ps) (hb : Below w.heap.size w w') : ShOwn w' B v L ps := by
  obtain ⟨⟨A, cA, hv, hr⟩, hs⟩ := h
  exact ⟨⟨A, cA, hv, owns_below hr hb⟩, hs⟩
theorem owns_from {w w' : World} {B b e n : Nat} {v : Value} {xs : List Value} (h : w.ownsRow B e 1 v n xs) (hf : From b w w') (hB : b ≤ B) : w'.ownsRow B e 1 v n xs := by
  refine ⟨h.1, ?_⟩
  rcases h.2 with h2 | ⟨g, cap, cur, rfl, hb, hg, rest⟩
  · exact .inl h2
  · refine .inr ⟨g, cap, cur, rfl, hb, ?_, rest⟩
    rw [hf.block g (by omega) (Array.getElem?_eq_some_iff.1 hg).1]
    exact hg
theorem ShOwn.from {w w' : World} {B b : Nat} {v : Value} {L : Int} {ps : List ByteArray} (h : ShOwn w B v L ps) (hf : From b w w') (hB : b ≤ B) : ShOwn w' B v L ps := by
  obtain ⟨⟨A, cA, hv, hr⟩, hs⟩ := h
  exact ⟨⟨A, cA, hv, owns_from hr hf hB⟩, hs⟩
theorem putW_small {x : ByteArray} {ps : List ByteArray} (hx : x.size ≤ 3) (hps : ∀ y ∈ ps, y.size ≤ 3) : ∀ y ∈ putW x ps, y.size ≤ 3 := fun y hy => by
  rcases putW_mem x y ps hy with rfl | h
  · exact hx
  · exact hps y h

theorem from_low {b B : Nat} {w u w6 : World} (h : From b w u) (hb : Below B u w6) (hB : w.heap.size ≤ B) (hz : u.heap.size ≤ w6.heap.size) : From b w w6 :=
  ⟨Nat.le_trans h.size hz, fun k h1 h2 => (hb.block k (Nat.lt_of_lt_of_le h2 hB)).trans (h.block k h1 h2)⟩
theorem cur_low {B C : Nat} {a : Option Addr} {n c g : Nat} {W0 w w' : World} (h : Cur B a n c g W0 w) (hb : Below C w w') (hg : g < C) (hC : B ≤ C) (hz : w.heap.size ≤ w'.heap.size) : Cur B a n c g W0 w' := by
  obtain ⟨h1, h2, h3, i, x, h4, h5⟩ := h
  refine ⟨h1.trans (hb.mono hC), Nat.le_trans h2 hz, h3, i, x, h4, ?_⟩
  rw [hb.block g hg]; exact h5
theorem small_few {ps : List ByteArray} {m : Nat} (h : ps.length + m ≤ 4) (hs : ∀ y ∈ ps, y.size ≤ 3) : SmallL ps := ⟨by omega, fun x hx => by have := hs x hx; omega⟩
/-- A drawn shift. -/
def ShNew (B : Nat) (a : Option Addr) (n c g : Nat) (W0 w : World) (e : Ending) (w' : World) : Prop := ∃ v L ps, e = .returned v ∧ ShOwn w' w.heap.size v L ps ∧ Cur B a n c g W0 w' ∧ From (g + 1) w w'
def shiftTexts : List ByteArray := [⟨#[50, 32, 98, 98]⟩, ⟨#[50, 32, 97, 97, 32, 98, 98]⟩, ⟨#[50, 32, 97, 97, 98]⟩, ⟨#[51, 32, 97, 98, 32, 98, 99, 32, 99, 97]⟩, ⟨#[50]⟩, ⟨#[49]⟩, ⟨#[51, 32, 97, 97, 32, 98, 98, 32, 99, 99]⟩, ⟨#[50, 32, 97, 98, 97, 32, 98, 97, 98]⟩, ⟨#[50, 32, 97, 98]⟩, ⟨#[50, 32, 97, 97, 97, 32, 98, 98]⟩, ⟨#[51, 32, 97, 99, 32, 98, 98]⟩]
theorem shiftTexts_short : ∀ s ∈ shiftTexts, s.size ≤ 100 := by decide
def letterNums : List Int := [1, 1, 2, 0]
theorem letter_nums {k : Nat} (hk : k < letterNums.length) : ∃ t : Nat, 1 ≤ t ∧ t ≤ 3 ∧ 1 + letterNums.getD k 0 = (t : Int) := by
  have h : k = 0 ∨ k = 1 ∨ k = 2 ∨ k = 3 := by
    have : letterNums.length = 4 := rfl
    omega
  rcases h with rfl | rfl | rfl | rfl
  · exact ⟨2, by decide, by decide, rfl⟩
  · exact ⟨2, by decide, by decide, rfl⟩
  · exact ⟨3, by decide, by decide, rfl⟩
  · exact ⟨1, by decide, by decide, rfl⟩

set_option maxRecDepth 100000 in
set_option maxHeartbeats 1600000 in
theorem draw_shift (B : Nat) (a : Option Addr) (n c g : Nat) (W0 w : World) (hcode : CodeAt W0 B a n) (hn : n ≤ 1048576) (hcur : Cur B a n c g W0 w) :
    Calls Tryz.prog 75 #[.pointer (some ⟨g, 0, none⟩)] w (ShNew B a n c g W0 w) := by
  have hgl := cur_lt hcur
  have hBg := cur_from hcur
  have hgr := heap_alloc_new w (.cells #[.int .i64 0, .slice none 0 0] 26)
  have hs1 : (w.alloc (.cells #[.int .i64 0, .slice none 0 0] 26)).heap.size = w.heap.size + 1 := World.size_alloc _ _
  have HO := Lib.hid (l1Once 3 (by decide) B a n c g W0 _ hcode hn (hcur.alloc (.cells #[.int .i64 0, .slice none 0 0] 26)))
  have HT : Hid (∀ W b, Cur B a n c g W0 W → StrsAt W b 0 shiftTexts → b ≠ g → Calls Tryz.prog 76 #[.pointer (some ⟨g, 0, none⟩), .slice (some ⟨b, 0, none⟩) 11 11] W (StrNew 100 B a n c g W0 W)) := Lib.hid fun W b hc hst hne => pick_of shiftTexts 100 11 b (by decide) (by decide) shiftTexts_short B a n c g W0 W hcode hn hc hst hne
  have HI : Hid (∀ W b, Cur B a n c g W0 W → NumsAt W b letterNums → b ≠ g → Calls Tryz.prog 35 #[.pointer (some ⟨g, 0, none⟩), .slice (some ⟨b, 0, none⟩) 4 4] W (PickIntPost letterNums B a n c g W0 W)) := Lib.hid fun W b hc hst hne => l1PickInt b 4 letterNums (by decide) (by decide) B a n c g W0 W hcode hn hc hst hne
  have H5 := Lib.hid (fun W (hc : Cur B a n c g W0 W) => l1Below 5 (by decide) B a n c g W0 W hcode hn hc)
  have HD : Hid (∀ k W, 1 ≤ k → k ≤ 3 → Cur B a n c g W0 W → Calls Tryz.prog 104 #[.pointer (some ⟨g, 0, none⟩), .int .i64 ((k : Nat) : Int), .int .i64 2] W (StrNew 2 B a n c g W0 W)) := Lib.hid fun k W h1 h3 hc => draw_word k 2 h1 h3 (by decide) B a n c g W0 W hcode hn hc
  have HP : Hid (∀ k W b, 1 ≤ k → k ≤ 3 → Cur B a n c g W0 W → StrsAt W b 0 abcL → b ≠ g → Calls Tryz.prog 76 #[.pointer (some ⟨g, 0, none⟩), .slice (some ⟨b, 0, none⟩) k 3] W (StrNew 1 B a n c g W0 W)) := Lib.hid fun k W b h1 h3 hc hst hne => by
    have h := pick_of (abcL.take k) 1 3 b (by rw [abc_take h3]; omega) (by rw [abc_take h3]; omega) (fun s hs => abcL_short s (List.mem_of_mem_take hs)) B a n c g W0 W hcode hn hc (abc_at hst h3) hne
    rwa [abc_take h3] at h
  have HF0 : Hid (From (g + 1) w (w.alloc (.cells #[.int .i64 0, .slice none 0 0] 26))) := Lib.hid (from_new _)
  have HGR := Lib.hid hgr
  clear hcode hcur hgr
  go_enter Tryz.func75, Tryz.ntmps75
  go_wp2_with fail
  refine HO.out.mono ?_
  rintro e w1 ⟨x, rfl, hc1, ho1⟩
  have hz1e := ho1.1
  have hf1 := only_from ho1
  have HGR1 : Hid (w1.heap[w.heap.size]? = some (.cells #[.int .i64 0, .slice none 0 0] 26 (0, 0))) := Lib.hid ((ho1.2 w.heap.size (by omega)).trans HGR.out)
  have HF1 := Lib.hid (HF0.out.trans hf1)
  have HC1 := Lib.hid hc1
  rw [hs1] at hz1e
  have hz1 : w.heap.size + 1 ≤ w1.heap.size := by omega
  clear hc1 ho1 hf1 HO HGR HF0 hs1 hz1e
  cases x with
  | true =>
    have HT1 : Hid (Calls Tryz.prog 76 #[.pointer (some ⟨g, 0, none⟩), .slice (some ⟨w1.heap.size, 0, none⟩) 11 11] (w1.alloc (.cells #[.string ⟨#[50, 32, 98, 98]⟩, .string ⟨#[50, 32, 97, 97, 32, 98, 98]⟩, .string ⟨#[50, 32, 97, 97, 98]⟩, .string ⟨#[51, 32, 97, 98, 32, 98, 99, 32, 99, 97]⟩, .string ⟨#[50]⟩, .string ⟨#[49]⟩, .string ⟨#[51, 32, 97, 97, 32, 98, 98, 32, 99, 99]⟩, .string ⟨#[50, 32, 97, 98, 97, 32, 98, 97, 98]⟩, .string ⟨#[50, 32, 97, 98]⟩, .string ⟨#[50, 32, 97, 97, 97, 32, 98, 98]⟩, .string ⟨#[51, 32, 97, 99, 32, 98, 98]⟩] 9)) (StrNew 100 B a n c g W0 (w1.alloc (.cells #[.string ⟨#[50, 32, 98, 98]⟩, .string ⟨#[50, 32, 97, 97, 32, 98, 98]⟩, .string ⟨#[50, 32, 97, 97, 98]⟩, .string ⟨#[51, 32, 97, 98, 32, 98, 99, 32, 99, 97]⟩, .string ⟨#[50]⟩, .string ⟨#[49]⟩, .string ⟨#[51, 32, 97, 97, 32, 98, 98, 32, 99, 99]⟩, .string ⟨#[50, 32, 97, 98, 97, 32, 98, 97, 98]⟩, .string ⟨#[50, 32, 97, 98]⟩, .string ⟨#[50, 32, 97, 97, 97, 32, 98, 98]⟩, .string ⟨#[51, 32, 97, 99, 32, 98, 98]⟩] 9)))) := Lib.hid (HT.out _ w1.heap.size (HC1.out.alloc _) (strsAt_new w1 shiftTexts 9) (by have := cur_lt HC1.out; omega))
    go_wp2_with fail
    refine HT1.out.mono ?_
    rintro e w2 ⟨s, hs, rfl, hc2, hf2⟩
    have hz2 := hf2.size
    have HP2 := Lib.hid (spec_parseO s hs w2)
    have HGR2 : Hid (w2.heap[w.heap.size]? = some (.cells #[.int .i64 0, .slice none 0 0] 26 (0, 0))) := Lib.hid ((((from_new _).trans hf2).block w.heap.size (by omega) (by omega)).trans HGR1.out)
    have HF2 := Lib.hid ((HF1.out.trans (from_new _)).trans hf2)
    have HC2 := Lib.hid hc2
    rw [World.size_alloc] at hz2
    clear hc2 hf2 HT1
    go_wp2_with fail
    refine HP2.out.mono ?_
    rintro e w3 ⟨v, L, ps, b, rfl, ho3, b3⟩
    obtain ⟨⟨A, cA, rfl, hr3⟩, hsm⟩ := ho3
    have hz3 := b3.size
    have hg3 := (b3.block w.heap.size (by omega)).trans HGR2.out
    have hc3 := HC2.out.step b3
    have hf3 := HF2.out.trans (From.of_below b3)
    have hgx := (heap_alloc_old w3 (.cells #[.int .i64 L, .slice A ps.length cA] 26) (by omega)).trans hg3
    obtain ⟨d0, d1, d2⟩ := sh_cells hgx
    have HH := Lib.hid hgx
    have HCX := Lib.hid (cur_put (o := 1) (v := .slice A ps.length cA) (cur_put (o := 0) (v := .int .i64 L) (hc3.alloc (.cells #[.int .i64 L, .slice A ps.length cA] 26)) (show w.heap.size ≠ g by omega) (by omega)) (show w.heap.size ≠ g by omega) (by omega))
    have HFX := Lib.hid (from_put (from_put (hf3.trans (from_new (.cells #[.int .i64 L, .slice A ps.length cA] 26))) (Nat.le_refl _) 0 (.int .i64 L)) (Nat.le_refl _) 1 (.slice A ps.length cA))
    have HOX := Lib.hid (shOwn_stores (h := w.heap.size) (x := .int .i64 L) (y := .slice A ps.length cA) ((show ShOwn w3 w2.heap.size (.agg #[.int .i64 L, .slice A ps.length cA]) L ps from ⟨⟨A, cA, rfl, hr3⟩, hsm⟩).below ((Below.refl _ _).alloc (Nat.le_refl _) (.cells #[.int .i64 L, .slice A ps.length cA] 26))) (by omega))
    clear hg3 hc3 hf3 hgx b3 hr3
    go_wp2
    refine bodyPost_ret (results_cell_row rfl _ _ w.heap.size 26 #[.int .i64 L, .slice A ps.length cA] (0, 0) _ rfl (sh_stores HH.out) Tryz.underlying26 rfl (by kernel_rfl)) rfl ?_
    exact ⟨_, L, ps, rfl, HOX.out.mono (by omega), HCX.out, HFX.out⟩
  | false =>
    have HI1 := Lib.hid (HI.out _ w1.heap.size (HC1.out.alloc _) (intsAt_new w1 letterNums 3) (by have := cur_lt HC1.out; omega))
    go_wp2_with fail
    refine HI1.out.mono ?_
    rintro e w2 ⟨kk, hkk, rfl, hc2, ho2⟩
    obtain ⟨k, k1, k3, hke⟩ := letter_nums hkk
    have hz2e := ho2.1
    rw [World.size_alloc] at hz2e
    have hz2 : w1.heap.size + 1 ≤ w2.heap.size := by omega
    have hf2 := (from_new (B := g + 1) (w := w1) (.cells (letterNums.map (Value.int .i64)).toArray 3)).trans (only_from ho2)
    have HGR2 : Hid (w2.heap[w.heap.size]? = some (.cells #[.int .i64 0, .slice none 0 0] 26 (0, 0))) := Lib.hid ((hf2.block w.heap.size (by omega) (by omega)).trans HGR1.out)
    have HF2 := Lib.hid (HF1.out.trans hf2)
    have HC2 := Lib.hid hc2
    generalize letterNums.getD kk 0 = x at *
    have hw1 : RowKit.wrap64 (1 + x) = (k : Int) := by unfold RowKit.wrap64; omega
    clear hc2 ho2 hf2 HI1 hkk hz2e
    have hz3 : (w2.alloc (.cells #[.int .i64 (k : Int), .slice none 0 0] 26)).heap.size = w2.heap.size + 1 := World.size_alloc _ _
    have H51 := Lib.hid (H5.out _ (HC2.out.alloc (.cells #[.int .i64 (k : Int), .slice none 0 0] 26)))
    have HF3 := Lib.hid (HF2.out.trans (from_new (.cells #[.int .i64 (k : Int), .slice none 0 0] 26)))
    have HGS3 := Lib.hid (heap_alloc_new w2 (.cells #[.int .i64 (k : Int), .slice none 0 0] 26))
    have HGR3 := Lib.hid ((heap_alloc_old w2 (.cells #[.int .i64 (k : Int), .slice none 0 0] 26) (by omega)).trans HGR2.out)
    go_wp2_with fail
    refine H51.out.mono ?_
    rintro e w4 ⟨t0, t1, t2, rfl, hc4, ho4⟩
    obtain ⟨t, rfl⟩ := Int.eq_ofNat_of_zero_le t1
    have ht : t ≤ 4 := by omega
    have hz4e := ho4.1
    rw [hz3] at hz4e
    have hz4 : w2.heap.size + 1 ≤ w4.heap.size := by omega
    have HC4 := Lib.hid hc4
    have HF4 := Lib.hid (HF3.out.trans (only_from ho4))
    have HGS4 : Hid (w4.heap[w2.heap.size]? = some (.cells #[.int .i64 (k : Int), .slice none 0 0] 26 (0, 0))) := Lib.hid ((ho4.2 w2.heap.size (by omega)).trans HGS3.out)
    have HGR4 : Hid (w4.heap[w.heap.size]? = some (.cells #[.int .i64 0, .slice none 0 0] 26 (0, 0))) := Lib.hid ((ho4.2 w.heap.size (by omega)).trans HGR3.out)
    have HO4 : Hid (w4.ownsRow w4.heap.size 9 1 (.slice none 0 0) ([] : List ByteArray).length (([] : List ByteArray).map Value.string)) := Lib.hid (World.ownsRow_nil w4 w4.heap.size 9 1)
    clear hc4 ho4 t1 t2 hz4e hz3 H51 HF3 HGS3 HGR3 HC2 HF2 HGR2 hw1 hke
    go_wp2
    go_loopw [6] (fun nv wr => ∃ (d : Nat) (A : Option Addr) (cA : Nat) (ps : List ByteArray), d ≤ 4 ∧ nv = .int .i64 (d : Int) ∧ ps.length + d ≤ 4 ∧ w4.heap.size ≤ wr.heap.size ∧ Hid (∀ y ∈ ps, y.size ≤ 3) ∧ Hid (wr.heap[w2.heap.size]? = some (.cells #[.int .i64 (k : Int), .slice A ps.length cA] 26 (0, 0))) ∧ Hid (wr.heap[w.heap.size]? = some (.cells #[.int .i64 0, .slice none 0 0] 26 (0, 0))) ∧ Hid (wr.ownsRow w4.heap.size 9 1 (.slice A ps.length cA) ps.length (ps.map Value.string)) ∧ Hid (Cur B a n c g W0 wr) ∧ Hid (From (g + 1) w wr)) (fun nv _ => (intOf nv).toNat)
    case atStart => exact ⟨t, none, 0, [], ht, rfl, by simpa using ht, Nat.le_refl _, Lib.hid (fun y hy => by cases hy), HGS4, HGR4, HO4, HC4, HF4⟩
    case round =>
      clear HGS4 HGR4 HO4 HC4 HF4
      obtain ⟨d, A, cA, ps, hd, rfl, hpd, hsz, HPS, HGS, HGR, HO, HC, HF⟩ := hrel
      obtain ⟨x0, x1, x2⟩ := sh_cells HGS.out
      by_cases hd0 : 0 < d
      · have hdI : (0 : Int) < (d : Int) := by omega
        have hcA : ∀ o, Cur B a n c g W0 (wr.alloc o).drew := fun o => (HC.out.alloc o).drewN 1
        have hst : ∀ t, StrsAt (wr.alloc (.cells #[.string ⟨#[97]⟩, .string ⟨#[98]⟩, .string ⟨#[99]⟩] t)).drew wr.heap.size 0 abcL := fun t => strsAt_new wr abcL t
        have hto := fun b w => strs_to ⟨b, 0, none⟩ 3 3 k k3 w
        have k0 : (0 : Int) ≤ (k : Int) := by omega
        have k3I : (k : Int) ≤ 3 := by omega
        have hgw : g < wr.heap.size := cur_lt HC.out
        have HCD : Hid (Cur B a n c g W0 wr.drew) := Lib.hid (HC.out.drewN 1)
        have HDk := Lib.hid (fun W hc => HD.out k W k1 k3 hc)
        have HPk := Lib.hid (fun W b hc hst hne => HP.out k W b k1 k3 hc hst hne)
        have HSA : Hid (∀ o, (wr.alloc o).drew.cell? ⟨w2.heap.size, 0, none⟩ = some (.int .i64 (k : Int))) := Lib.hid fun o => (World.cell?_of_block (w := wr) (w' := (wr.alloc o).drew) (a := ⟨w2.heap.size, 0, none⟩) (heap_alloc_old wr o (by show w2.heap.size < wr.heap.size; omega))).trans x0
        go_wp2
        go_region_held3 (fun w' => w'.cell? ⟨w2.heap.size, 0, none⟩ = some (.int .i64 (k : Int))) (first | assumption | exact HSA.out _ | exact HSB.out _ | go_keep) (first
          | (go_at_call 104; refine (HDk.out _ HCD.out).mono ?_; rintro e u1 ⟨y1, hy1, rfl, hc1, hf1⟩; have hq1 : wr.heap.size ≤ u1.heap.size := hf1.size; have hS1 : u1.cell? ⟨w2.heap.size, 0, none⟩ = some (.int .i64 (k : Int)) := (from_cell hf1 (p := ⟨w2.heap.size, 0, none⟩) (by show g + 1 ≤ w2.heap.size; omega) (by show w2.heap.size < wr.heap.size; omega)).trans x0; have HSB : Hid (∀ o, (u1.alloc o).cell? ⟨w2.heap.size, 0, none⟩ = some (.int .i64 (k : Int))) := Lib.hid fun o => (World.cell?_of_block (w := u1) (w' := u1.alloc o) (a := ⟨w2.heap.size, 0, none⟩) (heap_alloc_old u1 o (by show w2.heap.size < u1.heap.size; omega))).trans hS1; have hst1 : ∀ t, StrsAt (u1.alloc (.cells #[.string ⟨#[97]⟩, .string ⟨#[98]⟩, .string ⟨#[99]⟩] t)) u1.heap.size 0 abcL := fun t => strsAt_new u1 abcL t; have HC1 := Lib.hid (fun o => hc1.alloc (o := o)); have HF1 := Lib.hid hf1)
          | (go_at_call 104; refine (HDk.out _ (hcA _)).mono ?_; rintro e u1 ⟨y1, hy1, rfl, hc1, hf1⟩; have hq1 := hf1.size; have hS1 : u1.cell? ⟨w2.heap.size, 0, none⟩ = some (.int .i64 (k : Int)) := (from_cell hf1 (p := ⟨w2.heap.size, 0, none⟩) (by show g + 1 ≤ w2.heap.size; omega) (by show w2.heap.size < (wr.alloc _).heap.size; rw [World.size_alloc]; omega)).trans (HSA.out _); have hst1 := strs_from (hst _) hf1 (by omega) (by show wr.heap.size < (wr.alloc _).heap.size; rw [World.size_alloc]; omega); have HC1 := Lib.hid hc1; have HF1 := Lib.hid hf1)
          | (go_at_call 76; refine (HPk.out _ _ (HC1.out _) (hst1 _) (by omega)).mono ?_; rintro e u2 ⟨y2, hy2, rfl, hc2, hf2⟩; have hS2 : u2.cell? ⟨w2.heap.size, 0, none⟩ = some (.int .i64 (k : Int)) := (from_cell hf2 (p := ⟨w2.heap.size, 0, none⟩) (by show g + 1 ≤ w2.heap.size; omega) (by show w2.heap.size < (u1.alloc _).heap.size; rw [World.size_alloc]; omega)).trans (HSB.out _); have hq2 := hf2.size; have x9 : ∀ w, (Op.stringOp .add y1 y2).run Tryz.prog w = .ok (.string (y1 ++ y2)) w := fun w => run_string_add_sum w _ _ (by omega); have HCU := Lib.hid hc2; have HFU : Hid (From (g + 1) wr u2) := Lib.hid (((from_drew.trans HF1.out).trans (from_new _)).trans hf2); have hy12 : (y1 ++ y2).size ≤ 3 := (by rw [ByteArray.size_append]; omega); have hzU : wr.heap.size ≤ u2.heap.size := HFU.out.size; clear HC1 HF1 hc1 hf1 hc2 hf2 hst1 HSB hS1 hq1 hq2)
          | (go_at_call 76; refine (HPk.out _ _ HC1.out hst1 (by omega)).mono ?_; rintro e u2 ⟨y2, hy2, rfl, hc2, hf2⟩; have hS2 : u2.cell? ⟨w2.heap.size, 0, none⟩ = some (.int .i64 (k : Int)) := (from_cell hf2 (p := ⟨w2.heap.size, 0, none⟩) (by show g + 1 ≤ w2.heap.size; omega) (by show w2.heap.size < u1.heap.size; have hq : (wr.alloc _).heap.size ≤ u1.heap.size := hq1; rw [World.size_alloc] at hq; omega)).trans hS1; have hq2 := hf2.size; have x9 : ∀ w, (Op.stringOp .add y1 y2).run Tryz.prog w = .ok (.string (y1 ++ y2)) w := fun w => run_string_add_sum w _ _ (by omega); have HCU := Lib.hid hc2; have HFU : Hid (From (g + 1) wr u2) := Lib.hid ((((from_new _).trans from_drew).trans HF1.out).trans hf2); have hy12 : (y1 ++ y2).size ≤ 3 := (by rw [ByteArray.size_append]; omega); have hzU : wr.heap.size ≤ u2.heap.size := HFU.out.size; clear HC1 HF1 hc1 hf1 hc2 hf2 hst1 hS1 hq1 hq2))
        all_goals (
          have HGSU := Lib.hid ((HFU.out.block w2.heap.size (by omega) (by omega)).trans HGS.out)
          have HGRU := Lib.hid ((HFU.out.block w.heap.size (by omega) (by omega)).trans HGR.out)
          have HFW := Lib.hid (HF.out.trans HFU.out)
          have HPT := Lib.hid (put_any w4.heap.size A cA ps (y1 ++ y2) (by omega) u2 (by omega) (owns_from HO.out HFU.out (by omega)))
          obtain ⟨z0, z1, z2⟩ := sh_cells HGSU.out
          clear HDk HPk HSA hcA hst hto HCD x0 x1 x2 x9 hS2 HFU HF HC HO HGS HGR
          generalize y1 ++ y2 = yy at *
          go_wp2_with fail
          refine HPT.out.mono ?_
          rintro e w6 ⟨g2, c2, rfl, ho6, hb6, hz6, -, -⟩
          have hg6 := (hb6.block w2.heap.size (by omega)).trans HGSU.out
          have hgr6 := (hb6.block w.heap.size (by omega)).trans HGRU.out
          obtain ⟨v0, v1, v2⟩ := sh_cells hg6
          have hl6 := putW_length yy ps
          have HL6 := Lib.hid (putW_small hy12 HPS.out)
          have HGS7 : Hid ((w6.setCell ⟨w2.heap.size, 1, none⟩ (.slice (some ⟨g2, 0, none⟩) (putW yy ps).length c2)).heap[w2.heap.size]? = some (.cells #[.int .i64 (k : Int), .slice (some ⟨g2, 0, none⟩) (putW yy ps).length c2] 26 (0, 0))) := Lib.hid ((heap_setCell_same w6 w2.heap.size 1 _ _ _ hg6).trans rfl)
          have HGR7 : Hid ((w6.setCell ⟨w2.heap.size, 1, none⟩ (.slice (some ⟨g2, 0, none⟩) (putW yy ps).length c2)).heap[w.heap.size]? = some (.cells #[.int .i64 0, .slice none 0 0] 26 (0, 0))) := Lib.hid ((Below.heap_setCell w6 ⟨w2.heap.size, 1, none⟩ _ w.heap.size (by show w.heap.size ≠ w2.heap.size; omega)).trans hgr6)
          have HO7 := Lib.hid (ownsRow_setCell_below ho6 (a := ⟨w2.heap.size, 1, none⟩) (by show w2.heap.size < w4.heap.size; omega) (.slice (some ⟨g2, 0, none⟩) (putW yy ps).length c2))
          have HC7 := Lib.hid (cur_put (o := 1) (v := .slice (some ⟨g2, 0, none⟩) (putW yy ps).length c2) (cur_low HCU.out hb6 (by omega) (by omega) hz6) (show w2.heap.size ≠ g by omega) (by omega))
          have HF7 := Lib.hid (from_put (from_low HFW.out hb6 (by omega) hz6) (show w.heap.size ≤ w2.heap.size by omega) 1 (.slice (some ⟨g2, 0, none⟩) (putW yy ps).length c2))
          have hz7 : ((w6.setCell ⟨w2.heap.size, 1, none⟩ (.slice (some ⟨g2, 0, none⟩) (putW yy ps).length c2)).heap.size) = w6.heap.size := by simp
          clear hg6 hgr6 ho6 hb6 HPT HCU HFW HGSU HGRU
          generalize putW yy ps = qs at *
          go_wp2
          refine ⟨⟨d - 1, some ⟨g2, 0, none⟩, c2, qs, by omega, by congr 1; omega, by omega, by omega, HL6, HGS7, HGR7, HO7, HC7, HF7⟩, ?_⟩
          show ((d : Int) - 1).toNat < (d : Int).toNat
          omega)
      · obtain rfl : d = 0 := by omega
        obtain ⟨d0, d1, d2⟩ := sh_cells HGR.out
        have HCX := Lib.hid (cur_put (o := 1) (v := .slice A ps.length cA) (cur_put (o := 0) (v := .int .i64 (k : Int)) HC.out (show w.heap.size ≠ g by omega) (by omega)) (show w.heap.size ≠ g by omega) (by omega))
        have HFX := Lib.hid (from_put (from_put HF.out (Nat.le_refl _) 0 (.int .i64 (k : Int))) (Nat.le_refl _) 1 (.slice A ps.length cA))
        have hsm : SmallL ps := small_few hpd HPS.out
        have HOX := Lib.hid (shOwn_stores (h := w.heap.size) (x := .int .i64 (k : Int)) (y := .slice A ps.length cA) (show ShOwn wr w4.heap.size (.agg #[.int .i64 (k : Int), .slice A ps.length cA]) (k : Int) ps from ⟨⟨A, cA, rfl, HO.out⟩, hsm⟩) (by omega))
        clear HC HF HO
        go_wp2
        refine bodyPost_ret (results_cell_row rfl _ _ w.heap.size 26 #[.int .i64 (k : Int), .slice A ps.length cA] (0, 0) _ rfl (sh_stores HGR.out) Tryz.underlying26 rfl (by kernel_rfl)) rfl ?_
        exact ⟨_, (k : Int), ps, rfl, HOX.out.mono (by omega), HCX.out, HFX.out⟩
end Go.Proofs.YtalclebehbdliaaGreat
namespace Go.Proofs.YtalclebehbdliaaGreat
open Go Go.RowKit

def SmallM (ps : List ByteArray) : Prop := ps.length ≤ 300 ∧ ∀ x ∈ ps, x.size ≤ 1000
theorem SmallL.m {ps : List ByteArray} (h : SmallL ps) : SmallM ps := ⟨by have := h.1; omega, h.2⟩
theorem SmallL.more {ps : List ByteArray} (h : SmallL ps) {y : ByteArray} (hy : y.size ≤ 4) : SmallM (ps ++ [y]) := by
  refine ⟨by have := h.1; rw [List.length_append]; simp; omega, fun x hx => ?_⟩
  rcases List.mem_append.1 hx with h1 | h1
  · exact h.2 x h1
  · obtain rfl := List.mem_singleton.1 h1
    omega
/-- A drawn shift, bent or not. -/
def ShBent (B : Nat) (a : Option Addr) (n c g : Nat) (W0 w : World) (e : Ending) (w' : World) : Prop := ∃ L A cA ps, e = .returned (.agg #[.int .i64 L, .slice A ps.length cA]) ∧ w'.ownsRow w.heap.size 9 1 (.slice A ps.length cA) ps.length (ps.map Value.string) ∧ SmallM ps ∧ Cur B a n c g W0 w' ∧ From (g + 1) w w'
def bentNums : List Int := [0, 4, 1]
def bentWords : List ByteArray := [⟨#[97]⟩, ⟨#[]⟩, ⟨#[100]⟩, ⟨#[97, 97, 97, 97]⟩]
theorem bentWords_short : ∀ s ∈ bentWords, s.size ≤ 4 := by decide
theorem cell_alloc {w : World} {p : Addr} {v : Value} (h : w.cell? p = some v) (hp : p.block < w.heap.size) (o : Obj) : (w.alloc o).cell? p = some v := (World.cell?_of_block (w := w) (w' := w.alloc o) (a := p) (heap_alloc_old w o hp)).trans h

theorem from_grown {b : Nat} {W w w' : World} (h : From b W w) {r : Option Nat} (hg : w.grownBy w' r) (hr : ∀ k, r = some k → W.heap.size ≤ k) : From b W w' :=
  ⟨Nat.le_trans h.size hg.size, fun k h1 h2 => by rw [hg.block k (Nat.lt_of_lt_of_le h2 h.size) fun e => by have := hr k e.symm; omega]; exact h.block k h1 h2⟩
theorem cur_grown {B : Nat} {a : Option Addr} {n c g : Nat} {W0 w w' : World} (h : Cur B a n c g W0 w) {r : Option Nat} (hg : w.grownBy w' r) (hr : ∀ k, r = some k → g + 1 ≤ k) : Cur B a n c g W0 w' := by
  have hl := cur_lt h
  obtain ⟨h1, h2, h3, i, x, h4, h5⟩ := h
  refine ⟨h1.grown hg h2 fun k hk => by have := hr k hk; omega, Nat.le_trans h2 hg.size, h3, i, x, h4, ?_⟩
  rw [hg.block g hl fun e => by have := hr g e.symm; omega]; exact h5
theorem bent_end {B : Nat} {a : Option Addr} {n c g : Nat} {W0 w u : World} {L : Int} {A : Option Addr} {cA : Nat} {qs : List ByteArray} (hg : g < w.heap.size) (hB : B ≤ g)
    (ho : u.ownsRow (w.heap.size + 1) 9 1 (.slice A qs.length cA) qs.length (qs.map Value.string)) (hm : SmallM qs) (hc : Cur B a n c g W0 u) (hf : From (g + 1) w u) :
    ShBent B a n c g W0 w (.returned (.agg #[.int .i64 L, .slice A qs.length cA])) ((u.setCell ⟨w.heap.size, 0, none⟩ (.int .i64 L)).setCell ⟨w.heap.size, 1, none⟩ (.slice A qs.length cA)) :=
  ⟨L, A, cA, qs, rfl, World.ownsRow.mono (owns_stores ho (show w.heap.size < w.heap.size + 1 by omega)) (by omega), hm,
    cur_put (o := 1) (v := .slice A qs.length cA) (cur_put (o := 0) (v := .int .i64 L) hc (show w.heap.size ≠ g by omega) (by omega)) (show w.heap.size ≠ g by omega) (by omega),
    from_put (from_put hf (Nat.le_refl _) 0 (.int .i64 L)) (Nat.le_refl _) 1 (.slice A qs.length cA)⟩

set_option maxRecDepth 100000 in
set_option maxHeartbeats 1600000 in
theorem bent_shift (B : Nat) (a : Option Addr) (n c g : Nat) (W0 w : World) (hcode : CodeAt W0 B a n) (hn : n ≤ 1048576) (hcur : Cur B a n c g W0 w) :
    Calls Tryz.prog 33 #[.pointer (some ⟨g, 0, none⟩)] w (ShBent B a n c g W0 w) := by
  obtain ⟨i0, hi, hz0, hz1, hz2⟩ := info_parts infoStr
  have hgl := cur_lt hcur
  have hBg := cur_from hcur
  have hgr := heap_alloc_new w (.cells #[.int .i64 0, .slice none 0 0] 26)
  have HS := Lib.hid (draw_shift B a n c g W0 _ hcode hn (hcur.alloc (.cells #[.int .i64 0, .slice none 0 0] 26)))
  have HI : Hid (∀ W b, Cur B a n c g W0 W → NumsAt W b bentNums → b ≠ g → Calls Tryz.prog 35 #[.pointer (some ⟨g, 0, none⟩), .slice (some ⟨b, 0, none⟩) 3 3] W (PickIntPost bentNums B a n c g W0 W)) := Lib.hid fun W b hc hst hne => l1PickInt b 3 bentNums (by decide) (by decide) B a n c g W0 W hcode hn hc hst hne
  have H16 := Lib.hid (fun W (hc : Cur B a n c g W0 W) => l1Below 16 (by decide) B a n c g W0 W hcode hn hc)
  have HP : Hid (∀ W b, Cur B a n c g W0 W → StrsAt W b 0 bentWords → b ≠ g → Calls Tryz.prog 76 #[.pointer (some ⟨g, 0, none⟩), .slice (some ⟨b, 0, none⟩) 4 4] W (StrNew 4 B a n c g W0 W)) := Lib.hid fun W b hc hst hne => pick_of bentWords 4 4 b (by decide) (by decide) bentWords_short B a n c g W0 W hcode hn hc hst hne
  have HF0 : Hid (From (g + 1) w (w.alloc (.cells #[.int .i64 0, .slice none 0 0] 26))) := Lib.hid (from_new _)
  have HGR := Lib.hid hgr
  have hs1 : (w.alloc (.cells #[.int .i64 0, .slice none 0 0] 26)).heap.size = w.heap.size + 1 := World.size_alloc _ _
  clear hcode hcur hgr
  go_enter Tryz.func33, Tryz.ntmps33
  go_wp2_with fail
  refine HS.out.mono ?_
  rintro e w1 ⟨v, L, ps, rfl, ho1, hc1, hf1⟩
  obtain ⟨⟨A, cA, rfl, hr1⟩, hsm⟩ := ho1
  rw [hs1] at hr1
  have hq1e := hf1.size
  rw [hs1] at hq1e
  have hq1 : w.heap.size + 1 ≤ w1.heap.size := hq1e
  have HGR1 : Hid (w1.heap[w.heap.size]? = some (.cells #[.int .i64 0, .slice none 0 0] 26 (0, 0))) := Lib.hid ((hf1.block w.heap.size (by omega) (by omega)).trans HGR.out)
  have HF1 := Lib.hid ((HF0.out.trans hf1).trans (from_new (.cells #[.int .i64 L, .slice A ps.length cA] 26)))
  have HGR2 := Lib.hid ((heap_alloc_old w1 (.cells #[.int .i64 L, .slice A ps.length cA] 26) (by omega)).trans HGR1.out)
  have HGS2 := Lib.hid (heap_alloc_new w1 (.cells #[.int .i64 L, .slice A ps.length cA] 26))
  have HO2 := Lib.hid (hr1.alloc (.cells #[.int .i64 L, .slice A ps.length cA] 26))
  have hlt := fun q hq => (hr1.lt q hq)
  have H1 := Lib.hid (H16.out _ (hc1.alloc (.cells #[.int .i64 L, .slice A ps.length cA] 26)))
  have hs2 : (w1.alloc (.cells #[.int .i64 L, .slice A ps.length cA] 26)).heap.size = w1.heap.size + 1 := World.size_alloc _ _
  have HSM := Lib.hid hsm
  clear hr1 hf1 hc1 hq1e HS HGR HF0 HGR1 hs1 H16
  go_wp2_with fail
  refine H1.out.mono ?_
  rintro e w4 ⟨x, x0, x1, rfl, hc4, ho4⟩
  have hz4e := ho4.1
  rw [hs2] at hz4e
  have hz4 : w1.heap.size + 1 ≤ w4.heap.size := by omega
  have HC := Lib.hid hc4
  have HF := Lib.hid (HF1.out.trans (only_from ho4))
  have HGS : Hid (w4.heap[w1.heap.size]? = some (.cells #[.int .i64 L, .slice A ps.length cA] 26 (0, 0))) := Lib.hid ((ho4.2 w1.heap.size (by omega)).trans HGS2.out)
  have HGR : Hid (w4.heap[w.heap.size]? = some (.cells #[.int .i64 0, .slice none 0 0] 26 (0, 0))) := Lib.hid ((ho4.2 w.heap.size (by omega)).trans HGR2.out)
  have HO := Lib.hid (owns_from HO2.out (only_from ho4) (by omega))
  have hlt' : ∀ q, (Value.slice A ps.length cA).ownBlock = some q → w.heap.size + 1 ≤ q ∧ q < w1.heap.size := fun q hq => ⟨(hlt q hq).1, (hlt q hq).2⟩
  have HLT := Lib.hid hlt'
  clear hc4 ho4 HF1 HGS2 HGR2 HO2 hs2 hz4e H1 hlt hlt' hsm
  by_cases hx0 : x = 0
  · subst hx0
    have HI1 := Lib.hid (HI.out _ w4.heap.size (HC.out.alloc _) (intsAt_new w4 bentNums 3) (by have := cur_lt HC.out; omega))
    go_wp2_with fail
    refine HI1.out.mono ?_
    rintro e u ⟨kk, hkk, rfl, hcu, hou⟩
    have hfu := (from_new (B := g + 1) (w := w4) (.cells (bentNums.map (Value.int .i64)).toArray 3)).trans (only_from hou)
    have hgs := (hfu.block w1.heap.size (by omega) (by omega)).trans HGS.out
    have hgr := (hfu.block w.heap.size (by omega) (by omega)).trans HGR.out
    obtain ⟨y0, y1, y2⟩ := sh_cells hgs
    generalize bentNums.getD kk 0 = z at *
    have hgs2 := (heap_setCell_same u w1.heap.size 0 _ _ (.int .i64 z) hgs).trans rfl
    have hgr2 := (Below.heap_setCell u ⟨w1.heap.size, 0, none⟩ (.int .i64 z) w.heap.size (by show w.heap.size ≠ w1.heap.size; omega)).trans hgr
    have HO3 := Lib.hid (ownsRow_setCell_other (owns_from HO.out hfu (by omega)) (a := ⟨w1.heap.size, 0, none⟩) (by intro h; have := HLT.out w1.heap.size h; omega) (.int .i64 z))
    have HC3 := Lib.hid (cur_put (o := 0) (v := .int .i64 z) hcu (show w1.heap.size ≠ g by omega) (by omega))
    have HF3 := Lib.hid (from_put (HF.out.trans hfu) (show w.heap.size ≤ w1.heap.size by omega) 0 (.int .i64 z))
    have HGR3 := Lib.hid hgr2
    obtain ⟨v0, v1, v2⟩ := sh_cells hgs2
    obtain ⟨d0, d1, d2⟩ := sh_cells hgr2
    clear HI1 hcu hou hfu hgs hgr hgs2 hgr2
    go_wp2
    refine bodyPost_ret (results_cell_row rfl _ _ w.heap.size 26 #[.int .i64 z, .slice A ps.length cA] (0, 0) _ rfl (sh_stores HGR3.out) Tryz.underlying26 rfl (by kernel_rfl)) rfl ?_
    exact bent_end hgl hBg HO3.out HSM.out.m HC3.out HF3.out
  · have hb0 : ((x : Int) == 0) = false := by simp; omega
    by_cases hx1 : x = 1
    · subst hx1
      obtain ⟨y0, y1, y2⟩ := sh_cells HGS.out
      have hgw : g < w4.heap.size := cur_lt HC.out
      have hlen := HSM.out.1
      have hcA : ∀ o, Cur B a n c g W0 (w4.alloc o).drew := fun o => (HC.out.alloc o).drewN 1
      have hst : ∀ t, StrsAt (w4.alloc (.cells #[.string ⟨#[97]⟩, .string ⟨#[]⟩, .string ⟨#[100]⟩, .string ⟨#[97, 97, 97, 97]⟩] t)).drew w4.heap.size 0 bentWords := fun t => strsAt_new w4 bentWords t
      have y3 : ∀ o, (w4.alloc o).cell? ⟨w1.heap.size, 1, none⟩ = some (.slice A ps.length cA) := fun o => cell_alloc y1 (by show w1.heap.size < w4.heap.size; omega) o
      have y4 : ∀ o, (w4.alloc o).drew.cell? ⟨w1.heap.size, 1, none⟩ = some (.slice A ps.length cA) := fun o => y3 o
      have y5 : w4.drew.cell? ⟨w1.heap.size, 1, none⟩ = some (.slice A ps.length cA) := y1
      go_wp2
      go_region_law (first
        | (go_simp; go_at_call 76; refine (HP.out _ _ (hcA _) (hst _) (by omega)).mono ?_; rintro e u ⟨s, hs, rfl, hcu, hfu⟩; have hfw : From (g + 1) w4 u := ((from_new _).trans from_drew).trans hfu; have hgs := (hfw.block w1.heap.size (by omega) (by omega)).trans HGS.out; have hgr := (hfw.block w.heap.size (by omega) (by omega)).trans HGR.out; have hzu := hfw.size; obtain ⟨z0, z1, z2⟩ := sh_cells hgs; have z3 : ∀ o, (u.alloc o).cell? ⟨w1.heap.size, 1, none⟩ = some (.slice A ps.length cA) := fun o => cell_alloc z1 (by show w1.heap.size < u.heap.size; omega) o; have HOU := Lib.hid (owns_from HO.out hfw (by omega)); have HCU := Lib.hid hcu; have HFU := Lib.hid (HF.out.trans hfw); clear hfu hcu hfw)
        | (refine step_append_lies _ (by rfl) _ _ _ (by rfl) (w.heap.size + 1) 9 i0 _ 1 16 Tryz.underlying24 hi hz0 hz1 hz2 rfl (by decide) (.slice A ps.length cA) ps.length (ps.map Value.string) (by rfl) (HOU.out.alloc _) ⟨u.heap.size, 0, none⟩ 1 1 [.string s] (by rfl) (by rfl) (World.news_of_block (cs := #[.string s]) (t := 9) (fr := (0, 0)) (heap_alloc_new u _)) (by simp [Value.oneCell']) (by decide) (by unfold maxLen; omega) (by omega) (by simp; omega) (u.heap.size + 1) (by simp) ?_; intro gg cap w6 ho6 hg6 hat6 hlt6; have hgs6 := (hg6.block w1.heap.size (by simp; omega) (fun e => by have := HLT.out w1.heap.size e.symm; omega)).trans ((heap_alloc_old u _ (by omega)).trans hgs); have hgr6 := (hg6.block w.heap.size (by simp; omega) (fun e => by have := HLT.out w.heap.size e.symm; omega)).trans ((heap_alloc_old u _ (by omega)).trans hgr); obtain ⟨q0, q1, q2⟩ := sh_cells hgs6))
      all_goals (
        have hgs2 := (heap_setCell_same w6 w1.heap.size 1 _ _ (.slice (some ⟨gg, 0, none⟩) (ps.length + 1) cap) hgs6).trans rfl
        have hgr2 := (Below.heap_setCell w6 ⟨w1.heap.size, 1, none⟩ (.slice (some ⟨gg, 0, none⟩) (ps.length + 1) cap) w.heap.size (by show w.heap.size ≠ w1.heap.size; omega)).trans hgr6
        have hl1 : (ps ++ [s]).length = ps.length + 1 := by simp
        have ho7 : w6.ownsRow (w.heap.size + 1) 9 1 (.slice (some ⟨gg, 0, none⟩) (ps ++ [s]).length cap) (ps ++ [s]).length ((ps ++ [s]).map Value.string) := by rw [hl1, List.map_append]; exact ho6
        rw [← hl1] at hgs2 hgr2
        have hgg : gg ≠ w1.heap.size := by
          rcases hat6 with h | h
          · have := HLT.out gg h; omega
          · omega
        have HO3 := Lib.hid (ownsRow_setCell_other ho7 (a := ⟨w1.heap.size, 1, none⟩) (by intro h; exact hgg (Option.some.inj h)) (.slice (some ⟨gg, 0, none⟩) (ps ++ [s]).length cap))
        have HC3 := Lib.hid (cur_put (o := 1) (v := .slice (some ⟨gg, 0, none⟩) (ps ++ [s]).length cap) (cur_grown (HCU.out.alloc (.cells #[.string s] 9)) hg6 fun k hk => by have := HLT.out k hk; omega) (show w1.heap.size ≠ g by omega) (by omega))
        have HF3 := Lib.hid (from_put (from_grown (HFU.out.trans (from_new (.cells #[.string s] 9))) hg6 fun k hk => by have := HLT.out k hk; omega) (show w.heap.size ≤ w1.heap.size by omega) 1 (.slice (some ⟨gg, 0, none⟩) (ps ++ [s]).length cap))
        have HGR3 := Lib.hid hgr2
        have HSN := Lib.hid (HSM.out.more hs)
        rw [← hl1]
        obtain ⟨v0, v1, v2⟩ := sh_cells hgs2
        obtain ⟨d0, d1, d2⟩ := sh_cells hgr2
        clear hl1 ho7 hgs2 hgr2 hgs6 hgr6 ho6 hg6 hat6 hlt6 q0 q1 q2 z0 z1 z2 z3 HOU HCU HFU hgs hgr y0 y1 y2 y3 y4 y5 hcA hst
        generalize ps ++ [s] = qs at *
        go_wp2
        refine bodyPost_ret (results_cell_row rfl _ _ w.heap.size 26 #[.int .i64 L, .slice (some ⟨gg, 0, none⟩) qs.length cap] (0, 0) _ rfl (sh_stores HGR3.out) Tryz.underlying26 rfl (by kernel_rfl)) rfl ?_
        exact bent_end hgl hBg HO3.out HSN.out HC3.out HF3.out)
    · have hb1 : ((x : Int) == 1) = false := by simp; omega
      obtain ⟨v0, v1, v2⟩ := sh_cells HGS.out
      obtain ⟨d0, d1, d2⟩ := sh_cells HGR.out
      go_wp2
      refine bodyPost_ret (results_cell_row rfl _ _ w.heap.size 26 #[.int .i64 L, .slice A ps.length cA] (0, 0) _ rfl (sh_stores HGR.out) Tryz.underlying26 rfl (by kernel_rfl)) rfl ?_
      exact bent_end hgl hBg HO.out HSM.out.m HC.out HF.out
end Go.Proofs.YtalclebehbdliaaGreat
namespace Go.Proofs.YtalclebehbdliaaGreat
open Go Go.RowKit

theorem codeAt_after {w w' : World} {a : Option Addr} {n : Nat} (h : CodeAt w w.heap.size a n) (hb : Below w.heap.size w w') : CodeAt w' w'.heap.size a n := by
  intro k hk
  obtain ⟨b, off, z, rfl, hlt, z0, z1, hc⟩ := h k hk
  exact ⟨b, off, z, rfl, Nat.lt_of_lt_of_le hlt hb.size, z0, z1, (hb.cell (p := ⟨b, off + k, none⟩) hlt).trans hc⟩
theorem SmallM.sizes {ps : List ByteArray} (h : SmallM ps) : ps.length ≤ 1048576 ∧ ∀ k, k < ps.length → (ps.getD k ByteArray.empty).size ≤ 2147483648 :=
  ⟨by have := h.1; omega, fun k hk => by have := h.2 _ (getD_memS hk); omega⟩
def countNums : List Int := [0, 0, 0, 0, 12, -9]
theorem count_nums {k : Nat} (hk : k < countNums.length) : countNums.getD k 0 = 0 ∨ countNums.getD k 0 = 12 ∨ countNums.getD k 0 = -9 := by
  have h : k = 0 ∨ k = 1 ∨ k = 2 ∨ k = 3 ∨ k = 4 ∨ k = 5 := by
    have : countNums.length = 6 := rfl
    omega
  rcases h with rfl | rfl | rfl | rfl | rfl | rfl <;> simp [countNums]
def CountDrawn (w : World) (e : Ending) (w' : World) : Prop := ∃ L G c ps n, e = .returned (.tuple #[.agg #[.int .i64 L, .slice G ps.length c], .int .i64 n]) ∧ StrsG w' G ps ∧ SmallM ps ∧ (-9 ≤ n ∧ n ≤ 20) ∧ Below w.heap.size w w'

set_option maxRecDepth 100000 in
set_option maxHeartbeats 1600000 in
theorem draw_countWords (a : Option Addr) (n c : Nat) (w : World) (hcode : CodeAt w w.heap.size a n) (hn : n ≤ 1048576) :
    Calls Tryz.prog 6 #[.slice a n c] w (CountDrawn w) := by
  have hbw := (Below.refl w.heap.size w).alloc (Nat.le_refl _) (.cells #[.int .i64 0, .slice none 0 0] 26)
  have hgr := heap_alloc_new w (.cells #[.int .i64 0, .slice none 0 0] 26)
  have hc1 := codeAt_after hcode hbw
  obtain ⟨W, hW⟩ : ∃ W, w.alloc (.cells #[.int .i64 0, .slice none 0 0] 26) = W := ⟨_, rfl⟩
  have hsW : W.heap.size = w.heap.size + 1 := by rw [← hW]; exact World.size_alloc _ _
  rw [hW] at hbw hgr hc1
  have HN := Lib.hid (l1New W.heap.size a n c W W hc1 hn (Below.refl _ _) (Nat.le_refl _))
  have HB := Lib.hid (fun g w' => bent_shift W.heap.size a n c g W w' hc1 hn)
  have H9 := Lib.hid (fun g w' => l1Below 9 (by decide) W.heap.size a n c g W w' hc1 hn)
  have HI : Hid (∀ g V b, Cur W.heap.size a n c g W V → NumsAt V b countNums → b ≠ g → Calls Tryz.prog 35 #[.pointer (some ⟨g, 0, none⟩), .slice (some ⟨b, 0, none⟩) 6 6] V (PickIntPost countNums W.heap.size a n c g W V)) := Lib.hid fun g V b hc hst hne => l1PickInt b 6 countNums (by decide) (by decide) W.heap.size a n c g W V hc1 hn hc hst hne
  have HGR := Lib.hid hgr
  have HBW := Lib.hid hbw
  clear hcode hbw hgr hc1
  have hq0 : w.heap.size + 1 ≤ W.heap.size := by omega
  have hq00 : W.heap.size ≤ w.heap.size + 1 := by omega
  clear hsW
  go_enter Tryz.func6, Tryz.ntmps6
  go_wp2_with fail
  try simp only [hW]
  refine HN.out.mono ?_
  rintro e w1 ⟨g, rfl, hc1, hgl⟩
  have hBg := cur_from hc1
  have HB1 := Lib.hid (HB.out g w1 hc1)
  clear HN HB
  go_wp2_with fail
  refine HB1.out.mono ?_
  rintro e w2 ⟨L, A, cA, ps, rfl, ho2, hsm, hc2, hf2⟩
  have H91 := Lib.hid (H9.out g w2 hc2)
  have hq2 := hf2.size
  have HO2 := Lib.hid ho2
  have HSM := Lib.hid hsm
  clear ho2 hsm hc2 hf2 HB1 H9
  go_wp2_with fail
  refine H91.out.mono ?_
  rintro e w3 ⟨x, x0, x1, rfl, hc3, ho3⟩
  have hgl3 := cur_lt hc3
  have HI1 := Lib.hid (HI.out g _ w3.heap.size (hc3.alloc _) (intsAt_new w3 countNums 3) (by omega))
  have HO3 := Lib.hid (owns_from HO2.out (only_from ho3) (by omega))
  have hq3 : w3.heap.size = w2.heap.size := ho3.1
  have hq3' : w2.heap.size ≤ w3.heap.size := by omega
  clear hc3 ho3 HO2 hq3 HI H91
  go_wp2_with fail
  refine HI1.out.mono ?_
  rintro e w4 ⟨kk, hkk, rfl, hc4, ho4⟩
  have hy := count_nums hkk
  have hf4 := (from_new (B := g + 1) (w := w3) (.cells (countNums.map (Value.int .i64)).toArray 3)).trans (only_from ho4)
  have HO4 := Lib.hid (owns_from HO3.out hf4 (by omega))
  have hg4 := (hc4.1.block w.heap.size (by omega)).trans HGR.out
  have HBE := Lib.hid (HBW.out.trans (hc4.1.mono (show w.heap.size ≤ W.heap.size by omega)))
  generalize countNums.getD kk 0 = y at *
  have hyw : RowKit.wrap64 (x + y) = x + y := by unfold RowKit.wrap64; omega
  obtain ⟨d0, d1, d2⟩ := sh_cells hg4
  have HH := Lib.hid hg4
  have hxy : -9 ≤ x + y ∧ x + y ≤ 20 := by omega
  clear hg4 hc4 ho4 hf4 HI1 HO3 hkk hy
  go_wp2
  refine bodyPost_ret (results_sh rfl _ _ w.heap.size 26 #[.int .i64 L, .slice A ps.length cA] (0, 0) _ rfl (sh_stores HH.out) Tryz.underlying26 rfl (by kernel_rfl)) rfl ?_
  exact ⟨L, A, cA, ps, _, rfl, strsG_of_owns (owns_stores (World.ownsRow.mono HO4.out (base' := W.heap.size) (by omega)) (show w.heap.size < W.heap.size by omega)), HSM.out, hxy, below_stores HBE.out (Nat.le_refl _) _ _⟩
end Go.Proofs.YtalclebehbdliaaGreat
