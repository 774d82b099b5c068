/-
  Merged: Whether a string has a part: the program's OccursIn, at every two strings of at most 2^31 bytes, in a world of the usual shape, answers as the model's; nothing is changed.
  The program's AvoidsAll: at every number and every list of strings in memory they answer as the plain words say; nothing that was there before is changed.
  The program's longerWords: at every list of words in memory and every number of letters up to 3 it returns each word with each letter behind it, in new memory; nothing that was there before is changed.
  All words of a length: the model's WordsOf and the program's, at every two ints, return the same list in new memory; nothing that was there before is changed.
  The program's AvoidingWords: at every shift in memory and every int it returns the words that the plain list holds, in new memory; nothing that was there before is changed.
  The program's pairs that go on: at every shift in memory the set of bits that the plain words say; nothing that was there before is changed.
  The model's InLanguage, IsEmptyShift and LanguageOf answer as the program's, in plain words.
  The model's LanguageOf: at every shift in memory and every int it returns the words that the plain list holds, in new memory; nothing that was there before is changed.
  PLAIN FACTS ON WALKS (no program in this text): walks of a relation on the numbers below N; repeated places; closed walks and what divides their lengths; where all pairs are joined by walks of one length.
  PLAIN FACTS ON WALKS, continued (no program in this text): where all pairs are joined and the closed walks have no common divisor, all pairs are joined by walks of one length, which is bounded.
  PLAIN FACTS ON COMPONENTS AND PERIODS (no program in this text): which vertices are reached, by the vertices passed; walks of n arcs; the components, the period, the primitive step and the turns of a matrix.
  The model's ReachOf: what the plain words say, in new memory; nothing that was there before is changed.
  The model's IsIrreducible and ComponentsOf: what the plain words say; nothing that was there before is changed.
-/
import Derived.Test.YtalclebehbdliaaBaseTexts
import Derived.Test.YtalclebehbdliaaShelfC
import Derived.Test.YtalclebehbdliaaChecked
import Derived.Test.YtalclebehbdliaaShiftIs
import Derived.Test.YtalclebehbdliaaShiftLaws
import Derived.Laws.BytesArg
import Derived.Test.YtalclebehbdliaaStrike
import Derived.Test.YtalclebehbdliaaPairsImpl
import Derived.Test.YtalclebehbdliaaLangSpec
import Derived.Lib.Hide
import Derived.BigRegion
namespace Go.Proofs.Ytalclebehbdliaa
open Go Go.RowKit

theorem impl_occurs (s sub : ByteArray) (hs : s.size ≤ 2147483648) (w : World) (h : w.ShapedOpen Try.prog) :
    Calls Try.prog 108 #[.string s, .string sub] w fun e w' => e = .returned (.bool (occ s sub)) ∧ w' = w := by
  have HC := Lib.hid (Try.strings_Contains_shaped s sub w h (by omega))
  clear h
  go_enter Try.func108, Try.ntmps108
  go_wp2_with fail
  refine HC.out.mono ?_
  rintro e w1 ⟨rfl, rfl⟩
  go_wp2
  go_ret
  exact ⟨rfl, rfl⟩

end Go.Proofs.Ytalclebehbdliaa
namespace Go.Proofs.Ytalclebehbdliaa
open Go Go.RowKit

set_option maxRecDepth 100000 in
set_option maxHeartbeats 1600000 in
theorem impl_avoidsAll (L : Int) (G : Option Addr) (c : Nat) (ps : List ByteArray) (s : ByteArray) (hl : ps.length ≤ 1048576) (hz : ∀ k, k < ps.length → (ps.getD k ByteArray.empty).size ≤ 2147483648) (hs2 : s.size ≤ 2147483648) (w : World) (hs : StrsG w G ps)
    (hsh : ∀ w', Below w.heap.size w w' → w'.ShapedOpen Try.prog) :
    Calls Try.prog 92 #[.agg #[.int .i64 L, .slice G ps.length c], .string s] w (BoolPost (avoidsAll L ps s) w) := by
  have hb := (Below.refl w.heap.size w).alloc (Nat.le_refl _) (.cells #[.int .i64 L, .slice G ps.length c] 27)
  have hs1 := hs.below hb
  have HS := Lib.hid hs1
  have HI := Lib.hid (impl_isShift L G c ps hl (fun k hk => by have := hz k hk; omega) _ hs1)
  have HW := Lib.hid (impl_isWord L s (by omega))
  have HO := Lib.hid (fun (k : Nat) w' (hw' : Below w.heap.size w w') => impl_occurs s (ps.getD k ByteArray.empty) hs2 w' (hsh w' hw'))
  have HB := Lib.hid hb
  have hbox : ∀ w', Below (w.heap.size + 1) (w.alloc (.cells #[.int .i64 L, .slice G ps.length c] 27)) w' → w'.cell? ⟨w.heap.size, 0, none⟩ = some (.int .i64 L) ∧ w'.cell? ⟨w.heap.size, 1, none⟩ = some (.slice G ps.length c) := fun w' h =>
    ⟨(h.cell (p := ⟨w.heap.size, 0, none⟩) (by show w.heap.size < _; omega)).trans (by simp), (h.cell (p := ⟨w.heap.size, 1, none⟩) (by show w.heap.size < _; omega)).trans (by simp)⟩
  have HX := Lib.hid hbox
  clear hs hz hb hs1 hbox hsh
  go_enter Try.func92, Try.ntmps92
  go_wp2_with fail
  refine HI.out.mono ?_
  rintro e w1 ⟨rfl, hb1⟩
  rw [World.size_alloc] at hb1
  obtain ⟨x0, x1⟩ := HX.out w1 hb1
  have hB1 : Below w.heap.size w w1 := HB.out.trans (hb1.mono (by omega))
  have HB1 := Lib.hid hB1
  cases hi : isShift L ps with
  | false =>
    clear hb1 hB1
    go_wp2
    go_ret
    exact ⟨by unfold avoidsAll; rw [hi]; rfl, HB1.out⟩
  | true =>
    have HST := Lib.hid (show StrsG w1 G ps from HS.out.below (by rw [World.size_alloc]; exact hb1))
    have HI2 := Lib.hid hi
    clear hb1 hB1 hi
    go_wp2_with fail
    refine (HW.out _).mono ?_
    rintro e w2 ⟨rfl, rfl⟩
    cases hw : isW L s with
    | false =>
      go_wp2
      go_ret
      exact ⟨by unfold avoidsAll; rw [hw, Bool.and_false]; rfl, HB1.out⟩
    | true =>
      have HW2 := Lib.hid hw
      have HO1 := Lib.hid (fun k => HO.out k _ HB1.out)
      clear hw
      go_wp2
      go_loop [20] (fun i => ∃ k : Nat, k ≤ ps.length ∧ i = .int .i64 k ∧ Hid (AvoidTo ps s k)) (fun i => ps.length - (intOf i).toNat)
      case atStart => exact ⟨0, Nat.zero_le _, rfl, Lib.hid (fun j h => by omega)⟩
      case round =>
        obtain ⟨k, hk, rfl, hto⟩ := hrel
        by_cases hlt : k < ps.length
        · obtain ⟨bg, og, rfl, hst, _⟩ := HST.out (by omega)
          have hc := hst k hlt
          have ho := HO1.out k
          cases hi : occ s (ps.getD k ByteArray.empty) with
          | true =>
            rw [hi] at ho
            have HR := Lib.hid (avoids_not hlt hi)
            have HO2 := Lib.hid ho
            generalize ps.getD k ByteArray.empty = y at *
            clear ho hi
            go_wp2_with fail
            refine HO2.out.mono ?_
            rintro e w3 ⟨rfl, rfl⟩
            go_wp2
            go_ret
            exact ⟨by unfold avoidsAll; rw [HR.out, Bool.and_false]; rfl, HB1.out⟩
          | false =>
            rw [hi] at ho
            have HT := Lib.hid (hto.out.next hi)
            have HO2 := Lib.hid ho
            generalize ps.getD k ByteArray.empty = y at *
            clear ho hi
            go_wp2_with fail
            refine HO2.out.mono ?_
            rintro e w3 ⟨rfl, rfl⟩
            go_wp2
            go_round
            case rel => exact ⟨k + 1, by omega, by go_num, HT⟩
            case measure => simp [intOf]; omega
        · obtain rfl : k = ps.length := by omega
          have HE := Lib.hid (avoids_end hto.out)
          go_wp2
          go_ret
          exact ⟨by unfold avoidsAll; rw [HI2.out, HW2.out, HE.out]; rfl, HB1.out⟩
theorem shape_next {w w' : World} (h : w.ShapedOpen Try.prog) (hb : Below w.heap.size w w') : w'.ShapedOpen Try.prog := h.keptBut (hb.frame (fun _ => False)) (fun _ h => h.elim)
theorem atCopies_impl_isShift (W : World) (L : Int) (xs : List ByteArray) : AtCopies W 48 L xs (isShift L xs) :=
  fun g c w' _ hl ht hs hg => impl_isShift L (some ⟨g, 0, none⟩) c xs hl (fun k hk => by have := size_le_total hk; omega) w' (.of hs hg)
theorem atCopies_impl_avoidsAll (W : World) (hsh : W.ShapedOpen Try.prog) (L : Int) (xs : List ByteArray) (s : ByteArray) : AtCopiesS W 92 L xs s (avoidsAll L xs s) :=
  fun g c w' hB hs hl ht hst hg => impl_avoidsAll L (some ⟨g, 0, none⟩) c xs s hl (fun k hk => by have := size_le_total hk; omega) (by omega) w' (.of hst hg) (fun _ h => shape_next hsh (below_after hB h))
end Go.Proofs.Ytalclebehbdliaa
namespace Go.Proofs.Ytalclebehbdliaa
open Go Go.RowKit

theorem letter_conv (x : Nat) (y : Int) (hx : x < 3) (hy : y = 97 + (x : Int)) (w : World) : (convert 72 9 (.slice (some ⟨w.heap.size, 0, none⟩) 1 1)).run Try.prog (w.alloc (.cells #[.int .u8 y] 5))
    = .ok (.string (letterB x)) (w.alloc (.cells #[.int .u8 y] 5)) := by
  have h := run_convert_bytes_arg (P := Try.prog) (w.alloc (.cells #[.int .u8 y] 5)) 72 5 Try.underlying72 Try.underlying5 w.heap.size 0 1 1 [y] rfl (fun i hi => by
    obtain rfl : i = 0 := by omega
    simp [go_sem]) 9 Try.underlying9
  rw [h]
  have e : y.toNat = 97 + x := by omega
  simp [strOfNums, letterB, e]

set_option maxRecDepth 100000 in
set_option maxHeartbeats 1600000 in
theorem impl_longer (g cap m k : Nat) (ws : List ByteArray) (hk : k ≤ 3) (hm : m ≤ 16) (hl : ws.length ≤ 729) (hz : ∀ x ∈ ws, x.size = m) (w : World) (hs : StrsAt w g 0 ws) (hg : g < w.heap.size) :
    Calls Try.prog 58 #[.slice (some ⟨g, 0, none⟩) ws.length cap, .int .i64 k] w (ListPost (longer ws k) w) := by
  obtain ⟨i0, hi, hz0, hz1, hz2⟩ := info_parts infoStr
  have HS := Lib.hid hs
  have HZ := Lib.hid hz
  clear hs hz
  have hmul : ws.length * k ≤ 729 * 3 := Nat.mul_le_mul hl hk
  have hcast : ((ws.length : Int) * (k : Int)) = ((ws.length * k : Nat) : Int) := by rw [Int.natCast_mul]
  have hm0 : 0 ≤ (ws.length : Int) * (k : Int) := by rw [hcast]; omega
  have hm1 : (ws.length : Int) * (k : Int) ≤ 2187 := by rw [hcast]; omega
  have hw1 : IntKind.i64.wrap ((ws.length : Int) * (k : Int)) = (ws.length : Int) * (k : Int) := wrap_small _ hm0 (by omega)
  have hw2 : wrap64 ((ws.length : Int) * (k : Int)) = (ws.length : Int) * (k : Int) := by unfold wrap64; omega
  have HC := Lib.hid hcast
  clear hcast hw1
  go_enter Try.func58, Try.ntmps58
  go_wp2_with (at_make; refine wpList_make_own _ rfl _ _ 22 rfl w.heap.size 9 i0 (.string ByteArray.empty) 1 Try.underlying22 hi hz0 hz1 .i64 .i64 _ (ws.length * k) rfl rfl HC.out (by rw [hz2]; omega) (by unfold maxLen; omega) (Nat.le_refl _) ?_; intro w1 hown hgrow)
  have HB0 := Lib.hid ((Below.refl w.heap.size w).grown hgrow (Nat.le_refl _) (fun k hk => by cases hk))
  have HO0 := Lib.hid hown
  clear hown hgrow hm0 hm1 hw2
  go_wp2
  go_loopw [5, 16] (fun v i wr => ∃ j : Nat, j ≤ ws.length ∧ i = .int .i64 j ∧ wr.ownsRow w.heap.size 9 1 v (upTo ws k j 0).length ((upTo ws k j 0).map Value.string) ∧ Below w.heap.size w wr) (fun _ i _ => ws.length - (intOf i).toNat)
  case atStart => exact ⟨0, Nat.zero_le _, rfl, HO0.out, HB0.out⟩
  case round =>
    obtain ⟨j, hj, rfl, ho, hbl⟩ := hrel
    have HO := Lib.hid ho
    have HB := Lib.hid hbl
    clear ho hbl
    by_cases hjl : j < ws.length
    · have hcell := HS.out.below HB.out hg j hjl
      rw [Nat.zero_add] at hcell
      have hws := getD_size HZ.out hjl
      have HU := Lib.hid (upTo_next ws k j)
      obtain ⟨y, hy⟩ : ∃ y, ws.getD j ByteArray.empty = y := ⟨_, rfl⟩
      rw [hy] at hcell hws HU
      clear hy
      go_wp2
      go_loopw [5, 21] (fun v i wr => ∃ x : Nat, x ≤ k ∧ i = .int .i64 x ∧ wr.ownsRow w.heap.size 9 1 v (upTo ws k j x).length ((upTo ws k j x).map Value.string) ∧ Below w.heap.size w wr) (fun _ i _ => k - (intOf i).toNat)
      case atStart => exact ⟨0, Nat.zero_le _, rfl, HO.out, HB.out⟩
      case round =>
        obtain ⟨x, hx, rfl, ho2, hbl2⟩ := hrel
        have HO2 := Lib.hid ho2
        have HB2 := Lib.hid hbl2
        clear ho2 hbl2
        by_cases hxk : x < k
        · have hys : (upTo ws k j x).length + 1 ≤ 10000 := by
            have h1 := upTo_length ws k j x (by omega)
            have h2 : j * k ≤ 729 * 3 := Nat.mul_le_mul (by omega) hk
            omega
          have hcv := letter_conv x (97 + (x : Int)) (by omega) rfl
          have x7 := letterB_size x
          have x8 : y.size + (letterB x).size ≤ 9223372036854775807 := by rw [x7, hws]; omega
          have HU2 := Lib.hid (HU.out x)
          clear x7
          have hnew : ∀ (c : Obj) (q : Nat) (u : Value), [Value.string (y ++ letterB x)][q]? = some u → ((wr.alloc c).alloc (.cells #[.string (y ++ letterB x)] 9)).cell? ((⟨wr.heap.size + 1, 0, none⟩ : Addr).add q) = some u := by
            intro c q u hq
            have h := cell_one_new (wr.alloc c) (.string (y ++ letterB x)) 9 q u hq
            rw [World.size_alloc] at h
            exact h
          have HNEW := Lib.hid hnew
          clear hnew
          go_wp2_with (at_builtin; refine wpList_append_own _ rfl (.tmp 24) (.tmp 32) 22 rfl w.heap.size 9 i0 (.string ByteArray.empty) 1 16 Try.underlying22 hi hz0 hz1 hz2 rfl (by decide) _ _ _ rfl ((HO2.out.alloc _).alloc _) ⟨wr.heap.size + 1, 0, none⟩ 1 1 [.string (y ++ letterB x)] rfl rfl (HNEW.out _) (by intro u hu; rw [List.mem_singleton] at hu; subst hu; rfl) (by unfold maxLen; omega) (by omega) (by have := HB2.out.size; simp; omega) ?_; intro v1 w1 ho1 hg1 _; have hb1 : Below w.heap.size w w1 := ((HB2.out.alloc HB2.out.size _).alloc (by have := HB2.out.size; simp; omega) _).grown hg1 (by have := HB2.out.size; simp; omega) (fun k hk => (HO2.out.lt k hk).1); have HO3 := Lib.hid ho1; have HB3 := Lib.hid hb1; clear ho1 hb1 hg1)
          go_roundw
          case rel => exact ⟨x + 1, by omega, by go_num, by rw [HU2.out, List.length_append, List.map_append]; exact HO3.out, HB3.out⟩
          case measure => simp [intOf]; omega
        · obtain rfl : x = k := by omega
          go_wp2
          go_roundw
          case rel => exact ⟨j + 1, by omega, by go_num, by rw [upTo_zero, ← upTo_full ws x j hjl]; exact HO2.out, HB2.out⟩
          case measure => simp [intOf]; omega
    · obtain rfl : j = ws.length := by omega
      go_wp2
      go_ret
      have h := HO.out
      rw [upTo_zero, List.take_length] at h
      exact ⟨_, rfl, h, HB.out⟩
end Go.Proofs.Ytalclebehbdliaa
namespace Go.Proofs.Ytalclebehbdliaa
open Go Go.RowKit

theorem wordsOf_yes {k n : Nat} (h1 : 1 ≤ k) (h3 : k ≤ 3) (hn : n ≤ 16) (hp : k ^ n ≤ 729) : wordsOf (k : Int) (n : Int) = allW k n := by
  unfold wordsOf
  rw [if_pos ⟨⟨by omega, by omega⟩, by omega, by omega, by simpa using hp⟩]
  simp
theorem wordsOf_no {k n : Int} (h : ¬ ((1 ≤ k ∧ k ≤ 3) ∧ 0 ≤ n ∧ n ≤ 16 ∧ k.toNat ^ n.toNat ≤ 729)) : wordsOf k n = [] := by
  unfold wordsOf
  rw [if_neg h]
theorem wordsOf_big {k n m : Nat} (h1 : 1 ≤ k) (hm : m ≤ n) (hp : 729 < k ^ m) : wordsOf (k : Int) (n : Int) = [] := by
  refine wordsOf_no ?_
  rintro ⟨_, _, _, h⟩
  have h2 : k ^ m ≤ k ^ n := Nat.pow_le_pow_right h1 hm
  simp at h
  omega
theorem wordsOf_length (k n : Int) : (wordsOf k n).length ≤ 1000000 := by
  unfold wordsOf
  split
  · next h => rw [allW_length]; omega
  · simp
theorem post_made (w : World) (e : Array Value) (t : TypeId) (he : e = #[]) (ht : t = 9) : ListPost [] w (.returned (.slice (some ⟨w.heap.size, 0, none⟩) 0 0)) (w.alloc (.cells e t)) := by
  subst he ht
  exact ⟨_, rfl, World.ownsRow_made _ _ 0 (Nat.le_refl _) (by decide) rfl, (Below.refl _ _).alloc (Nat.le_refl _) _⟩
theorem post_nil (w w' : World) (hb : Below w.heap.size w w') : ListPost [] w (.returned (.slice none 0 0)) w' := ⟨_, rfl, World.ownsRow_nil _ _ _ _, hb⟩

theorem ListPost.some {ps : List ByteArray} {w w' : World} {e : Ending} (h : ListPost ps w e w') (hp : 0 < ps.length) :
    ∃ g cap, e = .returned (.slice (some ⟨g, 0, none⟩) ps.length cap) ∧ w'.ownsRow w.heap.size 9 1 (.slice (some ⟨g, 0, none⟩) ps.length cap) ps.length (ps.map Value.string) ∧ Below w.heap.size w w' := by
  obtain ⟨v, rfl, ho, hb⟩ := h
  rcases ho.2 with ⟨rfl, h0⟩ | ⟨g, cap, cur, rfl, _, _, _⟩
  · omega
  · exact ⟨g, cap, rfl, ho, hb⟩

set_option maxRecDepth 100000 in
set_option maxHeartbeats 800000 in
theorem impl_wordsOf (k n : Int) (w : World) :
    Calls Try.prog 90 #[.int .i64 k, .int .i64 n] w (ListPost (wordsOf k n) w) := by
  have HI := Lib.hid (impl_isLetterCount k)
  go_enter Try.func90, Try.ntmps90
  cases hx : (decide (1 ≤ k) && decide (k ≤ 3)) with
  | false =>
    rw [hx] at HI
    have HN := Lib.hid (show wordsOf k n = [] from wordsOf_no (fun h => by rw [decide_eq_true h.1.1, decide_eq_true h.1.2] at hx; cases hx))
    clear hx
    go_wp2_with fail
    refine (HI.out _).mono ?_
    rintro e w1 ⟨rfl, rfl⟩
    go_wp2
    go_ret
    rw [HN.out]
    exact post_nil _ _ (Below.refl _ _)
  | true =>
    rw [hx] at HI
    have hk : 1 ≤ k ∧ k ≤ 3 := by simpa using hx
    clear hx
    by_cases hn : 0 ≤ n ∧ n ≤ 16
    · obtain ⟨kk, rfl⟩ := Int.eq_ofNat_of_zero_le (show 0 ≤ k by omega)
      obtain ⟨nn, rfl⟩ := Int.eq_ofNat_of_zero_le hn.1
      have k1 : 1 ≤ kk := by omega
      have k3 : kk ≤ 3 := by omega
      have n16 : nn ≤ 16 := by omega
      have g0 : decide ((nn : Int) < 0) = false := by simp
      have g1 : decide ((16 : Int) < (nn : Int)) = false := by simp; omega
      clear hk hn
      go_wp2_with fail
      refine (HI.out _).mono ?_
      rintro e w1 ⟨rfl, rfl⟩
      go_wp2
      go_loopw [5, 19] (fun v i wr => ∃ m : Nat, m ≤ nn ∧ i = .int .i64 m ∧ wr.ownsRow w1.heap.size 9 1 v (allW kk m).length ((allW kk m).map Value.string) ∧ Below w1.heap.size w1 wr ∧ Hid (kk ^ m ≤ 729)) (fun _ i _ => nn - (intOf i).toNat)
      case atStart => exact ⟨0, Nat.zero_le _, rfl, World.ownsRow_lit w1 #[.string ByteArray.empty] 1 (Nat.le_refl _) (by decide) rfl, (Below.refl _ _).alloc (Nat.le_refl _) _, Lib.hid (by rw [Nat.pow_zero]; decide)⟩
      case round =>
        obtain ⟨m, hm, rfl, ho, hbl, hpw⟩ := hrel
        have HB := Lib.hid hbl
        clear hbl
        by_cases hlt : m < nn
        · have hlen := allW_length kk m
          have hle := hpw.out
          have hpos : 0 < (allW kk m).length := by rw [hlen]; exact Nat.pow_pos k1
          have hlen2 := allW_length kk (m + 1)
          rw [← hlen] at hle
          rcases ho.2 with ⟨rfl, h0⟩ | ⟨g, cap, cur, rfl, _, _, _⟩
          · omega
          have HL := Lib.hid (impl_longer g cap m kk (allW kk m) k3 (by omega) hle (allW_size kk m) wr (StrsAt.of_owns ho rfl) (ho.lt g rfl).2)
          have HN := Lib.hid (show allW kk (m + 1) = longer (allW kk m) kk from rfl)
          generalize allW kk m = ws at *
          clear ho
          rw [HN.out] at hlen2
          have hpos2 : 0 < (longer ws kk).length := by rw [hlen2]; exact Nat.pow_pos k1
          have HLEN := Lib.hid hlen2
          clear hlen hlen2
          go_wp2_with fail
          refine HL.out.mono ?_
          rintro e w2 h2
          obtain ⟨g2, cap2, rfl, ho2, hb2⟩ := h2.some hpos2
          have HO2 := Lib.hid ho2
          have HB2 := Lib.hid hb2
          clear ho2 hb2 h2
          by_cases hbig : kk ^ (m + 1) ≤ 729
          · have g2 : decide ((729 : Int) < ((longer ws kk).length : Int)) = false := by
              have hq : (longer ws kk).length ≤ 729 := by rw [HLEN.out]; exact hbig
              rw [decide_eq_false_iff_not]; omega
            have HP := Lib.hid hbig
            clear hbig
            go_wp2
            go_roundw
            case rel => exact ⟨m + 1, by omega, by go_num, by rw [HN.out]; exact HO2.out.mono HB.out.size, HB.out.trans (HB2.out.mono HB.out.size), HP⟩
            case measure => simp [intOf]; omega
          · have g2 : decide ((729 : Int) < ((longer ws kk).length : Int)) = true := by
              have hq : ¬ (longer ws kk).length ≤ 729 := by rw [HLEN.out]; exact hbig
              rw [decide_eq_true_eq]; omega
            have HP := Lib.hid (wordsOf_big (n := nn) k1 (show m + 1 ≤ nn by omega) (show 729 < kk ^ (m + 1) by omega))
            clear hbig
            go_wp2
            go_ret
            rw [HP.out]
            exact post_nil _ _ (HB.out.trans (HB2.out.mono HB.out.size))
        · obtain rfl : m = nn := by omega
          have HO := Lib.hid ho
          clear ho
          have HN := Lib.hid (wordsOf_yes k1 k3 n16 hpw.out)
          go_wp2
          go_ret
          rw [HN.out]
          exact ⟨_, rfl, HO.out, HB.out⟩
    · have HN := Lib.hid (show wordsOf k n = [] from wordsOf_no (fun h => hn ⟨h.2.1, h.2.2.1⟩))
      by_cases h0 : n < 0
      · have g0 : decide (n < 0) = true := by simp; omega
        go_wp2_with fail
        refine (HI.out _).mono ?_
        rintro e w1 ⟨rfl, rfl⟩
        go_wp2
        go_ret
        rw [HN.out]
        exact post_nil _ _ (Below.refl _ _)
      · have g0 : decide (n < 0) = false := by simp; omega
        have g1 : decide (16 < n) = true := by simp; omega
        go_wp2_with fail
        refine (HI.out _).mono ?_
        rintro e w1 ⟨rfl, rfl⟩
        go_wp2
        go_ret
        rw [HN.out]
        exact post_nil _ _ (Below.refl _ _)

theorem pow1 (m : Nat) : 1 ^ m ≤ 729 := by rw [Nat.one_pow]; decide
theorem pow2 {m : Nat} (h : m ≤ 9) : 2 ^ m ≤ 729 := Nat.le_trans (Nat.pow_le_pow_right (by decide) h) (by decide)
theorem pow3 {m : Nat} (h : m ≤ 6) : 3 ^ m ≤ 729 := Nat.le_trans (Nat.pow_le_pow_right (by decide) h) (by decide)
theorem pow2big {m : Nat} (h : 10 ≤ m) : 729 < 2 ^ m := Nat.lt_of_lt_of_le (by decide) (Nat.pow_le_pow_right (by decide) h)
theorem pow3big {m : Nat} (h : 7 ≤ m) : 729 < 3 ^ m := Nat.lt_of_lt_of_le (by decide) (Nat.pow_le_pow_right (by decide) h)
/-- The longest words that are listed. -/
def topN (k : Nat) : Nat := if k = 1 then 16 else if k = 2 then 9 else 6
theorem wordsOf_over {k n : Nat} (h1 : 1 ≤ k) (h3 : k ≤ 3) (hn : topN k < n) : wordsOf (k : Int) (n : Int) = [] := by
  unfold topN at hn
  by_cases e1 : k = 1
  · subst e1
    exact wordsOf_no (fun h => by simp at hn; omega)
  · by_cases e2 : k = 2
    · subst e2
      simp at hn
      exact wordsOf_big (m := n) (by decide) (Nat.le_refl _) (pow2big (by omega))
    · obtain rfl : k = 3 := by omega
      simp at hn
      exact wordsOf_big (m := n) (by decide) (Nat.le_refl _) (pow3big (by omega))
theorem pow_top {k n : Nat} (h1 : 1 ≤ k) (h3 : k ≤ 3) (hn : n ≤ topN k) : ∀ i, i ≤ n → k ^ i ≤ 729 := by
  intro i hi
  unfold topN at hn
  by_cases e1 : k = 1
  · subst e1; exact pow1 i
  · by_cases e2 : k = 2
    · subst e2; simp at hn; exact pow2 (by omega)
    · obtain rfl : k = 3 := by omega
      simp at hn; exact pow3 (by omega)

end Go.Proofs.Ytalclebehbdliaa
namespace Go.Proofs.Ytalclebehbdliaa
open Go Go.RowKit

theorem enters_avoids : ∀ args w, (callFunc 91 args).run Try.prog w = .ok (.enter 91 args) w := enters_of Try.func91 (by kernel_rfl) rfl

set_option maxRecDepth 100000 in
theorem test_avoids (L : Int) (G : Option Addr) (c H : Nat) (ps : List ByteArray) (hl : ps.length ≤ 1048576) (hz : ∀ k, k < ps.length → (ps.getD k ByteArray.empty).size ≤ 2147483648) (w : World) (hs : StrsG w G ps) (hH : H = w.heap.size)
    (hsh : ∀ w', Below w.heap.size w w' → w'.ShapedOpen Try.prog) :
    TestAt (H + 1) (w.alloc (.cells #[.int .i64 L, .slice G ps.length c] 27)) 91 #[.pointer (some ⟨H, 0, none⟩)] (fun x => !avoidsAll L ps x) (fun x => x.size ≤ 16) := by
  subst hH
  intro x W hx hW
  have hb := (Below.refl w.heap.size w).alloc (Nat.le_refl _) (.cells #[.int .i64 L, .slice G ps.length c] 27)
  have hbW : Below w.heap.size w W := hb.trans (hW.mono (by omega))
  have x0 : W.cell? ⟨w.heap.size, 0, none⟩ = some (.int .i64 L) := (hW.cell (p := ⟨w.heap.size, 0, none⟩) (by show w.heap.size < _; omega)).trans (by simp)
  have x1 : W.cell? ⟨w.heap.size, 1, none⟩ = some (.slice G ps.length c) := (hW.cell (p := ⟨w.heap.size, 1, none⟩) (by show w.heap.size < _; omega)).trans (by simp)
  have HA := Lib.hid (impl_avoidsAll L G c ps x hl hz (by omega) W (hs.below hbW) (fun w' h => hsh w' (below_after hbW h)))
  clear hs hz hb hbW hsh hW
  show Calls Try.prog 91 #[.string x, .pointer (some ⟨w.heap.size, 0, none⟩)] W _
  go_enter Try.func91, Try.ntmps91
  go_wp2_with fail
  refine HA.out.mono ?_
  rintro e w1 ⟨rfl, hb1⟩
  go_wp2
  go_ret
  exact ⟨rfl, hb1⟩

theorem avoidingWords_yes {L : Int} {ps : List ByteArray} {n : Int} (hi : isShift L ps = true) (h0 : 0 ≤ n) (h6 : n ≤ 6) : (wordsOf L n).filter (fun x => !!avoidsAll L ps x) = avoidingWords L ps n ∧ ∀ x ∈ wordsOf L n, x.size ≤ 16 := by
  obtain ⟨l1, l3, _⟩ := isShift_letters hi
  have e : wordsOf L n = allW L.toNat n.toNat := by
    have := wordsOf_yes (k := L.toNat) (n := n.toNat) (by omega) (by omega) (by omega) (pow_six (by omega) (by omega) n.toNat (Nat.le_refl _))
    rwa [show ((L.toNat : Nat) : Int) = L by omega, show ((n.toNat : Nat) : Int) = n by omega] at this
  unfold avoidingWords
  rw [if_pos ⟨hi, h0, h6⟩, e]
  have hw : ∀ x ∈ allW L.toNat n.toNat, isW L x = true := by
    intro x hx
    obtain ⟨h1, h2⟩ := (mem_allW L.toNat (by omega) n.toNat x).1 hx
    rw [show ((L.toNat : Nat) : Int) = L by omega] at h2
    unfold isW
    rw [h2, h1, decide_eq_true l1, decide_eq_true l3, show decide (n.toNat ≤ 16) = true by rw [decide_eq_true_eq]; omega]
    rfl
  refine ⟨List.filter_congr fun x hx => ?_, fun x hx => isW_len (hw x hx)⟩
  unfold avoidsAll
  rw [hi, hw x hx, Bool.not_not]; rfl

set_option maxRecDepth 100000 in
set_option maxHeartbeats 1600000 in
theorem impl_avoidingWords (L n : Int) (G : Option Addr) (c : Nat) (ps : List ByteArray) (hl : ps.length ≤ 1048576) (hz : ∀ k, k < ps.length → (ps.getD k ByteArray.empty).size ≤ 2147483648) (w : World) (hs : StrsG w G ps)
    (hsh : ∀ w', Below w.heap.size w w' → w'.ShapedOpen Try.prog) :
    Calls Try.prog 76 #[.agg #[.int .i64 L, .slice G ps.length c], .int .i64 n] w (ListPost (avoidingWords L ps n) w) := by
  have hb := (Below.refl w.heap.size w).alloc (Nat.le_refl _) (.cells #[.int .i64 L, .slice G ps.length c] 27)
  have hs1 := hs.below hb
  have HI := Lib.hid (impl_isShift L G c ps hl (fun k hk => by have := hz k hk; omega) _ hs1)
  have HT := Lib.hid (test_avoids L G c w.heap.size ps hl hz w hs rfl hsh)
  have HB := Lib.hid hb
  have HX := Lib.hid (fun w' (h : Below (w.heap.size + 1) (w.alloc (.cells #[.int .i64 L, .slice G ps.length c] 27)) w') =>
    show w'.cell? ⟨w.heap.size, 0, none⟩ = some (.int .i64 L) from (h.cell (p := ⟨w.heap.size, 0, none⟩) (by show w.heap.size < _; omega)).trans (by simp))
  clear hs hz hb hs1 hsh
  go_enter Try.func76, Try.ntmps76
  go_wp2_with fail
  refine HI.out.mono ?_
  rintro e w1 ⟨rfl, hb1⟩
  rw [World.size_alloc] at hb1
  have x0 := HX.out w1 hb1
  have hs1 : w.heap.size + 1 ≤ w1.heap.size := by have := hb1.size; rw [World.size_alloc] at this; exact this
  have HB1 := Lib.hid hb1
  have HBw : Hid (Below w.heap.size w w1) := Lib.hid (HB.out.trans (hb1.mono (by omega)))
  clear hb1
  cases hi : isShift L ps with
  | false =>
    have HR : Hid (avoidingWords L ps n = []) := Lib.hid (by unfold avoidingWords; rw [if_neg (by rw [hi]; simp)])
    clear hi
    go_wp2
    go_ret
    rw [HR.out]
    exact post_nil _ _ HBw.out
  | true =>
    by_cases h0 : n < 0
    · have g0 : decide (n < (0 : Int)) = true := decide_eq_true h0
      have HR : Hid (avoidingWords L ps n = []) := Lib.hid (by unfold avoidingWords; rw [if_neg (by omega)])
      clear hi
      go_wp2
      go_ret
      rw [HR.out]
      exact post_nil _ _ HBw.out
    · have g0 : decide (n < (0 : Int)) = false := decide_eq_false h0
      by_cases h6 : 6 < n
      · have g6 : decide ((6 : Int) < n) = true := decide_eq_true h6
        have HR : Hid (avoidingWords L ps n = []) := Lib.hid (by unfold avoidingWords; rw [if_neg (by omega)])
        clear hi
        go_wp2
        go_ret
        rw [HR.out]
        exact post_nil _ _ HBw.out
      · have g6 : decide ((6 : Int) < n) = false := decide_eq_false h6
        obtain ⟨hf, hok⟩ := avoidingWords_yes hi (show 0 ≤ n by omega) (show n ≤ 6 by omega)
        have HF := Lib.hid hf
        have HO := Lib.hid hok
        have HW := Lib.hid (impl_wordsOf L n w1)
        clear hi hf hok
        go_wp2_with fail
        refine HW.out.mono ?_
        rintro e w2 ⟨v, rfl, ho2, hb2⟩
        have HS := Lib.hid (strike_list (w.heap.size + 1) _ _ _ enters_avoids _ _ HT.out (wordsOf L n) HO.out (wordsOf_length L n) v w2 (HB1.out.trans (hb2.mono hs1)) (Nat.le_trans hs1 hb2.size) (ho2.mono hs1))
        clear ho2 hb2
        go_wp2_with fail
        refine HS.out.mono ?_
        rintro e w3 ⟨v3, rfl, ho3, hb3⟩
        rw [HF.out] at ho3
        have HP : Hid (ListPost (avoidingWords L ps n) w (.returned v3) w3) := Lib.hid ⟨v3, rfl, ho3.mono (by omega), HB.out.trans (hb3.mono (by omega))⟩
        clear ho3 hb3
        go_wp2
        go_ret
        exact HP.out
theorem atCopies_impl_avoidingWords (W : World) (hsh : W.ShapedOpen Try.prog) (L : Int) (xs : List ByteArray) (n : Int) : AtCopiesL W 76 L xs n (avoidingWords L xs n) :=
  fun g c w' hB hl ht hst hg => impl_avoidingWords L n (some ⟨g, 0, none⟩) c xs hl (fun k hk => by have := size_le_total hk; omega) w' (.of hst hg) (fun _ h => shape_next hsh (below_after hB h))
end Go.Proofs.Ytalclebehbdliaa
namespace Go.Proofs.Ytalclebehbdliaa
open Go Go.RowKit

/-- A word of three letters. -/
def Tri (x : ByteArray) : Prop := x.size = 3 ∧ Letters x
theorem or_bit (a n : Nat) (ha : a < 65536) (hn : n < 16) : bits .or .u16 (a : Int) (IntKind.u16.wrap ((1 : Int) * 2 ^ n)) = ((a ||| 2 ^ n : Nat) : Int) := by
  rw [pow_bit n hn]
  exact or_u16 a _ ha (Nat.pow_lt_pow_of_lt (by decide) hn)
theorem or_lt {a n : Nat} (ha : a < 512) (hn : n ≤ 8) : a ||| 2 ^ n < 512 := Nat.or_lt_two_pow (n := 9) ha (Nat.pow_lt_pow_of_lt (by decide) (by omega))
theorem fold_lt (p : Nat) : ∀ (ws : List ByteArray) (r : Nat × Nat), (∀ x ∈ ws, Tri x) → r.1 < 512 → r.2 < 512 → (ws.foldl (stepF p) r).1 < 512 ∧ (ws.foldl (stepF p) r).2 < 512
  | [], r, _, h1, h2 => ⟨h1, h2⟩
  | x :: ws, r, h, h1, h2 => by
    have hx := h x (List.mem_cons_self ..)
    have b0 := letters_bit (i := 0) hx.2 (by have := hx.1; omega)
    have b1 := letters_bit (i := 1) hx.2 (by have := hx.1; omega)
    rw [List.foldl_cons]
    refine fold_lt p ws _ (fun y hy => h y (List.mem_cons_of_mem _ hy)) ?_ ?_
    · unfold stepF; split
      · exact or_lt h1 b0
      · exact h1
    · unfold stepF; split
      · exact or_lt h2 b1
      · exact h2

set_option maxRecDepth 100000 in
set_option maxHeartbeats 1600000 in
theorem impl_continued (p : Nat) (hp : p < 512) (A : Option Addr) (c : Nat) (ws : List ByteArray) (hn : ws.length ≤ 1000000) (ht : ∀ x ∈ ws, Tri x) (w : World) (hs : RowAt w A ws) :
    Calls Try.prog 88 #[.int .u16 p, .slice A ws.length c] w fun e w' => e = .returned (.int .u16 (stepB ws p : Nat)) ∧ ∃ q, w' = w.drewN q := by
  have HT := Lib.hid (fun k (hk : k < ws.length) => ht _ (getD_mem hk))
  have HF := Lib.hid (fun k => fold_lt p (ws.take k) (0, 0) (fun x hx => ht x (List.mem_of_mem_take hx)) (by decide) (by decide))
  have HS := Lib.hid hs
  have HE : Hid (stepB ws p = ((ws.take ws.length).foldl (stepF p) (0, 0)).1 &&& ((ws.take ws.length).foldl (stepF p) (0, 0)).2) := Lib.hid (by rw [List.take_length]; rfl)
  clear hs ht
  go_enter Try.func88, Try.ntmps88
  go_wp2
  go_loopw [5, 6, 8, 11] (fun a b _ i wr => ∃ k q : Nat, ∃ r : Nat × Nat, k ≤ ws.length ∧ i = .int .i64 k ∧ a = .int .u16 (r.1 : Nat) ∧ b = .int .u16 (r.2 : Nat) ∧ wr = w.drewN q ∧ Hid (r = (ws.take k).foldl (stepF p) (0, 0))) (fun _ _ _ i _ => ws.length - (intOf i).toNat)
  case atStart => exact ⟨0, 0, (0, 0), Nat.zero_le _, rfl, rfl, rfl, rfl, Lib.hid rfl⟩
  case round =>
    obtain ⟨k, q, ⟨a, b⟩, hk, rfl, rfl, rfl, rfl, hr⟩ := hrel
    have hlt512 := HF.out k
    rw [← hr.out] at hlt512
    obtain ⟨ha, hb⟩ := hlt512
    simp only [] at ha hb
    by_cases hlt : k < ws.length
    · obtain ⟨g, rfl, hst, hg⟩ := HS.out (by omega)
      have hc := hst k hlt
      rw [Nat.zero_add] at hc
      obtain ⟨h3, hlx⟩ := HT.out k hlt
      have HN := Lib.hid (foldl_next ws p k (0, 0) hlt)
      rw [← hr.out] at HN
      have hH0 := Lib.hid (fun w' => impl_has p (by omega) ((ws.getD k ByteArray.empty).extract 0 2) (by rw [part_size (by omega) (by omega)]) (part_letters (by omega) (by omega) hlx) w')
      have hH1 := Lib.hid (fun w' => impl_has p (by omega) ((ws.getD k ByteArray.empty).extract 1 3) (by rw [part_size (by omega) (by omega)]) (part_letters (by omega) (by omega) hlx) w')
      have hP0 := Lib.hid (fun w' => impl_pairBit ((ws.getD k ByteArray.empty).extract 0 2) (by rw [part_size (by omega) (by omega)]) (part_letters (by omega) (by omega) hlx) w')
      have hP1 := Lib.hid (fun w' => impl_pairBit ((ws.getD k ByteArray.empty).extract 1 3) (by rw [part_size (by omega) (by omega)]) (part_letters (by omega) (by omega) hlx) w')
      have b0 := letters_bit (i := 0) hlx (by omega)
      have b1 := letters_bit (i := 1) hlx (by omega)
      have e0 : bitAt ((ws.getD k ByteArray.empty).extract 0 2) 0 = bitAt (ws.getD k ByteArray.empty) 0 := by rw [part_bit (by omega)]
      have e1 : bitAt ((ws.getD k ByteArray.empty).extract 1 3) 0 = bitAt (ws.getD k ByteArray.empty) 1 := by rw [part_bit (by omega)]
      have f0 : hasP p ((ws.getD k ByteArray.empty).extract 0 2) 0 = hasP p (ws.getD k ByteArray.empty) 0 := by unfold hasP; rw [e0]
      have f1 : hasP p ((ws.getD k ByteArray.empty).extract 1 3) 0 = hasP p (ws.getD k ByteArray.empty) 1 := by unfold hasP; rw [e1]
      rw [f0] at hH0
      rw [f1] at hH1
      rw [e0] at hP0
      rw [e1] at hP1
      generalize ws.getD k ByteArray.empty = x at *
      clear hst hlx e0 e1 f0 f1 hr
      cases h0 : hasP p x 0 with
      | false =>
        rw [h0] at hH0
        have HZ : Hid (stepF p (a, b) x = (a, b)) := Lib.hid (by unfold stepF; rw [if_neg (by rw [h0]; simp)])
        clear h0
        go_wp2_with fail
        refine (hH0.out _).mono ?_
        rintro e w1 ⟨rfl, q1, rfl⟩
        go_wp2
        go_roundw
        case rel => exact ⟨k + 1, q + q1, (a, b), by omega, by go_num, rfl, rfl, rfl, Lib.hid (by rw [HN.out, HZ.out])⟩
        case measure => simp [intOf]; omega
      | true =>
        rw [h0] at hH0
        cases h1 : hasP p x 1 with
        | false =>
          rw [h1] at hH1
          have HZ : Hid (stepF p (a, b) x = (a, b)) := Lib.hid (by unfold stepF; rw [if_neg (by rw [h1]; simp)])
          clear h0 h1
          go_wp2_with fail
          refine (hH0.out _).mono ?_
          rintro e w1 ⟨rfl, q1, rfl⟩
          go_wp2_with fail
          refine (hH1.out _).mono ?_
          rintro e w1 ⟨rfl, q2, rfl⟩
          go_wp2
          go_roundw
          case rel => exact ⟨k + 1, q + q1 + q2, (a, b), by omega, by go_num, rfl, rfl, rfl, Lib.hid (by rw [HN.out, HZ.out])⟩
          case measure => simp [intOf]; omega
        | true =>
          rw [h1] at hH1
          have HZ : Hid (stepF p (a, b) x = (a ||| 2 ^ bitAt x 0, b ||| 2 ^ bitAt x 1)) := Lib.hid (by unfold stepF; rw [if_pos (by rw [h0, h1]; rfl)])
          clear h0 h1
          generalize bitAt x 0 = n0 at *
          generalize bitAt x 1 = n1 at *
          have HA := Lib.hid (or_bit a n0 (by omega) (by omega))
          have HB := Lib.hid (or_bit b n1 (by omega) (by omega))
          go_wp2_with fail
          refine (hH0.out _).mono ?_
          rintro e w1 ⟨rfl, q1, rfl⟩
          go_wp2_with fail
          refine (hH1.out _).mono ?_
          rintro e w1 ⟨rfl, q2, rfl⟩
          go_wp2_with fail
          refine (hP0.out _).mono ?_
          rintro e w1 ⟨rfl, q3, rfl⟩
          go_wp2_with fail
          refine (hP1.out _).mono ?_
          rintro e w1 ⟨rfl, q4, rfl⟩
          go_wp2
          go_roundw
          case rel =>
            refine ⟨k + 1, q + q1 + q2 + q3 + q4, (a ||| 2 ^ n0, b ||| 2 ^ n1), by omega, by go_num, ?_, ?_, rfl, Lib.hid (by rw [HN.out, HZ.out])⟩
            · rw [← HA.out]; simp
            · rw [← HB.out]; simp
          case measure => simp [intOf]; omega
    · obtain rfl : k = ws.length := by omega
      have HR : Hid (((stepB ws p : Nat) : Int) = bits .and .u16 (a : Int) (b : Int)) := Lib.hid (by rw [and_u16 a b (by omega) (by omega), HE.out, ← hr.out])
      clear hr
      go_wp2
      go_ret
      exact ⟨by rw [HR.out]; rfl, q, rfl⟩

/-! ### The pairs of a shift -/
def livelyB (L : Int) (ps : List ByteArray) : Nat := setB (avoidingWords L ps 3)
def inLang (L : Int) (ps : List ByteArray) (x : ByteArray) : Bool := avoidsAll L ps x && coverB (livelyB L ps) x
def langOf (L : Int) (ps : List ByteArray) (n : Int) : List ByteArray := (avoidingWords L ps n).filter (coverB (livelyB L ps))
def emptyS (L : Int) (ps : List ByteArray) : Bool := isShift L ps && decide (livelyB L ps = 0)
theorem livelyB_le (L : Int) (ps : List ByteArray) : livelyB L ps ≤ 511 := fixB_le _ _ _
theorem letters_of {L : Int} (hL : L ≤ 3) {x : ByteArray} (h : x.data.toList.all (isL L) = true) : Letters x := by
  intro j hj
  have h1 := ch_isL h hj
  rw [ch_lt x j hj] at h1
  have := ix_lt hL h1
  unfold ix at this
  omega
theorem avoiding_word {L n : Int} {ps : List ByteArray} {x : ByteArray} (h : x ∈ avoidingWords L ps n) : x.size = n.toNat ∧ n ≤ 6 ∧ Letters x := by
  unfold avoidingWords at h
  split at h
  · next hc =>
    obtain ⟨l1, l3, _⟩ := isShift_letters hc.1
    obtain ⟨h1, h2⟩ := (mem_allW L.toNat (by omega) n.toNat x).1 (List.mem_filter.1 h).1
    exact ⟨h1, by omega, letters_of (by omega) h2⟩
  · cases h
theorem isW_all {L : Int} {x : ByteArray} (h : isW L x = true) : (1 ≤ L ∧ L ≤ 3) ∧ x.size ≤ 16 ∧ x.data.toList.all (isL L) = true := by
  unfold isW at h
  simp only [Bool.and_eq_true, decide_eq_true_eq] at h
  exact ⟨h.1.1, h.1.2, h.2⟩
theorem fixB_stop {ws : List ByteArray} {p : Nat} (h : stepB ws p = p) : ∀ n, fixB ws n p = p
  | 0 => rfl
  | n + 1 => by unfold fixB; rw [if_pos h]
theorem fixB_go {ws : List ByteArray} {p n : Nat} (h : stepB ws p ≠ p) : fixB ws (n + 1) p = fixB ws n (stepB ws p) := by
  show (if stepB ws p = p then p else fixB ws n (stepB ws p)) = _
  rw [if_neg h]

set_option maxRecDepth 100000 in
set_option maxHeartbeats 1600000 in
theorem impl_lively (L : Int) (G : Option Addr) (c : Nat) (ps : List ByteArray) (hl : ps.length ≤ 1048576) (hz : ∀ k, k < ps.length → (ps.getD k ByteArray.empty).size ≤ 2147483648) (w : World) (hs : StrsG w G ps)
    (hsh : ∀ w', Below w.heap.size w w' → w'.ShapedOpen Try.prog) :
    Calls Try.prog 74 #[.agg #[.int .i64 L, .slice G ps.length c]] w fun e w' => e = .returned (.int .u16 (livelyB L ps : Nat)) ∧ Below w.heap.size w w' := by
  have hb := (Below.refl w.heap.size w).alloc (Nat.le_refl _) (.cells #[.int .i64 L, .slice G ps.length c] 27)
  have hs1 := hs.below hb
  have HA := Lib.hid (impl_avoidingWords L 3 G c ps hl hz _ hs1 (fun w' h => hsh w' (below_after hb h)))
  have HB := Lib.hid hb
  have HT := Lib.hid (fun x (hx : x ∈ avoidingWords L ps 3) => show Tri x from ⟨(avoiding_word hx).1, (avoiding_word hx).2.2⟩)
  have HL := Lib.hid (avoidingWords_length L ps 3)
  have HD : Hid (livelyB L ps = fixB (avoidingWords L ps 3) 511 511) := Lib.hid rfl
  clear hs hz hb hs1 hsh
  generalize avoidingWords L ps 3 = tr at *
  go_enter Try.func74, Try.ntmps74
  go_wp2_with fail
  refine HA.out.mono ?_
  intro e w1 hp
  obtain ⟨A, cap, rfl, hr, hb1⟩ := hp.rowAt
  have HR := Lib.hid hr
  have HC := Lib.hid (fun p (hp : p < 512) w' (hw : Below w1.heap.size w1 w') => impl_continued p hp A cap tr HL.out HT.out w' (hr.below hw))
  have HB1 := Lib.hid (below_after HB.out hb1)
  clear hp hr hb1
  go_wp2
  go_loopw [4, 5] (fun a _ wr => ∃ n p q : Nat, a = .int .u16 (p : Nat) ∧ p ≤ n ∧ p < 512 ∧ Hid (livelyB L ps = fixB tr n p) ∧ wr = w1.drewN q) (fun a _ _ => (intOf a).toNat)
  case atStart => exact ⟨511, 511, 0, rfl, Nat.le_refl _, by decide, HD, rfl⟩
  case round =>
    obtain ⟨n, p, q, rfl, hpn, hp, hfix, rfl⟩ := hrel
    have hle := stepB_le tr p
    have HC1 := Lib.hid (HC.out p hp (w1.drewN q) (below_drewN (Below.refl _ _) q))
    by_cases he : stepB tr p = p
    · have HF := Lib.hid (hfix.out.trans (fixB_stop he n))
      rw [he] at HC1
      clear hle he
      go_wp2_with fail
      refine HC1.out.mono ?_
      rintro e w2 ⟨rfl, q1, rfl⟩
      go_wp2
      go_ret
      exact ⟨by rw [HF.out]; rfl, below_drewN HB1.out (q + q1)⟩
    · have g1 : (((stepB tr p : Nat) : Int) == (p : Int)) = false := beq_eq_false_iff_ne.2 (by omega)
      obtain ⟨m, rfl⟩ : ∃ m, n = m + 1 := ⟨n - 1, by omega⟩
      have HF := Lib.hid (hfix.out.trans (fixB_go (n := m) he))
      have hless : stepB tr p < p := by omega
      generalize stepB tr p = p' at *
      clear he
      go_wp2_with fail
      refine HC1.out.mono ?_
      rintro e w2 ⟨rfl, q1, rfl⟩
      go_wp2
      go_roundw
      case rel => exact ⟨m, p', q + q1, rfl, by omega, by omega, HF, rfl⟩
      case measure => simp [intOf]; omega

end Go.Proofs.Ytalclebehbdliaa
namespace Go.Proofs.Ytalclebehbdliaa
open Go Go.RowKit

theorem tris_of {L : Int} {ps : List ByteArray} (h : isShift L ps = true) : avoidingWords L ps 3 = trisW L.toNat ps := by
  unfold avoidingWords
  rw [if_pos ⟨h, by decide, by decide⟩]; rfl
theorem inM_cover {L : Int} {ps : List ByteArray} (h : isShift L ps = true) {s : ByteArray} (hs : s.data.toList.all (isL L) = true) : inM ps (pairsW L.toNat ps) s = (avoids ps s && coverB (livelyB L ps) s) := by
  obtain ⟨l1, l3, _⟩ := isShift_letters h
  unfold livelyB
  rw [tris_of h]
  exact in_same (by omega) (by rw [show ((L.toNat : Nat) : Int) = L by omega]; exact hs)
theorem inLang_same (L : Int) (ps : List ByteArray) (s : ByteArray) : inLangS L ps s = inLang L ps s := by
  unfold inLangS inLang avoidsAll
  cases hi : isShift L ps with
  | false => rfl
  | true =>
    cases hw : isW L s with
    | false => rfl
    | true =>
      rw [inM_cover hi (isW_all hw).2.2]; rfl
theorem empty_same (L : Int) (ps : List ByteArray) : emptyT L ps = emptyS L ps := by
  unfold emptyT emptyS
  cases hi : isShift L ps with
  | false => rfl
  | true =>
    obtain ⟨l1, l3, _⟩ := isShift_letters hi
    unfold livelyB
    rw [tris_of hi, Bool.eq_iff_iff, Bool.true_and, Bool.true_and, decide_eq_true_eq, decide_eq_true_eq, setB_zero (by omega), List.length_eq_zero_iff]
def langOfS (L : Int) (ps : List ByteArray) (n : Int) : List ByteArray := if isShift L ps = true ∧ 0 ≤ n ∧ n ≤ 6 then (allW L.toNat n.toNat).filter (inM ps (pairsW L.toNat ps)) else []
theorem langOf_same (L : Int) (ps : List ByteArray) (n : Int) : langOfS L ps n = langOf L ps n := by
  unfold langOfS langOf avoidingWords
  split
  · next hc =>
    obtain ⟨l1, l3, _⟩ := isShift_letters hc.1
    unfold keepW
    rw [List.filter_filter]
    refine List.filter_congr fun x hx => ?_
    obtain ⟨_, h2⟩ := (mem_allW L.toNat (by omega) n.toNat x).1 hx
    rw [inM_cover hc.1 (by rw [show ((L.toNat : Nat) : Int) = L by omega] at h2; exact h2), Bool.and_comm]
  · rfl
theorem langOf_length (L : Int) (ps : List ByteArray) (n : Int) : (langOf L ps n).length ≤ 1000000 :=
  Nat.le_trans (List.length_filter_le _ _) (avoidingWords_length L ps n)
set_option maxRecDepth 100000 in
set_option maxHeartbeats 1600000 in
theorem spec_isEmptyShift (L : Int) (G : Option Addr) (c : Nat) (ps : List ByteArray) (hl : ps.length ≤ 1048576) (hz : ∀ k, k < ps.length → (ps.getD k ByteArray.empty).size ≤ 2147483648) (w : World) (hs : StrsG w G ps) :
    Calls Try.prog 53 #[.agg #[.int .i64 L, .slice G ps.length c]] w (BoolPost (emptyT L ps) w) := by
  have hb := (Below.refl w.heap.size w).alloc (Nat.le_refl _) (.cells #[.int .i64 L, .slice G ps.length c] 27)
  have hs1 := hs.below hb
  have HI := Lib.hid (spec_isShift L G c ps hl (fun k hk => by have := hz k hk; omega) _ hs1)
  have HST := Lib.hid (fun w' (h : Below w.heap.size w w') => (show StrsG w' G ps from hs.below h))
  have HX := Lib.hid (fun w' (h : Below (w.heap.size + 1) (w.alloc (.cells #[.int .i64 L, .slice G ps.length c] 27)) w') => box_below w L (.slice G ps.length c) 27 w' h)
  have HZ := Lib.hid hz
  clear hs hb hs1 hz
  go_enter Try.func53, Try.ntmps53
  go_wp2_with fail
  refine HI.out.mono ?_
  rintro e w1 ⟨rfl, hb1⟩
  rw [World.size_alloc] at hb1
  obtain ⟨x0, x1, hB1⟩ := HX.out w1 hb1
  have HB1 := Lib.hid hB1
  clear hb1 hB1
  cases hi : isShift L ps with
  | false =>
    have HR : Hid (emptyT L ps = false) := Lib.hid (by unfold emptyT; rw [hi]; rfl)
    clear hi
    go_wp2
    go_ret
    exact ⟨by rw [HR.out]; rfl, HB1.out⟩
  | true =>
    obtain ⟨l1, l3, _⟩ := isShift_letters hi
    have HR : Hid (emptyT L ps = ((((pairsW L.toNat ps).length : Nat) : Int) == 0)) := Lib.hid (by
      unfold emptyT; rw [hi, Bool.true_and, Bool.eq_iff_iff, decide_eq_true_eq, beq_iff_eq]; omega)
    have eL : ((L.toNat : Nat) : Int) = L := by omega
    have HP := Lib.hid (spec_pairs L.toNat G c ps (by omega) (by omega) hl HZ.out w1 (HST.out w1 HB1.out))
    rw [eL] at HP
    clear hi eL
    generalize pairsW L.toNat ps = M at *
    go_wp2_with fail
    refine HP.out.mono ?_
    intro e w2 hp
    obtain ⟨A, cap, rfl, hr, hb2⟩ := hp.rowAt
    have HB2 := Lib.hid (below_after HB1.out hb2)
    clear hp hr hb2
    go_wp2
    go_ret
    exact ⟨by rw [HR.out]; rfl, HB2.out⟩
theorem atCopies_isEmptyShift (W : World) (L : Int) (xs : List ByteArray) : AtCopies W 53 L xs (emptyS L xs) :=
  fun g c w' _ hl ht hst hg => by
    rw [← empty_same]
    exact spec_isEmptyShift L (some ⟨g, 0, none⟩) c xs hl (fun k hk => by have := size_le_total hk; omega) w' (.of hst hg)
end Go.Proofs.Ytalclebehbdliaa
namespace Go.Proofs.Ytalclebehbdliaa
open Go Go.RowKit

/-- Behind an append a row that lies elsewhere is owned as it was. -/
theorem appended3 {B gv gg len cv n : Nat} {wr w2 : World} {o : Obj} {v : Value} {xs ys : List Value} (hs : wr.ownsRow B 9 1 v n ys) (ho : wr.ownsRow B 9 1 (.slice (some ⟨gv, 0, none⟩) len cv) len xs) (hne : v.ownBlock ≠ some gv)
    (hg : (wr.alloc o).grownBy w2 (Value.slice (some ⟨gv, 0, none⟩) len cv).ownBlock) (hat : (Value.slice (some ⟨gv, 0, none⟩) len cv).ownBlock = some gg ∨ gg = wr.heap.size + 1) :
    w2.ownsRow B 9 1 v n ys ∧ v.ownBlock ≠ some gg := by
  have hgB := (ho.lt gv rfl)
  have e : (Value.slice (some ⟨gv, 0, none⟩) len cv).ownBlock = some gv := rfl
  rw [e] at hg hat
  refine ⟨(hs.alloc o).kept hg (Or.inr hne), ?_⟩
  rcases hat with h | h
  · have := Option.some.inj h; subst this; exact hne
  · intro h2
    have := (hs.lt gg h2).2
    omega

set_option maxRecDepth 100000 in
set_option maxHeartbeats 6400000 in
theorem spec_languageOf (L n : Int) (G : Option Addr) (c : Nat) (ps : List ByteArray) (hl : ps.length ≤ 1048576) (hz : ∀ k, k < ps.length → (ps.getD k ByteArray.empty).size ≤ 2147483648) (w : World) (hs : StrsG w G ps) :
    Calls Try.prog 33 #[.agg #[.int .i64 L, .slice G ps.length c], .int .i64 n] w (ListPost (langOfS L ps n) w) := by
  obtain ⟨i0, hi, hz0, hz1, hz2⟩ := info_parts infoStr
  have HS := Lib.hid hs
  have HZ := Lib.hid hz
  have HN := Lib.hid (fun w' => spec_in n 0 6 w')
  clear hs hz
  go_enter Try.func33, Try.ntmps33
  go_wp2_with fail
  obtain ⟨Wb, hWb⟩ : ∃ Wb, w.alloc (.cells #[.int .i64 L, .slice G ps.length c] 27) = Wb := ⟨_, rfl⟩
  have sb : Wb.heap.size = w.heap.size + 1 := by rw [← hWb]; simp
  have xb : BoxAt Wb w.heap.size L (.slice G ps.length c) := by rw [← hWb]; exact boxAt_new w L _ 27
  have bb : Below w.heap.size w Wb := by rw [← hWb]; exact (Below.refl _ _).alloc (Nat.le_refl _) _
  rw [hWb]
  clear hWb
  have b0 := (Below.refl Wb.heap.size Wb).alloc (Nat.le_refl _) (.cells #[] 9)
  have O0 := Lib.hid (World.ownsRow_made (base := Wb.heap.size) (e := 9) (size := 1) Wb #[] 0 (Nat.le_refl _) (by decide) rfl)
  have XB := Lib.hid xb
  have BB := Lib.hid bb
  have B0 := Lib.hid b0
  have HST := Lib.hid (fun w' (h : Below Wb.heap.size Wb w') => (show StrsG w' G ps from (HS.out.below bb).below h))
  have HI := Lib.hid (fun w' (h : Below Wb.heap.size Wb w') => spec_isShift L G c ps hl (fun k hk => by have := HZ.out k hk; omega) w' (HST.out w' h))
  clear b0 xb bb
  refine (HI.out _ B0.out).mono ?_
  rintro e w1 ⟨rfl, hb1⟩
  have O1 := Lib.hid (owns_below O0.out hb1)
  have s1 : Wb.heap.size + 1 ≤ w1.heap.size := by have := hb1.size; rw [World.size_alloc] at this; exact this
  have B1 := Lib.hid (B0.out.trans (hb1.mono (by simp)))
  obtain ⟨x0, x1⟩ := XB.out.below B1.out (by omega)
  have OW : Hid (w1.ownsRow w.heap.size 9 1 (.slice (some ⟨w.heap.size + 1, 0, none⟩) 0 0) 0 []) := Lib.hid (by
    have h := World.ownsRow.mono O1.out (show w.heap.size ≤ Wb.heap.size by omega)
    rw [sb] at h
    exact h)
  clear hb1 B0 O0
  cases hsft : isShift L ps with
  | false =>
    have HR : Hid (langOfS L ps n = []) := Lib.hid (by unfold langOfS; rw [if_neg (by rw [hsft]; simp)])
    clear hsft
    go_wp2
    go_ret
    rw [HR.out]
    exact ⟨_, rfl, OW.out, BB.out.trans (B1.out.mono (by omega))⟩
  | true =>
    obtain ⟨l1, l3, _⟩ := isShift_letters hsft
    cases hnn : (decide (0 ≤ n) && decide (n ≤ 6)) with
    | false =>
      have HR : Hid (langOfS L ps n = []) := Lib.hid (by
        unfold langOfS
        rw [if_neg]
        rintro ⟨_, h1, h2⟩
        rw [decide_eq_true h1, decide_eq_true h2] at hnn; cases hnn)
      rw [hnn] at HN
      clear hsft hnn
      go_wp2_with fail
      refine (HN.out _).mono ?_
      rintro e w2 ⟨rfl, rfl⟩
      go_wp2
      go_ret
      rw [HR.out]
      exact ⟨_, rfl, OW.out, BB.out.trans (B1.out.mono (by omega))⟩
    | true =>
      have hn2 : 0 ≤ n ∧ n ≤ 6 := by simpa [Bool.and_eq_true, decide_eq_true_eq] using hnn
      have HR : Hid (langOfS L ps n = (allW L.toNat n.toNat).filter (inM ps (pairsW L.toNat ps))) := Lib.hid (by unfold langOfS; rw [if_pos ⟨hsft, hn2⟩])
      rw [hnn] at HN
      have eL : ((L.toNat : Nat) : Int) = L := by omega
      have en : ((n.toNat : Nat) : Int) = n := by omega
      have HP := Lib.hid (spec_pairs L.toNat G c ps (by omega) (by omega) hl HZ.out w1 (HST.out w1 B1.out))
      have HM2 := Lib.hid (pairsW_two (ps := ps) (k := L.toNat) (by omega))
      have hM9 := pairsW_length (ps := ps) (k := L.toNat) (by omega)
      have HA := Lib.hid (fun w' => spec_all L.toNat n.toNat (by omega) (by omega) (by omega) (pow_six (by omega) (by omega)) w')
      have hlen : (allW L.toNat n.toNat).length ≤ 729 := by rw [allW_length]; exact pow_six (k := L.toNat) (n := n.toNat) (by omega) (by omega) n.toNat (Nat.le_refl _)
      have hpos : 0 < (allW L.toNat n.toNat).length := by rw [allW_length]; exact Nat.pow_pos (by omega)
      have HY := Lib.hid (fun y (hy : y ∈ allW L.toNat n.toNat) => (show y.size ≤ 16 from by rw [allW_size L.toNat n.toNat y hy]; omega))
      rw [eL, en] at HA
      rw [eL] at HP
      clear hsft hnn hn2 eL en
      generalize pairsW L.toNat ps = M at *
      generalize allW L.toNat n.toNat = ws at *
      go_wp2_with fail
      refine (HN.out _).mono ?_
      rintro e w2 ⟨rfl, rfl⟩
      go_wp2_with fail
      refine HP.out.mono ?_
      rintro e w3 ⟨vM, rfl, oM, b3⟩
      obtain ⟨A, cM, rfl⟩ : ∃ A c, vM = .slice A M.length c := by
        rcases oM.2 with ⟨rfl, h0⟩ | ⟨b, cc, cur, rfl, _⟩
        · exact ⟨none, 0, by rw [h0]⟩
        · exact ⟨_, cc, rfl⟩
      have B3 := Lib.hid (B1.out.trans (b3.mono (Nat.le_of_succ_le s1)))
      have O3 := Lib.hid (owns_below O1.out b3)
      have OM3 := Lib.hid (World.ownsRow.mono oM (show Wb.heap.size ≤ _ by omega))
      have NE3 : Hid ((Value.slice A M.length cM).ownBlock ≠ some Wb.heap.size) := Lib.hid (fun h => by
        have := (oM.lt _ h).1
        omega)
      have s3 := b3.size
      obtain ⟨u0, u1⟩ := XB.out.below B3.out (by omega)
      clear oM b3 x0 x1 O1
      go_wp2_with fail
      refine (HA.out _).mono fun e w4 h4 => ?_
      obtain ⟨gw, cw, rfl, ow, b4⟩ := h4.full hpos
      have hgw := ow.lt gw rfl
      have SW := Lib.hid (StrsAt.of_owns ow rfl)
      have B4 := Lib.hid (B3.out.trans (b4.mono (by omega)))
      have O4 := Lib.hid (owns_below O3.out b4)
      have OM4 := Lib.hid (owns_below OM3.out b4)
      clear h4 ow b4 u0 u1 O3 OM3 B3 B1
      go_wp2
      go_loopw [5, 8] (fun v i wr => ∃ k gv cv : Nat, k ≤ ws.length ∧ i = .int .i64 k ∧ v = .slice (some ⟨gv, 0, none⟩) ((ws.take k).filter (inM ps M)).length cv ∧ gv ≠ gw ∧ gw < wr.heap.size ∧ Hid ((Value.slice A M.length cM).ownBlock ≠ some gv) ∧ Hid (wr.ownsRow Wb.heap.size 9 1 (.slice (some ⟨gv, 0, none⟩) ((ws.take k).filter (inM ps M)).length cv) ((ws.take k).filter (inM ps M)).length (((ws.take k).filter (inM ps M)).map Value.string)) ∧ Hid (wr.ownsRow Wb.heap.size 9 1 (.slice A M.length cM) M.length (M.map Value.string)) ∧ Hid (Below Wb.heap.size Wb wr) ∧ Hid (StrsAt wr gw 0 ws)) (fun _ i _ => ws.length - (intOf i).toNat)
      case atStart => exact ⟨0, Wb.heap.size, 0, Nat.zero_le _, rfl, by simp [sb], by omega, hgw.2, NE3, O4, OM4, B4, SW⟩
      case round =>
        obtain ⟨k, gv, cv, hk, rfl, rfl, hne, hgl, HNE, HO, HOM, HB, HSW⟩ := hrel
        by_cases hlt : k < ws.length
        · have hc := HSW.out k hlt
          rw [Nat.zero_add] at hc
          obtain ⟨y0, y1⟩ := XB.out.below HB.out (by omega)
          have hsz := HY.out _ (getD_mem hlt)
          have hbl := HB.out.size
          have HRM : Hid (RowAt wr A M) := Lib.hid (fun hp => by
            obtain ⟨b, cc, hf, _, hbs⟩ := HOM.out.form hp
            simp only [Value.slice.injEq, true_and] at hf
            obtain ⟨rfl, rfl⟩ := hf
            exact ⟨b, rfl, StrsAt.of_owns HOM.out rfl, hbs⟩)
          have HIN := Lib.hid (fun w' (h : Below wr.heap.size wr w') => spec_l3In L G c ps hl HZ.out A cM M (by omega) HM2.out (ws.getD k ByteArray.empty) (by omega) w' (HST.out w' (HB.out.trans (h.mono hbl))) (HRM.out.below h))
          have k0 : (0 : Int) ≤ (k : Int) := by omega
          have k1' : (k : Int) < (ws.length : Int) := by omega
          have HYes := Lib.hid (step_yes (f := inM ps M) hlt)
          have HNo := Lib.hid (step_no (f := inM ps M) hlt)
          have hq : ((ws.take k).filter (inM ps M)).length ≤ 729 := by
            have h1 := List.length_filter_le (inM ps M) (ws.take k)
            rw [List.length_take] at h1
            omega
          generalize ws.getD k ByteArray.empty = y at *
          cases him : inM ps M y with
          | false =>
            rw [him] at HIN
            have HN2 := Lib.hid (HNo.out him)
            clear him
            generalize (ws.take k).filter (inM ps M) = qs at *
            go_wp2
            go_region_held3 (fun w' => w'.cell? ⟨w.heap.size, 0, none⟩ = some (.int .i64 L) ∧ w'.cell? ⟨w.heap.size, 1, none⟩ = some (.slice G ps.length c) ∧ w'.cell? ⟨gw, k, none⟩ = some (.string y)) (first | exact ⟨y0, y1, hc⟩ | exact ⟨z0, z1, z2⟩ | go_keep) (first | (go_at_call 56; refine (HIN.out _ (by first | exact Below.refl _ _ | exact (Below.refl _ _).drew)).mono ?_; rintro e w6 ⟨rfl, hb6⟩; have hq6 : Below wr.heap.size wr w6 := (Below.refl wr.heap.size wr).drew.trans hb6; have z0 := (hb6.cell (p := ⟨w.heap.size, 0, none⟩) (by show w.heap.size < wr.heap.size; omega)).trans y0; have z1 := (hb6.cell (p := ⟨w.heap.size, 1, none⟩) (by show w.heap.size < wr.heap.size; omega)).trans y1; have z2 := (hb6.cell (p := ⟨gw, k, none⟩) (by show gw < wr.heap.size; omega)).trans hc))
            go_wp2
            go_roundw
            case rel => exact ⟨k + 1, gv, cv, by omega, by go_num, by rw [HN2.out], hne, by have := hq6.size; omega, HNE, Lib.hid (by rw [HN2.out]; exact owns_below HO.out hq6), Lib.hid (owns_below HOM.out hq6), Lib.hid (HB.out.trans (hq6.mono hbl)), Lib.hid (HSW.out.below hq6 hgl)⟩
            case measure => simp [intOf]; omega
          | true =>
            rw [him] at HIN
            have HN2 := Lib.hid (HYes.out him)
            clear him
            generalize (ws.take k).filter (inM ps M) = qs at *
            go_wp2
            go_region_held3 (fun w' => w'.cell? ⟨w.heap.size, 0, none⟩ = some (.int .i64 L) ∧ w'.cell? ⟨w.heap.size, 1, none⟩ = some (.slice G ps.length c) ∧ w'.cell? ⟨gw, k, none⟩ = some (.string y)) (first | exact ⟨y0, y1, hc⟩ | exact ⟨z0, z1, z2⟩ | go_keep) (first | (go_at_call 56; refine (HIN.out _ (by first | exact Below.refl _ _ | exact (Below.refl _ _).drew)).mono ?_; rintro e w6 ⟨rfl, hb6⟩; have hq6 : Below wr.heap.size wr w6 := (Below.refl wr.heap.size wr).drew.trans hb6; have z0 := (hb6.cell (p := ⟨w.heap.size, 0, none⟩) (by show w.heap.size < wr.heap.size; omega)).trans y0; have z1 := (hb6.cell (p := ⟨w.heap.size, 1, none⟩) (by show w.heap.size < wr.heap.size; omega)).trans y1; have z2 := (hb6.cell (p := ⟨gw, k, none⟩) (by show gw < wr.heap.size; omega)).trans hc))
            have OQ := Lib.hid (owns_below HO.out hq6)
            have OM6 := Lib.hid (owns_below HOM.out hq6)
            have B6 := Lib.hid (HB.out.trans (hq6.mono hbl))
            have ST6 := Lib.hid (HSW.out.below hq6 hgl)
            have s6 : wr.heap.size ≤ w6.heap.size := hq6.size
            go_wp2_with (at_builtin; refine wpList_append_lies _ rfl (.tmp 38) (.tmp 43) 22 rfl Wb.heap.size 9 i0 (.string ByteArray.empty) 1 16 Try.underlying22 hi hz0 hz1 hz2 rfl (by decide) _ _ _ rfl (OQ.out.alloc _) ⟨w6.heap.size, 0, none⟩ 1 1 [.string y] rfl rfl (cell_one_new w6 _ _) (one_cell y) (by decide) (by unfold maxLen; omega) (by omega) (by simp; omega) (w6.heap.size + 1) (by simp) ?_; intro gg cap2 w2 ho2 hg2 hat2 hlt2; have HAP := Lib.hid (appended (nq := 0) B6.out ST6.out OQ.out (by omega) hne hg2 hat2); have HAM := Lib.hid (appended3 OM6.out OQ.out HNE.out hg2 hat2); have HO2 := Lib.hid ho2; clear ho2 hg2 hat2)
            obtain ⟨p1, p2, p3, p4⟩ := HAP.out
            go_roundw
            case rel => exact ⟨k + 1, gg, cap2, by omega, by go_num, by rw [HN2.out]; simp, p3, p4, Lib.hid HAM.out.2, Lib.hid (by rw [HN2.out, List.length_append, List.map_append]; exact HO2.out), Lib.hid HAM.out.1, Lib.hid p1, Lib.hid p2⟩
            case measure => simp [intOf]; omega
        · obtain rfl : k = ws.length := by omega
          have h := HO.out
          rw [List.take_length] at h
          rw [List.take_length]
          have HF := Lib.hid h
          clear h
          generalize ws.filter (inM ps M) = qs at *
          go_wp2
          go_ret
          rw [HR.out]
          exact ⟨_, rfl, World.ownsRow.mono HF.out (by omega), BB.out.trans (HB.out.mono (by omega))⟩
theorem atCopies_languageOf (W : World) (L : Int) (xs : List ByteArray) (n : Int) : AtCopiesL W 33 L xs n (langOf L xs n) :=
  fun g c w' _ hl ht hst hg => by
    rw [← langOf_same]
    exact spec_languageOf L n (some ⟨g, 0, none⟩) c xs hl (fun k hk => by have := size_le_total hk; omega) w' (.of hst hg)
end Go.Proofs.Ytalclebehbdliaa
namespace Go.Proofs.Ytalclebehbdliaa

/-- A walk of n steps from i to j. -/
def Wk (E : Nat → Nat → Prop) : Nat → Nat → Nat → Prop
  | 0, i, j => i = j
  | n + 1, i, j => ∃ k, Wk E n i k ∧ E k j
/-- A relation on the numbers below N. -/
def OnN (N : Nat) (E : Nat → Nat → Prop) : Prop := ∀ i j, E i j → i < N ∧ j < N
variable {N : Nat} {E : Nat → Nat → Prop}
theorem Wk.add {a i k : Nat} (h : Wk E a i k) : ∀ {b j : Nat}, Wk E b k j → Wk E (a + b) i j
  | 0, j, h2 => by obtain rfl : k = j := h2; exact h
  | b + 1, j, ⟨x, h2, h3⟩ => ⟨x, h.add h2, h3⟩
theorem Wk.one {i j : Nat} (h : E i j) : Wk E 1 i j := ⟨i, rfl, h⟩
theorem Wk.split {a i : Nat} : ∀ {b j : Nat}, Wk E (a + b) i j → ∃ k, Wk E a i k ∧ Wk E b k j
  | 0, j, h => ⟨j, h, rfl⟩
  | b + 1, j, ⟨x, h2, h3⟩ => by
    obtain ⟨k, h4, h5⟩ := Wk.split h2
    exact ⟨k, h4, x, h5, h3⟩
theorem Wk.ends (hE : OnN N E) {n i j : Nat} (h : Wk E (n + 1) i j) : i < N ∧ j < N := by
  obtain ⟨k, h1, h2⟩ := h
  refine ⟨?_, (hE k j h2).2⟩
  have h3 := (Wk.split (a := 1) (b := n) (i := i) (j := j) (by rw [Nat.add_comm]; exact ⟨k, h1, h2⟩))
  obtain ⟨x, ⟨y, hy, hx⟩, _⟩ := h3
  obtain rfl : i = y := hy
  exact (hE _ _ hx).1
/-- The places of a walk. -/
theorem Wk.path {i : Nat} : ∀ {n j : Nat}, Wk E n i j → ∃ p : Nat → Nat, p 0 = i ∧ p n = j ∧ ∀ a b, a ≤ b → b ≤ n → Wk E (b - a) (p a) (p b)
  | 0, j, h => ⟨fun _ => i, rfl, h, fun a b h1 h2 => by obtain rfl : a = b := by omega
                                                        rw [Nat.sub_self]; rfl⟩
  | n + 1, j, ⟨k, h1, h2⟩ => by
    obtain ⟨p, p0, pn, hp⟩ := Wk.path h1
    refine ⟨fun t => if t ≤ n then p t else j, by simp [p0], (by show (if n + 1 ≤ n then p (n + 1) else j) = j; rw [if_neg (by omega)]), fun a b hab hb => ?_⟩
    by_cases hbn : b ≤ n
    · simp only [hbn, if_true, show a ≤ n by omega]
      exact hp a b hab hbn
    · obtain rfl : b = n + 1 := by omega
      by_cases han : a ≤ n
      · simp only [han, if_true, hbn, if_false]
        rw [show n + 1 - a = (n - a) + 1 by omega]
        refine ⟨k, ?_, h2⟩
        have := hp a n han (Nat.le_refl _)
        rw [pn] at this
        exact this
      · obtain rfl : a = n + 1 := by omega
        rw [Nat.sub_self]; rfl
/-- More places than numbers. -/
theorem pigeon : ∀ (N : Nat) (p : Nat → Nat), (∀ t, t ≤ N → p t < N) → ∃ a b, a < b ∧ b ≤ N ∧ p a = p b
  | 0, p, h => absurd (h 0 (Nat.le_refl _)) (Nat.not_lt_zero _)
  | N + 1, p, h => by
    by_cases hx : ∃ t, t ≤ N ∧ p t = p (N + 1)
    · obtain ⟨t, ht, e⟩ := hx
      exact ⟨t, N + 1, by omega, Nat.le_refl _, e⟩
    · have hne : ∀ t, t ≤ N → p t ≠ p (N + 1) := fun t ht e => hx ⟨t, ht, e⟩
      have hl := h (N + 1) (Nat.le_refl _)
      obtain ⟨a, b, hab, hb, e⟩ := pigeon N (fun t => if p t = N then p (N + 1) else p t) (fun t ht => by
        have := h t (by omega)
        have := hne t ht
        show (if p t = N then p (N + 1) else p t) < N
        split <;> omega)
      refine ⟨a, b, hab, by omega, ?_⟩
      have ha := hne a (by omega)
      have hb' := hne b hb
      have e2 : (if p a = N then p (N + 1) else p a) = (if p b = N then p (N + 1) else p b) := e
      split at e2 <;> split at e2 <;> omega
/-- A walk with as many steps as there are numbers meets a place twice. -/
theorem Wk.twice (hE : OnN N E) {n i j : Nat} (h : Wk E n i j) (hn : N ≤ n) (h0 : 0 < n) : ∃ a b x, a < b ∧ b ≤ N ∧ Wk E a i x ∧ Wk E (b - a) x x ∧ Wk E (n - b) x j := by
  obtain ⟨p, p0, pn, hp⟩ := h.path
  have hlt : ∀ t, t ≤ N → p t < N := fun t ht => by
    by_cases h1 : t < n
    · have h2 := hp t n (by omega) (Nat.le_refl _)
      rw [show n - t = (n - t - 1) + 1 by omega] at h2
      exact (Wk.ends hE h2).1
    · obtain rfl : t = n := by omega
      have h2 := hp 0 t (Nat.zero_le _) (Nat.le_refl _)
      rw [show t - 0 = (t - 1) + 1 by omega] at h2
      exact (Wk.ends hE h2).2
  obtain ⟨a, b, hab, hb, e⟩ := pigeon N p hlt
  refine ⟨a, b, p a, hab, hb, ?_, ?_, ?_⟩
  · have := hp 0 a (Nat.zero_le _) (by omega)
    rw [p0] at this; exact this
  · have := hp a b (by omega) (by omega)
    rw [← e] at this; exact this
  · have := hp b n (by omega) (Nat.le_refl _)
    rw [pn, ← e] at this; exact this
/-- A walk can be made with fewer steps than there are numbers; with one at least, with as many at most. -/
theorem Wk.short (hE : OnN N E) (h0 : 0 < N) : ∀ {n i j : Nat}, Wk E n i j → ∃ k, k < N ∧ k ≤ n ∧ Wk E k i j := by
  intro n
  induction n using Nat.strongRecOn with
  | _ n ih =>
    intro i j h
    by_cases hn : n < N
    · exact ⟨n, hn, Nat.le_refl _, h⟩
    · obtain ⟨a, b, x, hab, hb, h1, _, h3⟩ := h.twice hE (by omega) (by omega)
      obtain ⟨k, hk, hk2, hw⟩ := ih (a + (n - b)) (by omega) (h1.add h3)
      exact ⟨k, hk, by omega, hw⟩
theorem Wk.short1 (hE : OnN N E) : ∀ {n i j : Nat}, Wk E n i j → 0 < n → ∃ k, 0 < k ∧ k ≤ N ∧ k ≤ n ∧ Wk E k i j := by
  intro n
  induction n using Nat.strongRecOn with
  | _ n ih =>
    intro i j h hn0
    by_cases hn : n ≤ N
    · exact ⟨n, hn0, hn, Nat.le_refl _, h⟩
    · obtain ⟨a, b, x, hab, hb, h1, _, h3⟩ := h.twice hE (by omega) (by omega)
      obtain ⟨k, hk0, hk, hk2, hw⟩ := ih (a + (n - b)) (by omega) (h1.add h3) (by omega)
      exact ⟨k, hk0, hk, by omega, hw⟩
/-- What divides the lengths of all short closed walks divides those of all. -/
theorem closed_dvd (hE : OnN N E) {g : Nat} (hg : ∀ n i, 0 < n → n ≤ N → Wk E n i i → g ∣ n) : ∀ {n i : Nat}, Wk E n i i → g ∣ n := by
  intro n
  induction n using Nat.strongRecOn with
  | _ n ih =>
    intro i h
    by_cases h0 : n = 0
    · subst h0; exact Nat.dvd_zero _
    by_cases hn : n ≤ N
    · exact hg n i (by omega) hn h
    · obtain ⟨a, b, x, hab, hb, h1, h2, h3⟩ := h.twice hE (by omega) (by omega)
      have e1 := ih (a + (n - b)) (by omega) (h1.add h3)
      have e2 := hg (b - a) x (by omega) (by omega) h2
      have e3 : n = (a + (n - b)) + (b - a) := by omega
      rw [e3]
      exact Nat.dvd_add e1 e2
theorem least_nat {P : Nat → Prop} (h : ∃ n, P n) : ∃ n, P n ∧ ∀ k, k < n → ¬ P k := by
  obtain ⟨n, hn⟩ := h
  induction n using Nat.strongRecOn with
  | _ n ih =>
    by_cases h : ∃ k, k < n ∧ P k
    · obtain ⟨k, hk, hp⟩ := h
      exact ih k hk hp
    · exact ⟨n, hn, fun k hk hp => h ⟨k, hk, hp⟩⟩
/-- All pairs are joined. -/
def Joined (N : Nat) (E : Nat → Nat → Prop) : Prop := ∀ i j, i < N → j < N → ∃ n, 0 < n ∧ Wk E n i j
theorem Joined.walk (hJ : Joined N E) {i j : Nat} (hi : i < N) (hj : j < N) : ∃ n, Wk E n i j := by
  obtain ⟨n, _, h⟩ := hJ i j hi hj
  exact ⟨n, h⟩
/-- In a joined relation what divides the closed walks at one place divides all. -/
theorem closed_at (hE : OnN N E) (hJ : Joined N E) {g c : Nat} (hc : c < N) (hg : ∀ n, Wk E n c c → g ∣ n) {n i : Nat} (h : Wk E n i i) : g ∣ n := by
  by_cases h0 : n = 0
  · subst h0; exact Nat.dvd_zero _
  have hi : i < N := by
    rw [show n = (n - 1) + 1 by omega] at h
    exact (Wk.ends hE h).1
  obtain ⟨a, ha⟩ := hJ.walk hc hi
  obtain ⟨b, hb⟩ := hJ.walk hi hc
  have h1 := hg _ (ha.add hb)
  have h2 := hg _ ((ha.add h).add hb)
  have e : (a + n + b) = n + (a + b) := by omega
  rw [e] at h2
  exact (Nat.dvd_add_iff_left h1).2 h2
theorem Wk.times {n i : Nat} (h : Wk E n i i) : ∀ k, Wk E (k * n) i i
  | 0 => by rw [Nat.zero_mul]; rfl
  | k + 1 => by
    rw [Nat.add_mul, Nat.one_mul]
    exact (h.times k).add h
/-- Closed walks at c of length s, and no common divisor but 1: one is as long as 1 more than a multiple of s. -/
theorem closed_unit (hE : OnN N E) (hJ : Joined N E) (h1 : ∀ g, (∀ n i, Wk E n i i → g ∣ n) → g = 1) {c s : Nat} (hc : c < N) (hs : 0 < s) (hw : Wk E s c c) : ∃ y, Wk E y c c ∧ y % s = 1 % s := by
  obtain ⟨d, ⟨hd0, y, hy, hyd⟩, hmin⟩ := least_nat (P := fun d => 0 < d ∧ ∃ y, Wk E y c c ∧ y % s = d % s) ⟨s, hs, s, hw, rfl⟩
  have hdiv : ∀ x, Wk E x c c → d ∣ x := fun x hx => by
    refine Nat.dvd_of_mod_eq_zero ?_
    by_cases hr : x % d = 0
    · exact hr
    · exfalso
      refine hmin (x % d) (Nat.mod_lt _ hd0) ⟨by omega, x + (x / d) * (s - 1) * y, hx.add (hy.times _), ?_⟩
      have e1 : x = d * (x / d) + x % d := (Nat.div_add_mod x d).symm
      have e2 : (x + (x / d) * (s - 1) * y) % s = (x + (x / d) * (s - 1) * d) % s := by
        rw [Nat.add_mod, Nat.mul_mod, hyd, ← Nat.mul_mod, ← Nat.add_mod]
      rw [e2]
      have e3 : x + (x / d) * (s - 1) * d = x % d + (x / d * d) * s := by
        obtain ⟨t, rfl⟩ : ∃ t, s = t + 1 := ⟨s - 1, by omega⟩
        rw [Nat.add_sub_cancel, Nat.mul_add, Nat.mul_one]
        have e4 : x / d * t * d = x / d * d * t := by rw [Nat.mul_assoc, Nat.mul_comm t d, ← Nat.mul_assoc]
        have e5 : d * (x / d) = x / d * d := Nat.mul_comm _ _
        omega
      rw [e3, Nat.add_mul_mod_self_right]
  have hd1 : d = 1 := h1 d fun n i h => closed_at hE hJ hc hdiv h
  subst hd1
  exact ⟨y, hy, hyd⟩
end Go.Proofs.Ytalclebehbdliaa
namespace Go.Proofs.Ytalclebehbdliaa
variable {N : Nat} {E : Nat → Nat → Prop}

/-- Steps of s steps. -/
def Jump (E : Nat → Nat → Prop) (s : Nat) : Nat → Nat → Prop := fun i j => Wk E s i j
theorem Wk.jumps {s i : Nat} : ∀ {t j : Nat}, Wk E (t * s) i j → Wk (Jump E s) t i j
  | 0, j, h => by rw [Nat.zero_mul] at h; exact h
  | t + 1, j, h => by
    rw [Nat.add_mul, Nat.one_mul] at h
    obtain ⟨k, h1, h2⟩ := Wk.split h
    exact ⟨k, h1.jumps, h2⟩
theorem Wk.unjump {s i : Nat} : ∀ {t j : Nat}, Wk (Jump E s) t i j → Wk E (t * s) i j
  | 0, j, h => by rw [Nat.zero_mul]; exact h
  | t + 1, j, ⟨k, h1, h2⟩ => by
    rw [Nat.add_mul, Nat.one_mul]
    exact h1.unjump.add h2
theorem Jump.onN (hE : OnN N E) {s : Nat} (hs : 0 < s) : OnN N (Jump E s) := fun i j h => by
  unfold Jump at h
  rw [show s = (s - 1) + 1 by omega] at h
  exact Wk.ends hE h
/-- The least length of a closed walk. -/
structure Girth (E : Nat → Nat → Prop) (s c : Nat) : Prop where
  pos : 0 < s
  walk : Wk E s c c
  least : ∀ n i, 0 < n → Wk E n i i → s ≤ n
theorem girth_of (h : ∃ n i, 0 < n ∧ Wk E n i i) : ∃ s c, Girth E s c := by
  obtain ⟨s, ⟨i, hs, hw⟩, hmin⟩ := least_nat (P := fun n => ∃ i, 0 < n ∧ Wk E n i i) h
  exact ⟨s, i, hs, hw, fun n j hn hj => by
    by_cases h : n < s
    · exact absurd ⟨j, hn, hj⟩ (hmin n h)
    · omega⟩
/-- A place on a shortest closed walk leads to another such. -/
theorem on_next {s c : Nat} (hs : 0 < s) (h : Wk E s c c) : ∃ d, Wk E 1 c d ∧ Wk E s d d := by
  have h1 := h
  rw [show s = 1 + (s - 1) by omega] at h1
  obtain ⟨d, h2, h3⟩ := Wk.split h1
  refine ⟨d, h2, ?_⟩
  have := h3.add h2
  rw [show s - 1 + 1 = s by omega] at this
  exact this
theorem on_steps {s : Nat} (hs : 0 < s) : ∀ (n : Nat) {c : Nat}, Wk E s c c → ∃ d, Wk E n c d ∧ Wk E s d d
  | 0, c, h => ⟨c, rfl, h⟩
  | n + 1, c, h => by
    obtain ⟨d, h1, h2⟩ := on_steps hs n h
    obtain ⟨x, h3, h4⟩ := on_next hs h2
    exact ⟨x, h1.add h3, h4⟩
/-- A shortest closed walk is met soon. -/
theorem Girth.near (hE : OnN N E) (hJ : Joined N E) {s c : Nat} (hG : Girth E s c) {i : Nat} (hi : i < N) : s ≤ N ∧ ∃ d, Wk E (N - s) i d ∧ Wk E s d d := by
  have hs := hG.pos
  have hc : c < N := by
    have h := hG.walk
    rw [show s = (s - 1) + 1 by omega] at h
    exact (Wk.ends hE h).1
  obtain ⟨d, ⟨x, hx, hxs⟩, hmin⟩ := least_nat (P := fun d => ∃ x, Wk E d i x ∧ Wk E s x x) (by
    obtain ⟨n, hn⟩ := hJ.walk hi hc
    exact ⟨n, c, hn, hG.walk⟩)
  obtain ⟨p, p0, pn, hp⟩ := hx.path
  obtain ⟨q, q0, qn, hq⟩ := hG.walk.path
  have hqs : ∀ t, t < s → Wk E s (q t) (q t) := fun t ht => by
    have h1 := hq 0 t (Nat.zero_le _) (by omega)
    have h2 := hq t s (by omega) (Nat.le_refl _)
    rw [q0] at h1
    rw [qn] at h2
    have := h2.add h1
    rw [show s - t + (t - 0) = s by omega] at this
    exact this
  have hle : d + s ≤ N := by
    by_cases h : d + s ≤ N
    · exact h
    · exfalso
      obtain ⟨a, b, hab, hb, e⟩ := pigeon N (fun t => if t < d then p t else q (t - d)) (fun t ht => by
        show (if t < d then p t else q (t - d)) < N
        split
        · next h1 =>
          have h2 := hp t d (by omega) (Nat.le_refl _)
          rw [show d - t = (d - t - 1) + 1 by omega] at h2
          exact (Wk.ends hE h2).1
        · next h1 =>
          have h2 := hqs (t - d) (by omega)
          rw [show s = (s - 1) + 1 by omega] at h2
          exact (Wk.ends hE h2).1)
      have e2 : (if a < d then p a else q (a - d)) = (if b < d then p b else q (b - d)) := e
      have h0a : ∀ t, t ≤ d → Wk E t i (p t) := fun t ht => by
        have := hp 0 t (Nat.zero_le _) ht
        rw [p0] at this; exact this
      split at e2 <;> split at e2
      · next h1 h2 =>
        have h3 := h0a a (by omega)
        have h4 := hp b d (by omega) (Nat.le_refl _)
        rw [← e2, pn] at h4
        exact hmin (a + (d - b)) (by omega) ⟨x, h3.add h4, hxs⟩
      · next h1 h2 =>
        have h3 := h0a a (by omega)
        have h4 := hqs (b - d) (by omega)
        rw [← e2] at h4
        exact hmin a h1 ⟨_, h3, h4⟩
      · next h1 h2 => omega
      · next h1 h2 =>
        have h3 := hq (a - d) (b - d) (by omega) (by omega)
        rw [← e2] at h3
        have := hG.least _ _ (by omega) h3
        omega
  refine ⟨by omega, ?_⟩
  obtain ⟨y, h1, h2⟩ := on_steps hs (N - s - d) hxs
  refine ⟨y, ?_, h2⟩
  have := hx.add h1
  rw [show d + (N - s - d) = N - s by omega] at this
  exact this
/-- No common divisor of all closed walks but 1. -/
def Coprime (E : Nat → Nat → Prop) : Prop := ∀ g, (∀ n i, Wk E n i i → g ∣ n) → g = 1
theorem jump_all (hE : OnN N E) (hJ : Joined N E) (h1 : Coprime E) {s c j : Nat} (hs : 0 < s) (hw : Wk E s c c) (hc : c < N) (hj : j < N) : Wk E ((N - 1) * s) c j := by
  obtain ⟨y, hy, hys⟩ := closed_unit hE hJ h1 hc hs hw
  obtain ⟨l, hl⟩ := hJ.walk hc hj
  have hml : l % s < s := Nat.mod_lt _ hs
  have hz : (l + (s - l % s) * y) % s = 0 := by
    rw [Nat.add_mod, Nat.mul_mod, hys, ← Nat.mul_mod, Nat.mul_one, ← Nat.add_mod]
    have e := Nat.div_add_mod l s
    have e2 : l + (s - l % s) = s * (l / s + 1) := by rw [Nat.mul_add, Nat.mul_one]; omega
    rw [e2, Nat.mul_mod_right]
  obtain ⟨t, ht⟩ := Nat.dvd_of_mod_eq_zero hz
  have hall := (hy.times (s - l % s)).add hl
  rw [Nat.add_comm, ht, Nat.mul_comm] at hall
  obtain ⟨k, hk, _, hk2⟩ := Wk.short (Jump.onN hE hs) (by omega) hall.jumps
  have hpad : Wk (Jump E s) ((N - 1 - k) * 1) c c := Wk.times (n := 1) (Wk.one hw) (N - 1 - k)
  rw [Nat.mul_one] at hpad
  have h3 := (hpad.add hk2).unjump
  rw [show N - 1 - k + k = N - 1 by omega] at h3
  exact h3
/-- All pairs are joined by walks of n steps. -/
def FullAt (N : Nat) (E : Nat → Nat → Prop) (n : Nat) : Prop := ∀ i j, i < N → j < N → Wk E n i j
theorem full_bound (hE : OnN N E) (h0 : 0 < N) (hJ : Joined N E) (h1 : Coprime E) : ∃ n, 0 < n ∧ n + 2 * N ≤ N * N + 2 ∧ FullAt N E n := by
  by_cases hN : N = 1
  · subst hN
    obtain ⟨n, hn, hw⟩ := hJ 0 0 (by omega) (by omega)
    obtain ⟨k, hk0, hk, _, hw2⟩ := hw.short1 hE hn
    obtain rfl : k = 1 := by omega
    refine ⟨1, by omega, by omega, fun i j hi hj => ?_⟩
    obtain rfl : i = 0 := by omega
    obtain rfl : j = 0 := by omega
    exact hw2
  obtain ⟨s, c, hG⟩ := girth_of (E := E) (by
    obtain ⟨n, hn, hw⟩ := hJ 0 0 h0 h0
    exact ⟨n, 0, hn, hw⟩)
  have hs := hG.pos
  have hsN : s ≤ N := (hG.near hE hJ h0).1
  have hlt : s < N := by
    by_cases h : s < N
    · exact h
    · exfalso
      obtain rfl : s = N := by omega
      refine hN (h1 s fun n i hw => ?_)
      exact closed_dvd hE (fun n i hn hle hw => by
        have := hG.least n i hn hw
        obtain rfl : n = s := by omega
        exact Nat.dvd_refl _) hw
  refine ⟨N - s + (N - 1) * s, by omega, ?_, fun i j hi hj => ?_⟩
  · obtain ⟨M, rfl⟩ : ∃ M, N = M + 1 := ⟨N - 1, by omega⟩
    obtain ⟨d, rfl⟩ : ∃ d, M = s + d := ⟨M - s, by omega⟩
    have e : (s + d + 1) * (s + d + 1) = (s + d) * s + (s + d) * d + 2 * (s + d) + 1 := by
      rw [Nat.mul_add, Nat.add_mul, Nat.mul_add (s + d) s d]; omega
    have e2 : d ≤ (s + d) * d := by
      calc d = 1 * d := (Nat.one_mul d).symm
        _ ≤ (s + d) * d := Nat.mul_le_mul_right d (by omega)
    rw [Nat.add_sub_cancel, e]
    omega
  · obtain ⟨_, d, hd, hds⟩ := hG.near hE hJ hi
    have hdN : d < N := by
      rw [show s = (s - 1) + 1 by omega] at hds
      exact (Wk.ends hE hds).1
    exact hd.add (jump_all hE hJ h1 hs hds hdN hj)
end Go.Proofs.Ytalclebehbdliaa
namespace Go.Proofs.Ytalclebehbdliaa
open Go Go.RowKit

def bI (b : Bool) : Int := if b then 1 else 0
theorem bI_and (b c : Bool) : bits .and .i64 (bI b) (bI c) = bI (b && c) := by cases b <;> cases c <;> rfl
theorem bI_or (b c : Bool) : bits .or .i64 (bI b) (bI c) = bI (b || c) := by cases b <;> cases c <;> rfl
theorem bI_one (b : Bool) : (bI b == 1) = b := by cases b <;> rfl
theorem bI_zero (b : Bool) : (bI b == 0) = !b := by cases b <;> rfl
theorem bI_range (b : Bool) : 0 ≤ bI b ∧ bI b ≤ 1 := by cases b <;> decide
theorem bI_eq_one {b : Bool} : bI b = 1 ↔ b = true := by cases b <;> simp [bI]
theorem bI_ne_zero {b : Bool} : bI b = 0 ↔ b = false := by cases b <;> simp [bI]

/-- There is an arc. -/
def arcB (m : List (List Int)) (i j : Nat) : Bool := decide (0 < cellOf m i j)
def arcP (m : List (List Int)) (i j : Nat) : Prop := i < m.length ∧ j < m.length ∧ arcB m i j = true
theorem arcP_on (m : List (List Int)) : OnN m.length (arcP m) := fun _ _ h => ⟨h.1, h.2.1⟩
/-- A path that passes vertices below k only. -/
def viaB (m : List (List Int)) : Nat → Nat → Nat → Bool
  | 0, i, j => arcB m i j
  | k + 1, i, j => viaB m k i j || (viaB m k i k && viaB m k k j)
theorem viaB_col (m : List (List Int)) (k i : Nat) : viaB m (k + 1) i k = viaB m k i k := by
  rw [viaB]
  cases viaB m k i k <;> simp
theorem viaB_row (m : List (List Int)) (k j : Nat) : viaB m (k + 1) k j = viaB m k k j := by
  rw [viaB]
  cases viaB m k k j <;> simp
def reachB (m : List (List Int)) (i j : Nat) : Bool := viaB m m.length i j
theorem viaB_walk {m : List (List Int)} : ∀ {k i j : Nat}, k ≤ m.length → i < m.length → j < m.length → viaB m k i j = true → ∃ n, 0 < n ∧ Wk (arcP m) n i j
  | 0, i, j, _, hi, hj, h => ⟨1, by omega, Wk.one ⟨hi, hj, h⟩⟩
  | k + 1, i, j, hk, hi, hj, h => by
    rw [viaB, Bool.or_eq_true, Bool.and_eq_true] at h
    rcases h with h | ⟨h1, h2⟩
    · exact viaB_walk (by omega) hi hj h
    · obtain ⟨a, ha, wa⟩ := viaB_walk (by omega) hi (by omega) h1
      obtain ⟨b, hb, wb⟩ := viaB_walk (by omega) (by omega) hj h2
      exact ⟨a + b, by omega, wa.add wb⟩
theorem viaB_trans {m : List (List Int)} : ∀ {k x i j : Nat}, x < k → viaB m k i x = true → viaB m k x j = true → viaB m k i j = true
  | 0, x, _, _, h, _, _ => absurd h (Nat.not_lt_zero _)
  | k + 1, x, i, j, hx, h1, h2 => by
    by_cases e : x = k
    · subst e
      rw [viaB_col] at h1
      rw [viaB_row] at h2
      rw [viaB, h1, h2]; simp
    · have hx' : x < k := by omega
      rw [viaB, Bool.or_eq_true, Bool.and_eq_true] at h1 h2 ⊢
      rcases h1 with h1 | ⟨h1, h3⟩
      · rcases h2 with h2 | ⟨h2, h4⟩
        · exact Or.inl (viaB_trans hx' h1 h2)
        · exact Or.inr ⟨viaB_trans hx' h1 h2, h4⟩
      · rcases h2 with h2 | ⟨h2, h4⟩
        · exact Or.inr ⟨h1, viaB_trans hx' h3 h2⟩
        · exact Or.inr ⟨h1, h4⟩
theorem viaB_arc {m : List (List Int)} {i j : Nat} (h : arcB m i j = true) : ∀ k, viaB m k i j = true
  | 0 => h
  | k + 1 => by rw [viaB, viaB_arc h k]; rfl
theorem reachB_walk {m : List (List Int)} : ∀ {n i j : Nat}, Wk (arcP m) (n + 1) i j → reachB m i j = true
  | 0, i, j, ⟨k, h1, h2⟩ => by
    obtain rfl : i = k := h1
    exact viaB_arc h2.2.2 _
  | n + 1, i, j, ⟨k, h1, h2⟩ => viaB_trans h2.1 (reachB_walk h1) (viaB_arc h2.2.2 _)
theorem reachB_iff {m : List (List Int)} {i j : Nat} (hi : i < m.length) (hj : j < m.length) : reachB m i j = true ↔ ∃ n, 0 < n ∧ Wk (arcP m) n i j := by
  constructor
  · exact viaB_walk (Nat.le_refl _) hi hj
  · rintro ⟨n, hn, h⟩
    obtain ⟨t, rfl⟩ : ∃ t, n = t + 1 := ⟨n - 1, by omega⟩
    exact reachB_walk h
def reachM (m : List (List Int)) : List (List Int) := tabOf m.length m.length fun i j => bI (reachB m i j)
def reachS (m : List (List Int)) : List (List Int) := if isMat m = true then reachM m else []

/-! ### Walks of n arcs -/

/-- Of the vertices below t, one with a mark of i and an arc to j. -/
def stepK (A : Nat → Nat → Bool) (m : List (List Int)) (t i j : Nat) : Bool := (List.range t).any fun k => A i k && arcB m k j
theorem stepB_next (A : Nat → Nat → Bool) (m : List (List Int)) (t i j : Nat) : stepK A m (t + 1) i j = (stepK A m t i j || (A i t && arcB m t j)) := by
  unfold stepK
  rw [List.range_succ, List.any_append]
  simp
def wkB (m : List (List Int)) : Nat → Nat → Nat → Bool
  | 0, i, j => decide (i = j)
  | n + 1, i, j => stepK (wkB m n) m m.length i j
theorem wkB_iff {m : List (List Int)} : ∀ {n i j : Nat}, i < m.length → j < m.length → (wkB m n i j = true ↔ Wk (arcP m) n i j)
  | 0, i, j, _, _ => by rw [wkB, decide_eq_true_iff]; rfl
  | n + 1, i, j, hi, hj => by
    rw [wkB, stepK, List.any_eq_true]
    constructor
    · rintro ⟨k, hk, h⟩
      have hk' := List.mem_range.1 hk
      rw [Bool.and_eq_true] at h
      exact ⟨k, (wkB_iff hi hk').1 h.1, hk', hj, h.2⟩
    · rintro ⟨k, h1, h2⟩
      refine ⟨k, List.mem_range.2 h2.1, ?_⟩
      rw [Bool.and_eq_true]
      exact ⟨(wkB_iff hi h2.1).2 h1, h2.2.2⟩
def wkM (m : List (List Int)) (n : Nat) : List (List Int) := tabOf m.length m.length fun i j => bI (wkB m n i j)
theorem wkM_zero (m : List (List Int)) : wkM m 0 = oneM m.length := tabOf_congr fun i j _ _ => by
  rw [wkB]
  unfold bI
  by_cases h : i = j
  · rw [if_pos (decide_eq_true h), if_pos h]
  · rw [if_neg (by rw [decide_eq_false h]; decide), if_neg h]

/-! ### Components, period, step, turns -/

def compRow (m : List (List Int)) (i : Nat) : List Nat := (List.range m.length).filter fun j => reachB m i j && reachB m j i
def compList (m : List (List Int)) (i : Nat) : List (List Int) := if (compRow m i).head? = some i then [(compRow m i).map fun (j : Nat) => (j : Int)] else []
def compM (m : List (List Int)) (n : Nat) : List (List Int) := ((List.range n).map (compList m)).flatten
def compS (m : List (List Int)) : List (List Int) := if isMat m = true then compM m m.length else []
def irrM (m : List (List Int)) : Bool := isMat m && (List.range m.length).all fun i => (List.range m.length).all fun j => reachB m i j
def perRow (m : List (List Int)) (n : Nat) : Nat → Nat → Nat
  | 0, p => p
  | i + 1, p => if wkB m n i i then Nat.gcd (perRow m n i p) n else perRow m n i p
def perAcc (m : List (List Int)) : Nat → Nat
  | 0 => 0
  | n + 1 => perRow m (n + 1) m.length (perAcc m n)
def perM (m : List (List Int)) : Nat := perAcc m (2 * m.length)
def perS (m : List (List Int)) : Int := if isMat m = true then ((perM m : Nat) : Int) else 0
def primM (m : List (List Int)) : Bool := irrM m && decide (perM m = 1)
def fullB (m : List (List Int)) (n : Nat) : Bool := (List.range m.length).all fun i => (List.range m.length).all fun j => wkB m n i j
def stepN (m : List (List Int)) : Nat := if primM m then ((List.range 128).find? fun n => fullB m (n + 1)).elim 0 (· + 1) else 0
def distN (m : List (List Int)) (j : Nat) : Nat := ((List.range m.length).find? fun n => wkB m n 0 j).getD 0
def turnN (m : List (List Int)) (j : Nat) : Nat := distN m j % perM m
def turnsM (m : List (List Int)) : List Int := if irrM m then (List.range m.length).map fun j => ((turnN m j : Nat) : Int) else []

theorem irrM_iff {m : List (List Int)} : irrM m = true ↔ isMat m = true ∧ Joined m.length (arcP m) := by
  unfold irrM
  rw [Bool.and_eq_true, List.all_eq_true]
  refine and_congr_right fun _ => ⟨fun h i j hi hj => ?_, fun h i hi => ?_⟩
  · have h1 := h i (List.mem_range.2 hi)
    rw [List.all_eq_true] at h1
    exact (reachB_iff hi hj).1 (h1 j (List.mem_range.2 hj))
  · rw [List.all_eq_true]
    intro j hj
    exact (reachB_iff (List.mem_range.1 hi) (List.mem_range.1 hj)).2 (h i j (List.mem_range.1 hi) (List.mem_range.1 hj))
theorem perRow_dvd {m : List (List Int)} {n : Nat} {g : Nat} : ∀ {i p : Nat}, g ∣ perRow m n i p ↔ g ∣ p ∧ ∀ j, j < i → wkB m n j j = true → g ∣ n
  | 0, p => ⟨fun h => ⟨h, fun j hj => absurd hj (Nat.not_lt_zero _)⟩, fun h => h.1⟩
  | i + 1, p => by
    rw [perRow]
    have ih := @perRow_dvd m n g i p
    constructor
    · intro h
      split at h
      · next hw =>
        have h1 := Nat.dvd_trans h (Nat.gcd_dvd_left _ _)
        have h2 := Nat.dvd_trans h (Nat.gcd_dvd_right _ _)
        exact ⟨(ih.1 h1).1, fun _ _ _ => h2⟩
      · next hw =>
        refine ⟨(ih.1 h).1, fun j hj hw2 => ?_⟩
        by_cases e : j = i
        · subst e; exact absurd hw2 hw
        · exact (ih.1 h).2 j (by omega) hw2
    · rintro ⟨h1, h2⟩
      have h3 := ih.2 ⟨h1, fun j hj => h2 j (by omega)⟩
      split
      · next hw => exact Nat.dvd_gcd h3 (h2 i (by omega) hw)
      · exact h3
theorem perAcc_dvd {m : List (List Int)} {g : Nat} : ∀ {n : Nat}, g ∣ perAcc m n ↔ ∀ k i, 0 < k → k ≤ n → i < m.length → wkB m k i i = true → g ∣ k
  | 0 => ⟨fun _ k i h1 h2 => by omega, fun _ => Nat.dvd_zero _⟩
  | n + 1 => by
    rw [perAcc, perRow_dvd, @perAcc_dvd m g n]
    constructor
    · rintro ⟨h1, h2⟩ k i hk0 hk hi hw
      by_cases e : k = n + 1
      · subst e; exact h2 i hi hw
      · exact h1 k i hk0 (by omega) hi hw
    · intro h
      exact ⟨fun k i hk0 hk hi hw => h k i hk0 (by omega) hi hw, fun j hj hw => h (n + 1) j (by omega) (Nat.le_refl _) hj hw⟩
theorem closed_lt {m : List (List Int)} {n i : Nat} (hn : 0 < n) (h : Wk (arcP m) n i i) : i < m.length := by
  rw [show n = (n - 1) + 1 by omega] at h
  exact (Wk.ends (arcP_on m) h).1
theorem perM_dvd {m : List (List Int)} {g : Nat} : g ∣ perM m ↔ ∀ n i, Wk (arcP m) n i i → g ∣ n := by
  unfold perM
  rw [perAcc_dvd]
  constructor
  · intro h n i hw
    refine closed_dvd (arcP_on m) (fun k j hk hle hw2 => ?_) hw
    have hj := closed_lt hk hw2
    exact h k j hk (by omega) hj ((wkB_iff hj hj).2 hw2)
  · intro h k i hk0 _ hi hw
    exact h k i ((wkB_iff hi hi).1 hw)
theorem perM_closed {m : List (List Int)} {n i : Nat} (h : Wk (arcP m) n i i) : perM m ∣ n := perM_dvd.1 (Nat.dvd_refl _) n i h
theorem perM_pos {m : List (List Int)} (h0 : 0 < m.length) (h : Joined m.length (arcP m)) : 0 < perM m := by
  obtain ⟨n, hn, hw⟩ := h 0 0 h0 h0
  have := perM_closed hw
  by_cases e : perM m = 0
  · rw [e, Nat.zero_dvd] at this; omega
  · omega
theorem primM_full {m : List (List Int)} (h : primM m = true) : ∃ n, 0 < n ∧ n + 2 * m.length ≤ m.length * m.length + 2 ∧ FullAt m.length (arcP m) n := by
  unfold primM at h
  rw [Bool.and_eq_true, decide_eq_true_iff] at h
  obtain ⟨hi, hp⟩ := h
  obtain ⟨hm, hJ⟩ := irrM_iff.1 hi
  have hf := isMat_facts hm
  refine full_bound (arcP_on m) hf.pos hJ fun g hg => ?_
  have := perM_dvd.2 hg
  rw [hp] at this
  exact Nat.dvd_one.1 this
theorem fullB_iff {m : List (List Int)} {n : Nat} : fullB m n = true ↔ FullAt m.length (arcP m) n := by
  unfold fullB FullAt
  rw [List.all_eq_true]
  constructor
  · intro h i j hi hj
    have h1 := h i (List.mem_range.2 hi)
    rw [List.all_eq_true] at h1
    exact (wkB_iff hi hj).1 (h1 j (List.mem_range.2 hj))
  · intro h i hi
    rw [List.all_eq_true]
    intro j hj
    exact (wkB_iff (List.mem_range.1 hi) (List.mem_range.1 hj)).2 (h i j (List.mem_range.1 hi) (List.mem_range.1 hj))
theorem find_first {p : Nat → Bool} {n N : Nat} (hn : n < N) (hp : p n = true) (hmin : ∀ k, k < n → p k = false) : (List.range N).find? p = some n := by
  rw [List.find?_range_eq_some]
  exact ⟨hp, List.mem_range.2 hn, fun k hk => by rw [hmin k hk]; rfl⟩
/-- The first full number of steps is the primitive step. -/
theorem stepN_is {m : List (List Int)} (h : primM m = true) {n : Nat} (hn : 0 < n) (hf : fullB m n = true) (hmin : ∀ k, 0 < k → k < n → fullB m k = false) : stepN m = n := by
  obtain ⟨b, hb0, hb, hfb⟩ := primM_full h
  have hle : n ≤ b := by
    by_cases hlt : b < n
    · have := hmin b hb0 hlt
      rw [fullB_iff.2 hfb] at this; cases this
    · omega
  have hi : irrM m = true := by
    unfold primM at h
    rw [Bool.and_eq_true] at h
    exact h.1
  have hm := isMat_facts (irrM_iff.1 hi).1
  have hl := hm.le
  have hsq : m.length * m.length ≤ 81 := by
    calc m.length * m.length ≤ 9 * m.length := Nat.mul_le_mul_right _ hl
      _ ≤ 9 * 9 := Nat.mul_le_mul_left 9 hl
  unfold stepN
  rw [if_pos h]
  obtain ⟨t, rfl⟩ : ∃ t, n = t + 1 := ⟨n - 1, by omega⟩
  have hpos := hm.pos
  rw [find_first (p := fun n => fullB m (n + 1)) (n := t) (by omega) hf (fun k hk => hmin (k + 1) (by omega) (by omega))]
  rfl
end Go.Proofs.Ytalclebehbdliaa
namespace Go.Proofs.Ytalclebehbdliaa
open Go Go.RowKit

theorem cell_far {w : World} {a p : Addr} {v u : Value} (hne : p.block ≠ a.block) (h : w.cell? p = some u) : (w.setCell a v).cell? p = some u := by
  have hb := heap_setCell_other w a p.block v hne
  unfold World.cell? at h ⊢
  rw [hb]; exact h
/-- Number j of row i, as OwnG.at, and the row's block is not the table's. -/
theorem OwnG.at2 {w : World} {B : Nat} {v : Value} {m : List (List Int)} (h : OwnG w B v m) {i j : Nat} (hi : i < m.length) (hj : j < (m.getD i []).length) :
    ∃ g cap gi ci, v = .slice (some ⟨g, 0, none⟩) m.length cap ∧ w.cell? ⟨g, i, none⟩ = some (.slice (some ⟨gi, 0, none⟩) (m.getD i []).length ci) ∧ w.cell? ⟨gi, j, none⟩ = some (.int .i64 (cellOf m i j)) ∧ w.frozen? ⟨gi, j, none⟩ = false ∧ B ≤ gi ∧ gi < w.heap.size ∧ g ≠ gi ∧ B ≤ g ∧
      ∀ x : Int, OwnG (w.setCell ⟨gi, j, none⟩ (.int .i64 x)) B v (m.set i ((m.getD i []).set j x)) := by
  obtain ⟨g, cap, gi, ci, rfl, h1, h2, h3, h4, h5, h6⟩ := h.at hi hj
  obtain ⟨vs, ho, hr⟩ := h
  have hv : vs[i]? = some vs[i]! := by
    have := hr.len
    rw [getElem!_pos vs i (by omega)]
    exact List.getElem?_eq_getElem (by omega)
  have hc := (ho.cellAt i (by omega)).trans hv
  rw [h1] at hc
  have hrow := hr.row i _ hv
  rw [← Option.some.inj hc] at hrow
  refine ⟨g, cap, gi, ci, rfl, h1, h2, h3, h4, h5, ?_, (ho.lt g rfl).1, h6⟩
  rcases hrow.2 with e | e
  · cases e
  · intro e2
    exact e (by rw [e2]; rfl)

/-- The arcs so far. -/
def arcF (m : List (List Int)) (i j : Nat) : Nat → Nat → Int := fun a b => if a < i ∨ (a = i ∧ b < j) then bI (arcB m a b) else 0
theorem arcF_zero (m : List (List Int)) (n : Nat) : tabOf n n (arcF m 0 0) = tabOf n n fun _ _ => 0 := tabOf_congr fun i j _ _ => by unfold arcF; rw [if_neg (by omega)]
theorem arcF_next (m : List (List Int)) (n i j : Nat) (hi : i < n) : (tabOf n n (arcF m i j)).set i (((tabOf n n (arcF m i j)).getD i []).set j (bI (arcB m i j))) = tabOf n n (arcF m i (j + 1)) := by
  rw [tabOf_set _ _ hi]
  refine tabOf_congr fun a b _ _ => ?_
  unfold arcF
  by_cases e : a = i ∧ b = j
  · obtain ⟨rfl, rfl⟩ := e
    rw [if_pos ⟨rfl, rfl⟩, if_pos (by omega)]
  · rw [if_neg e]
    by_cases h : a < i ∨ (a = i ∧ b < j)
    · rw [if_pos h, if_pos (by omega)]
    · rw [if_neg h, if_neg (by omega)]
theorem arcF_row (m : List (List Int)) (n i : Nat) : tabOf n n (arcF m i n) = tabOf n n (arcF m (i + 1) 0) := tabOf_congr fun a b _ hb => by
  unfold arcF
  by_cases h : a < i ∨ (a = i ∧ b < n)
  · rw [if_pos h, if_pos (by omega)]
  · rw [if_neg h, if_neg (by omega)]
/-- The pairs that are joined by way of vertices below k, and below k + 1 ahead of i and j. -/
def viaF (m : List (List Int)) (k i j : Nat) : Nat → Nat → Int := fun a b => bI (if a < i ∨ (a = i ∧ b < j) then viaB m (k + 1) a b else viaB m k a b)
theorem viaF_zero (m : List (List Int)) (n : Nat) : tabOf n n (arcF m n 0) = tabOf n n (viaF m 0 0 0) := tabOf_congr fun a b ha _ => by
  unfold arcF viaF
  rw [if_pos (Or.inl ha), if_neg (by omega)]; rfl
theorem viaF_col (m : List (List Int)) (k i j a : Nat) : viaF m k i j a k = bI (viaB m k a k) := by
  unfold viaF
  split
  · rw [viaB_col]
  · rfl
theorem viaF_rowk (m : List (List Int)) (k i j b : Nat) : viaF m k i j k b = bI (viaB m k k b) := by
  unfold viaF
  split
  · rw [viaB_row]
  · rfl
theorem viaF_at (m : List (List Int)) (k i j : Nat) : viaF m k i j i j = bI (viaB m k i j) := by
  unfold viaF
  rw [if_neg (by omega)]
theorem viaF_next (m : List (List Int)) (n k i j : Nat) (hi : i < n) : (tabOf n n (viaF m k i j)).set i (((tabOf n n (viaF m k i j)).getD i []).set j (bI (viaB m k i j || (viaB m k i k && viaB m k k j)))) = tabOf n n (viaF m k i (j + 1)) := by
  rw [tabOf_set _ _ hi]
  refine tabOf_congr fun a b _ _ => ?_
  by_cases e : a = i ∧ b = j
  · obtain ⟨rfl, rfl⟩ := e
    rw [if_pos ⟨rfl, rfl⟩]
    unfold viaF
    rw [if_pos (by omega)]; rfl
  · rw [if_neg e]
    unfold viaF
    by_cases h : a < i ∨ (a = i ∧ b < j)
    · rw [if_pos h, if_pos (by omega)]
    · rw [if_neg h, if_neg (by omega)]
theorem viaF_row (m : List (List Int)) (n k i : Nat) : tabOf n n (viaF m k i n) = tabOf n n (viaF m k (i + 1) 0) := tabOf_congr fun a b _ hb => by
  unfold viaF
  by_cases h : a < i ∨ (a = i ∧ b < n)
  · rw [if_pos h, if_pos (by omega)]
  · rw [if_neg h, if_neg (by omega)]
theorem viaF_all (m : List (List Int)) (n k : Nat) : tabOf n n (viaF m k n 0) = tabOf n n (viaF m (k + 1) 0 0) := tabOf_congr fun a b ha _ => by
  unfold viaF
  rw [if_pos (Or.inl ha), if_neg (by omega)]
theorem viaF_end (m : List (List Int)) : tabOf m.length m.length (viaF m m.length 0 0) = reachM m := tabOf_congr fun a b _ _ => by
  unfold viaF reachB
  rw [if_neg (by omega)]

end Go.Proofs.Ytalclebehbdliaa
namespace Go.Proofs.Ytalclebehbdliaa
open Go Go.RowKit

theorem reachM_facts (m : List (List Int)) : (reachM m).length = m.length ∧ (∀ i, i < m.length → ((reachM m).getD i []).length = m.length) ∧ ∀ i j, i < m.length → j < m.length → cellOf (reachM m) i j = bI (reachB m i j) := by
  unfold reachM
  refine ⟨tabOf_length _ _ _, fun i hi => ?_, fun i j hi hj => tabOf_cell hi hj⟩
  rw [tabOf_row hi]; simp
theorem irr_bad {m : List (List Int)} {i j : Nat} (hi : i < m.length) (hj : j < m.length) (h : reachB m i j = false) : irrM m = false := by
  cases e : irrM m with
  | false => rfl
  | true =>
    have := (reachB_iff hi hj).2 ((irrM_iff.1 e).2 i j hi hj)
    rw [h] at this; cases this
theorem irr_all {m : List (List Int)} (hm : isMat m = true) (h : ∀ i j, i < m.length → j < m.length → reachB m i j = true) : irrM m = true :=
  irrM_iff.2 ⟨hm, fun i j hi hj => (reachB_iff hi hj).1 (h i j hi hj)⟩

end Go.Proofs.Ytalclebehbdliaa
