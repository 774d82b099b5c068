/-
  The parts of a word: the model's FactorsOf and the program's, at every string of at most 2^40 bytes and every int, return the same list in new memory; nothing that was there before is changed.
-/
import Derived.Test.YtomaanpmjlgpfaaPut
import Derived.Test.YtomaanpmjlgpfaaIsW
import Derived.Test.YtomaanpmjlgpfaaShelfK
import Derived.Test.YtomaanpmjlgpfaaWordsOf
import Derived.Maps.Own
import Derived.StringKeys
import Derived.CallsIn
import Derived.Maps.OwnSet
namespace Go.Proofs.Ytomaanpmjlgpfaa
open Go Go.RowKit Go.Maps

theorem factorsOf_yes {s : ByteArray} {n : Nat} (hw : isW 3 s = true) (hn : n ≤ s.size) : factorsOf s (n : Int) = facsTo s n (s.size - n + 1) := by
  unfold factorsOf
  rw [if_pos ⟨hw, by omega, by omega⟩]
  simp
theorem factorsOf_no {s : ByteArray} {n : Int} (h : ¬ (isW 3 s = true ∧ 0 ≤ n ∧ n ≤ (s.size : Int))) : factorsOf s n = [] := by
  unfold factorsOf
  rw [if_neg h]

set_option maxRecDepth 100000 in
set_option maxHeartbeats 1600000 in
theorem spec_factors (s : ByteArray) (n : Int) (hs : s.size ≤ 1099511627776) (w : World) :
    Calls Try.prog 29 #[.string s, .int .i64 n] w (ListPost (factorsOf s n) w) := by
  have HI := Lib.hid (spec_isWord 3 s hs)
  have HN := Lib.hid (spec_in n 0 (s.size : Int))
  go_enter Try.func29, Try.ntmps29
  cases hw : isW 3 s with
  | false =>
    have HF := Lib.hid (factorsOf_no (s := s) (n := n) (fun h => by rw [hw] at h; cases h.1))
    rw [hw] at HI
    go_wp2_with fail
    refine (HI.out _).mono ?_
    rintro e w1 ⟨rfl, rfl⟩
    go_wp2
    go_ret
    rw [HF.out]
    exact post_made _ _ _ rfl rfl
  | true =>
    have h16 := isW_len hw
    rw [hw] at HI
    by_cases hn : 0 ≤ n ∧ n ≤ (s.size : Int)
    · obtain ⟨nn, rfl⟩ := Int.eq_ofNat_of_zero_le hn.1
      have hnn : nn ≤ s.size := by omega
      have HF := Lib.hid (factorsOf_yes hw hnn)
      rw [show (decide (0 ≤ (nn : Int)) && decide ((nn : Int) ≤ (s.size : Int))) = true by simp; omega] at HN
      clear hw hn
      go_wp2_with fail
      refine (HI.out _).mono ?_
      rintro e w1 ⟨rfl, rfl⟩
      go_wp2_with fail
      refine (HN.out _).mono ?_
      rintro e w2 ⟨rfl, rfl⟩
      go_wp2
      go_loopw [5, 6] (fun v i wr => ∃ k g cap : Nat, k ≤ s.size - nn + 1 ∧ i = .int .i64 k ∧ v = .slice (some ⟨g, 0, none⟩) (facsTo s nn k).length cap ∧ wr.ownsRow w.heap.size 9 1 (.slice (some ⟨g, 0, none⟩) (facsTo s nn k).length cap) (facsTo s nn k).length ((facsTo s nn k).map Value.string) ∧ Below w.heap.size w wr) (fun _ i _ => s.size - nn + 1 - (intOf i).toNat)
      case atStart => exact ⟨0, w.heap.size, 0, Nat.zero_le _, rfl, rfl, World.ownsRow_made _ _ 0 (Nat.le_refl _) (by decide) rfl, (Below.refl _ _).alloc (Nat.le_refl _) _⟩
      case round =>
        obtain ⟨k, g, cap, hk, rfl, rfl, ho, hbl⟩ := hrel
        have HB := Lib.hid hbl
        have hlen := facsTo_length s nn k
        clear hbl
        by_cases hlt : k + nn ≤ s.size
        · have HP := Lib.hid (spec_put w.heap.size g cap (facsTo s nn k) (s.extract k (k + nn)) (by omega) wr ho)
          have HX := Lib.hid (show facsTo s nn (k + 1) = putW (s.extract k (k + nn)) (facsTo s nn k) from rfl)
          generalize facsTo s nn k = ps at *
          clear ho
          go_wp2_with fail
          refine HP.out.mono ?_
          rintro e w3 ⟨g3, cap3, rfl, ho3, hb3⟩
          have HO3 := Lib.hid ho3
          have HB3 := Lib.hid (HB.out.trans hb3)
          clear ho3 hb3
          go_wp2
          go_roundw
          case rel => exact ⟨k + 1, g3, cap3, by omega, by go_num, by rw [HX.out], by rw [HX.out]; exact HO3.out, HB3.out⟩
          case measure => simp [intOf]; omega
        · obtain rfl : k = s.size - nn + 1 := by omega
          have HO := Lib.hid ho
          clear ho hlen
          go_wp2
          go_ret
          rw [HF.out]
          exact ⟨_, rfl, HO.out, HB.out⟩
    · have HF := Lib.hid (factorsOf_no (s := s) (n := n) (fun h => hn h.2))
      rw [show (decide (0 ≤ n) && decide (n ≤ (s.size : Int))) = false by simp; omega] at HN
      go_wp2_with fail
      refine (HI.out _).mono ?_
      rintro e w1 ⟨rfl, rfl⟩
      go_wp2_with fail
      refine (HN.out _).mono ?_
      rintro e w2 ⟨rfl, rfl⟩
      go_wp2
      go_ret
      rw [HF.out]
      exact post_made _ _ _ rfl rfl

theorem keys_named {H : Type} {w : World} {R : Value → Option (DataW H × List MemPlace)} {b n : Nat} {D : DataW H} (h : w.ownsMap Try.prog 9 R b n D) : ∃ es, D = .map es ∧ ∀ p ∈ es, ∃ y, p.1 = .string y := by
  obtain ⟨es, rfl, hk⟩ := h.keysOf
  refine ⟨es, rfl, fun p hp => ?_⟩
  obtain ⟨v, hv⟩ := hk p hp
  obtain ⟨x, _, hx, _⟩ := Maps.keyOf_str Try.underlying9 hv
  exact ⟨x, hx⟩
theorem keys_next {H : Type} {w : World} {R : Value → Option (DataW H × List MemPlace)} {b n : Nat} {D : DataW H} (h : w.ownsMap Try.prog 9 R b n D) (x : ByteArray) (d : DataW H) {ps : List ByteArray} (hp : (strKeys D).Perm (datas ps)) (ha : Asc ps) :
    (strKeys (D.put (.string x.data.toList) d)).Perm (datas (putW x ps)) := by
  obtain ⟨es, rfl, hk⟩ := keys_named h
  refine (strKeys_put es x.data.toList d hk).trans ?_
  exact (List.Perm.cons _ (hp.filter _)).trans (putW_perm x ha).symm

set_option maxRecDepth 100000 in
set_option maxHeartbeats 1600000 in
theorem impl_factors (s : ByteArray) (n : Int) (hs : s.size ≤ 1099511627776) (w : World) :
    Calls Try.prog 22 #[.string s, .int .i64 n] w (ListPost (factorsOf s n) w) := by
  have HI := Lib.hid (impl_isWord 3 s hs)
  go_enter Try.func22, Try.ntmps22
  cases hw : isW 3 s with
  | false =>
    have HF := Lib.hid (factorsOf_no (s := s) (n := n) (fun h => by rw [hw] at h; cases h.1))
    rw [hw] at HI
    go_wp2_with fail
    refine (HI.out _).mono ?_
    rintro e w1 ⟨rfl, rfl⟩
    go_wp2
    go_ret
    rw [HF.out]
    exact post_nil _ _ (Below.refl _ _)
  | true =>
    have h16 := isW_len hw
    rw [hw] at HI
    by_cases h0 : n < 0
    · have HF := Lib.hid (factorsOf_no (s := s) (n := n) (fun h => by omega))
      have g0 : decide (n < 0) = true := by simp; omega
      go_wp2_with fail
      refine (HI.out _).mono ?_
      rintro e w1 ⟨rfl, rfl⟩
      go_wp2
      go_ret
      rw [HF.out]
      exact post_nil _ _ (Below.refl _ _)
    · have g0 : decide (n < 0) = false := by simp; omega
      by_cases hn : n ≤ (s.size : Int)
      · obtain ⟨nn, rfl⟩ := Int.eq_ofNat_of_zero_le (show 0 ≤ n by omega)
        have hnn : nn ≤ s.size := by omega
        have g1 : decide ((s.size : Int) < (nn : Int)) = false := by simp; omega
        have g2 : decide (s.size < nn) = false := by simp; omega
        have HF := Lib.hid (factorsOf_yes hw hnn)
        clear hw hn h0
        go_wp2_with fail
        refine (HI.out _).mono ?_
        rintro e w1 ⟨rfl, rfl⟩
        have hmk : ∀ w, (Instr.makeMap 66 none).run Try.prog w = .ok (.map (some w.heap.size)) (w.alloc (.map #[] 0)) := fun w => rfl
        go_wp2
        go_loopw [26] (fun i wr => ∃ (k : Nat) (D : DataW Unit), k ≤ s.size - nn + 1 ∧ i = .int .i64 k ∧ wr.ownsMap Try.prog 9 (plainElem Try.prog 4) w1.heap.size k D ∧ Below w1.heap.size w1 wr ∧ Hid ((strKeys D).Perm (datas (facsTo s nn k)))) (fun i _ => s.size - nn + 1 - (intOf i).toNat)
        case atStart => exact ⟨0, .map [], Nat.zero_le _, rfl, World.ownsMap_made _ _ _ _, (Below.refl _ _).alloc (Nat.le_refl _) _, Lib.hid (List.Perm.refl _)⟩
        case round =>
          obtain ⟨k, D, hk, rfl, ho, hbl, hp⟩ := hrel
          have HO := Lib.hid ho
          have HB := Lib.hid hbl
          clear ho hbl
          by_cases hlt : k < s.size - nn + 1
          · have hx : (s.extract k (k + nn)).size ≤ maxLen := by rw [ByteArray.size_extract]; unfold maxLen; omega
            have HK := Lib.hid (keys_next HO.out (s.extract k (k + nn)) (.lit (.bool true)) hp.out (facsTo_asc s nn k))
            have HY := Lib.hid (Go.WideMaps.keyOf_string_mk Try.underlying9 hx)
            have hc1 : (k : Int) < (s.size : Int) - (nn : Int) + 1 := by omega
            have hc2 : k + nn ≤ s.size := by omega
            clear hx
            go_wp2_with (at_mapUpdate; refine wpList_mapUpdate_own _ rfl _ _ _ 66 rfl 9 4 (string_keyed Try.underlying9) Try.underlying66 _ w1.heap.size k D rfl HO.out (by unfold maxLen; omega) (.string (s.extract k (k + nn))) (.bool true) _ rfl rfl HY.out (.lit (.bool true)) [] (plainElem_bool Try.underlying4 true) ?_; intro w2 ho2 hg2; have hb2 : Below w1.heap.size w1 w2 := HB.out.grown hg2 HB.out.size (fun q hq => by have := Option.some.inj hq; omega); have HO2 := Lib.hid ho2; have HB2 := Lib.hid hb2; clear ho2 hb2 hg2)
            go_roundw
            case rel => exact ⟨k + 1, _, by omega, by go_num, HO2.out, HB2.out, HK⟩
            case measure => simp [intOf]; omega
          · obtain rfl : k = s.size - nn + 1 := by omega
            have hc1 : ¬ ((s.size - nn + 1 : Nat) : Int) < (s.size : Int) - (nn : Int) + 1 := by omega
            have hD : Maps.size D ≤ 17 := by
              have := HO.out.size_le
              omega
            have HM := Lib.hid (callsIn_wide.1 (Try.maps_Keys_68 (some w1.heap.size) wr))
            have HS := Lib.hid (callsIn_wide.1 (Try.slices_Sorted_keys_67_68 w1.heap.size (s.size - nn + 1) D _ wr HO.out (by unfold maxLen; omega) (by omega)))
            clear hc1 hD
            go_wp2_with fail
            refine HM.out.mono ?_
            rintro e w2 ⟨rfl, rfl⟩
            go_wp2_with fail
            refine HS.out.mono ?_
            rintro e w3 ⟨v, ss, rfl, hS, hrow, hnil, hb3⟩
            have HROW := Lib.hid hrow
            have HB3 := Lib.hid hb3
            have HPS := Lib.hid hS
            clear hrow hb3 hS hnil
            go_wp2
            go_ret
            rw [HF.out]
            have hsort := sorted_of_perm (HPS.out.trans hp.out) (facsTo_asc s nn (s.size - nn + 1))
            have hl : ss.length = (facsTo s nn (s.size - nn + 1)).length := by
              have h1 := List.length_mergeSort (le := fun x y => decide (x ≤ y)) ss
              rw [hsort, datas, List.length_map] at h1
              omega
            have h2 := HROW.out
            rw [hsort, hl] at h2
            have h3 : (datas (facsTo s nn (s.size - nn + 1))).map encStr = (facsTo s nn (s.size - nn + 1)).map Value.string := datas_enc _
            rw [h3] at h2
            refine ⟨_, rfl, h2.mono ?_, ?_⟩
            · have := HB.out.size
              simp
              omega
            · exact (HB.out.alloc HB.out.size _).trans (HB3.out.mono (by have := HB.out.size; simp; omega))
      · have HF := Lib.hid (factorsOf_no (s := s) (n := n) (fun h => by omega))
        have g1 : decide ((s.size : Int) < n) = true := by simp; omega
        go_wp2_with fail
        refine (HI.out _).mono ?_
        rintro e w1 ⟨rfl, rfl⟩
        go_wp2
        go_ret
        rw [HF.out]
        exact post_nil _ _ (Below.refl _ _)
end Go.Proofs.Ytomaanpmjlgpfaa
