/-
  The program's numbers with a separator, and MatrixText: the bytes that the plain words say; nothing that was there before is changed.
-/
import Derived.Test.YtfbdmheaalmboaaGreatDoorMidTexts
import Derived.Test.YtfbdmheaalmboaaGreatDoorFmt
import Derived.Test.YtfbdmheaalmboaaGreatDoorJoinLaw
import Derived.Test.YtfbdmheaalmboaaGreatDoorRowEnds
namespace Go.Proofs.YtfbdmheaalmboaaGreatDoor
open Go Go.RowKit

theorem owns_cap {w : World} {B e n : Nat} {v : Value} {xs : List Value} (h : w.ownsRow B e 1 v n xs) (hn : 0 < n) : ∃ g cap, v = .slice (some ⟨g, 0, none⟩) n cap ∧ n ≤ cap := by
  rcases h.2 with ⟨_, h0⟩ | ⟨g, cap, cur, rfl, _, _, hnc, _⟩
  · omega
  · exact ⟨g, cap, rfl, hnc⟩

set_option maxRecDepth 100000 in
set_option maxHeartbeats 1600000 in
theorem impl_joinNums (A : Option Addr) (c : Nat) (xs : List Int) (sep : ByteArray) (hsep : sep.size = 1) (h0 : 0 < xs.length) (hn : xs.length ≤ 1048576) (hx : ∀ x ∈ xs, -9223372036854775808 ≤ x ∧ x ≤ 9223372036854775807) (w : World) (hpw : Pow w) (hr : RowS w A xs) :
    Calls Tryz.prog 54 #[.slice A xs.length c, .string sep] w (Scalar (.string (numsB xs sep)) w) := by
  obtain ⟨i0, hi, hz0, hz1, hz2⟩ := info_parts infoStr
  obtain ⟨b, off, rfl, hat, hb⟩ := hr h0
  have hpl : (xs.map itoaB).length = xs.length := by simp
  have HAT : Hid (∀ w', Below w.heap.size w w' → IntsAt w' b off xs) := Lib.hid fun w' hbl => hat.below hbl hb
  have HGET : Hid (∀ k, k < xs.length → (xs.map itoaB).getD k ByteArray.empty = itoaB (xs.getD k 0) ∧ -9223372036854775808 ≤ xs.getD k 0 ∧ xs.getD k 0 ≤ 9223372036854775807) := Lib.hid fun k hk => by
    refine ⟨by simp [List.getD, hk], ?_⟩
    have := hx xs[k] (List.getElem_mem hk)
    simpa [List.getD, hk] using this
  have htot := total_itoaB hx
  have HJ : Hid (∀ gg cc w', w'.ownsRow w.heap.size 9 1 (.slice (some ⟨gg, 0, none⟩) xs.length cc) xs.length ((xs.map itoaB).map Value.string) → xs.length ≤ cc → Calls Tryz.prog 71 #[.slice (some ⟨gg, 0, none⟩) xs.length cc, .string sep] w' (StrPost (joinOf (xs.map itoaB) sep) w')) :=
    Lib.hid (fun gg cc w' ho hcc => by
      have h := impl_join gg 0 cc (xs.map itoaB) sep (by rw [hpl]; omega) (by rw [hpl]; exact hcc) (by
        rw [hsep, hpl, Nat.one_mul]; omega) w' (StrsAt.of_owns ho (by rw [hpl])) (ho.lt gg rfl).2
      rw [hpl] at h
      exact h)
  have HALL : Hid ((xs.map itoaB).take xs.length = xs.map itoaB) := Lib.hid (List.take_of_length_le (by rw [hpl]; exact Nat.le_refl _))
  have HPL := Lib.hid hpl
  have HPW : Hid (∀ w', Below w.heap.size w w' → Pow w') := Lib.hid fun w' hb => hpw.below hb
  unfold numsB
  generalize xs.map itoaB = ps at *
  clear hr hat hx htot hpl hpw
  go_enter Tryz.func54, Tryz.ntmps54
  go_wp2
  go_loopw [5, 10] (fun v i wr => ∃ k : Nat, k ≤ xs.length ∧ i = .int .i64 k ∧ wr.ownsRow w.heap.size 9 1 v k ((ps.take k).map Value.string) ∧ Below w.heap.size w wr) (fun _ i _ => xs.length - (intOf i).toNat)
  case atStart => exact ⟨0, Nat.zero_le _, rfl, ⟨rfl, .inl ⟨rfl, rfl⟩⟩, Below.refl _ _⟩
  case round =>
    obtain ⟨k, hk, rfl, hO, hbl⟩ := hrel
    by_cases hlt : k < xs.length
    · have hc := HAT.out wr hbl k hlt
      obtain ⟨hget, hx0, hx1⟩ := HGET.out k hlt
      have HG := Lib.hid hget
      have HO := Lib.hid hO
      have HB := Lib.hid hbl
      have hsz := hbl.size
      clear hO hbl hget
      generalize xs.getD k 0 = x at *
      have HF := Lib.hid (impl_fmt x hx0 hx1 wr (HPW.out wr HB.out))
      go_wp2_with fail
      refine HF.out.mono ?_
      rintro e w1 ⟨rfl, hb1⟩
      have HB1 := Lib.hid (HB.out.trans (hb1.mono hsz))
      have HO1 := Lib.hid (kept_below HO.out hb1)
      have hs1 := HB1.out.size
      clear hb1
      go_wp2_with (at_builtin; refine wpList_append_lies _ rfl (.tmp 14) (.tmp 17) 72 rfl w.heap.size 9 i0 (.string ByteArray.empty) 1 16 Tryz.underlying72 hi hz0 hz1 hz2 rfl (by decide) _ _ _ rfl (HO1.out.alloc _) ⟨w1.heap.size, 0, none⟩ 1 1 [.string ⟨(Lib.itoa x).toArray⟩] rfl rfl (World.news_of_block (cs := #[.string ⟨(Lib.itoa x).toArray⟩]) (t := 9) (fr := (0, 0)) (heap_alloc_new w1 _)) (by simp [Value.oneCell']) (by decide) (by unfold maxLen; omega) (by omega) (by simp; omega) (w1.heap.size + 1) (by simp) ?_; intro gg cap w3 ho3 hg3 hat3 hlt3; have HN := Lib.hid (strs_more HB1.out HO1.out (by rw [HPL.out]; exact hlt) _ (by rw [HG.out]; exact ho3) hg3); clear ho3 hg3 hat3)
      go_roundw
      case rel => exact ⟨k + 1, by omega, by go_num, HN.out.1, HN.out.2⟩
      case measure => simp [intOf]; omega
    · obtain rfl : k = xs.length := by omega
      rw [HALL.out] at hO
      obtain ⟨g, cap, rfl, hcp⟩ := owns_cap hO h0
      have HJ1 := Lib.hid (HJ.out g cap wr hO hcp)
      have HB := Lib.hid hbl
      clear hO hbl
      go_wp2_with fail
      refine HJ1.out.mono ?_
      rintro e w1 ⟨rfl, hb1⟩
      have HB1 := Lib.hid (HB.out.trans (hb1.mono HB.out.size))
      clear hb1
      go_wp2
      go_ret
      exact ⟨rfl, HB1.out⟩

end Go.Proofs.YtfbdmheaalmboaaGreatDoor
