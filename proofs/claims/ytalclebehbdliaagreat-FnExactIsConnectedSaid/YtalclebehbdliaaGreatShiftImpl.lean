/-
  The program's AvoidsAll: at every number and every list of strings in memory they answer as the plain words say; nothing that was there before is changed.
-/
import Derived.Test.YtalclebehbdliaaGreatBaseTexts
import Derived.Test.YtalclebehbdliaaGreatShiftIs
import Derived.Test.YtalclebehbdliaaGreatLangTexts
import Derived.Test.YtalclebehbdliaaGreatOccurs
namespace Go.Proofs.YtalclebehbdliaaGreat
open Go Go.RowKit

set_option maxRecDepth 100000 in
set_option maxHeartbeats 1600000 in
theorem impl_avoidsAll (L : Int) (G : Option Addr) (c : Nat) (ps : List ByteArray) (s : ByteArray) (hl : ps.length ≤ 1048576) (hz : ∀ k, k < ps.length → (ps.getD k ByteArray.empty).size ≤ 2147483648) (hs2 : s.size ≤ 2147483648) (w : World) (hs : StrsG w G ps)
    (hsh : ∀ w', Below w.heap.size w w' → w'.ShapedOpen Tryz.prog) :
    Calls Tryz.prog 110 #[.agg #[.int .i64 L, .slice G ps.length c], .string s] w (BoolPost (avoidsAll L ps s) w) := by
  have hb := (Below.refl w.heap.size w).alloc (Nat.le_refl _) (.cells #[.int .i64 L, .slice G ps.length c] 26)
  have hs1 := hs.below hb
  have HS := Lib.hid hs1
  have HI := Lib.hid (impl_isShift L G c ps hl (fun k hk => by have := hz k hk; omega) _ hs1)
  have HW := Lib.hid (impl_isWord L s (by omega))
  have HO := Lib.hid (fun (k : Nat) w' (hw' : Below w.heap.size w w') => impl_occurs s (ps.getD k ByteArray.empty) hs2 w' (hsh w' hw'))
  have HB := Lib.hid hb
  have hbox : ∀ w', Below (w.heap.size + 1) (w.alloc (.cells #[.int .i64 L, .slice G ps.length c] 26)) w' → w'.cell? ⟨w.heap.size, 0, none⟩ = some (.int .i64 L) ∧ w'.cell? ⟨w.heap.size, 1, none⟩ = some (.slice G ps.length c) := fun w' h =>
    ⟨(h.cell (p := ⟨w.heap.size, 0, none⟩) (by show w.heap.size < _; omega)).trans (by simp), (h.cell (p := ⟨w.heap.size, 1, none⟩) (by show w.heap.size < _; omega)).trans (by simp)⟩
  have HX := Lib.hid hbox
  clear hs hz hb hs1 hbox hsh
  go_enter Tryz.func110, Tryz.ntmps110
  go_wp2_with fail
  refine HI.out.mono ?_
  rintro e w1 ⟨rfl, hb1⟩
  rw [World.size_alloc] at hb1
  obtain ⟨x0, x1⟩ := HX.out w1 hb1
  have hB1 : Below w.heap.size w w1 := HB.out.trans (hb1.mono (by omega))
  have HB1 := Lib.hid hB1
  cases hi : isShift L ps with
  | false =>
    clear hb1 hB1
    go_wp2
    go_ret
    exact ⟨by unfold avoidsAll; rw [hi]; rfl, HB1.out⟩
  | true =>
    have HST := Lib.hid (show StrsG w1 G ps from HS.out.below (by rw [World.size_alloc]; exact hb1))
    have HI2 := Lib.hid hi
    clear hb1 hB1 hi
    go_wp2_with fail
    refine (HW.out _).mono ?_
    rintro e w2 ⟨rfl, rfl⟩
    cases hw : isW L s with
    | false =>
      go_wp2
      go_ret
      exact ⟨by unfold avoidsAll; rw [hw, Bool.and_false]; rfl, HB1.out⟩
    | true =>
      have HW2 := Lib.hid hw
      have HO1 := Lib.hid (fun k => HO.out k _ HB1.out)
      clear hw
      go_wp2
      go_loop [20] (fun i => ∃ k : Nat, k ≤ ps.length ∧ i = .int .i64 k ∧ Hid (AvoidTo ps s k)) (fun i => ps.length - (intOf i).toNat)
      case atStart => exact ⟨0, Nat.zero_le _, rfl, Lib.hid (fun j h => by omega)⟩
      case round =>
        obtain ⟨k, hk, rfl, hto⟩ := hrel
        by_cases hlt : k < ps.length
        · obtain ⟨bg, og, rfl, hst, _⟩ := HST.out (by omega)
          have hc := hst k hlt
          have ho := HO1.out k
          cases hi : occ s (ps.getD k ByteArray.empty) with
          | true =>
            rw [hi] at ho
            have HR := Lib.hid (avoids_not hlt hi)
            have HO2 := Lib.hid ho
            generalize ps.getD k ByteArray.empty = y at *
            clear ho hi
            go_wp2_with fail
            refine HO2.out.mono ?_
            rintro e w3 ⟨rfl, rfl⟩
            go_wp2
            go_ret
            exact ⟨by unfold avoidsAll; rw [HR.out, Bool.and_false]; rfl, HB1.out⟩
          | false =>
            rw [hi] at ho
            have HT := Lib.hid (hto.out.next hi)
            have HO2 := Lib.hid ho
            generalize ps.getD k ByteArray.empty = y at *
            clear ho hi
            go_wp2_with fail
            refine HO2.out.mono ?_
            rintro e w3 ⟨rfl, rfl⟩
            go_wp2
            go_round
            case rel => exact ⟨k + 1, by omega, by go_num, HT⟩
            case measure => simp [intOf]; omega
        · obtain rfl : k = ps.length := by omega
          have HE := Lib.hid (avoids_end hto.out)
          go_wp2
          go_ret
          exact ⟨by unfold avoidsAll; rw [HI2.out, HW2.out, HE.out]; rfl, HB1.out⟩
theorem shape_next {w w' : World} (h : w.ShapedOpen Tryz.prog) (hb : Below w.heap.size w w') : w'.ShapedOpen Tryz.prog := h.keptBut (hb.frame (fun _ => False)) (fun _ h => h.elim)
theorem atCopies_impl_isShift (W : World) (L : Int) (xs : List ByteArray) : AtCopies W 36 L xs (isShift L xs) :=
  fun g c w' _ hl ht hs hg => impl_isShift L (some ⟨g, 0, none⟩) c xs hl (fun k hk => by have := size_le_total hk; omega) w' (.of hs hg)
theorem atCopies_impl_avoidsAll (W : World) (hsh : W.ShapedOpen Tryz.prog) (L : Int) (xs : List ByteArray) (s : ByteArray) : AtCopiesS W 110 L xs s (avoidsAll L xs s) :=
  fun g c w' hB hs hl ht hst hg => impl_avoidsAll L (some ⟨g, 0, none⟩) c xs s hl (fun k hk => by have := size_le_total hk; omega) (by omega) w' (.of hst hg) (fun _ h => shape_next hsh (below_after hB h))
end Go.Proofs.YtalclebehbdliaaGreat
