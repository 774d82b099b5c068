/-
  The program's search for two equal marks: as the plain words say; nothing that was there before is changed.
-/
import Derived.Test.YtlncehnbdhkaoaaTwinI
import Derived.OwnWalk
import Derived.BigQuiet
namespace Go.Proofs.Ytlncehnbdhkaoaa
open Go Go.RowKit Go.Shelf

/-- The marks of all words of the list lie in block b. -/
def MarksAt (w : World) (b : Nat) (k n : Nat) (o : ByteArray) (ps : List ByteArray) : Prop := ∀ j, j < ps.length → w.cell? ⟨b, j * 3, none⟩ = some (.string (mkA k n o (ps.getD j ByteArray.empty))) ∧ w.cell? ⟨b, j * 3 + 1, none⟩ = some (.string (mkB n (ps.getD j ByteArray.empty))) ∧ w.cell? ⟨b, j * 3 + 2, none⟩ = some (.string (mkC n (ps.getD j ByteArray.empty)))
theorem MarksAt.below {w w' : World} {B b k n : Nat} {o : ByteArray} {ps : List ByteArray} (h : MarksAt w b k n o ps) (hb : Below B w w') (hlt : b < B) : MarksAt w' b k n o ps := fun j hj =>
  ⟨(hb.cell (p := ⟨b, j * 3, none⟩) hlt).trans (h j hj).1, (hb.cell (p := ⟨b, j * 3 + 1, none⟩) hlt).trans (h j hj).2.1, (hb.cell (p := ⟨b, j * 3 + 2, none⟩) hlt).trans (h j hj).2.2⟩
theorem marksAt_of {w : World} {B b cap k n : Nat} {o : ByteArray} {ps : List ByteArray} (h : w.ownsRow B 96 3 (.slice (some ⟨b, 0, none⟩) ps.length cap) ps.length (ps.flatMap (markC k n o))) : MarksAt w b k n o ps := fun j hj => by
  have e0 := marksC_at k n o ps j 0 hj (by omega)
  rw [Nat.add_zero] at e0
  have h0 := (h.cellAt (j * 3) (by omega)).trans e0
  have h1 := (h.cellAt (j * 3 + 1) (by omega)).trans (marksC_at k n o ps j 1 hj (by omega))
  have h2 := (h.cellAt (j * 3 + 2) (by omega)).trans (marksC_at k n o ps j 2 hj (by omega))
  exact ⟨h0, h1, h2⟩
theorem tw_is (k n : Nat) (o : ByteArray) (ps : List ByteArray) (i j : Nat) : twL k n o ps i j = (((mkB n (ps.getD i ByteArray.empty)).toList == (mkB n (ps.getD j ByteArray.empty)).toList && (mkC n (ps.getD i ByteArray.empty)).toList == (mkC n (ps.getD j ByteArray.empty)).toList) && (mkA k n o (ps.getD i ByteArray.empty)).toList == (mkA k n o (ps.getD j ByteArray.empty)).toList) := rfl
/-- A box that holds a mark. -/
def MarkBox (w : World) (g : Nat) (a b c : ByteArray) : Prop := w.heap[g]? = some (.cells #[.string a, .string b, .string c] 96 (0, 0))
theorem MarkBox.lt {w : World} {g : Nat} {a b c : ByteArray} (h : MarkBox w g a b c) : g < w.heap.size := (Array.getElem?_eq_some_iff.1 h).1
theorem MarkBox.later {w w' : World} {B g : Nat} {a b c : ByteArray} (h : MarkBox w g a b c) (hb : Below B w w') (hg : g < B) : MarkBox w' g a b c := (hb.block g hg).trans h
theorem MarkBox.c0 {w : World} {g : Nat} {a b c : ByteArray} (h : MarkBox w g a b c) : w.cell? ⟨g, 0, none⟩ = some (.string a) := by simp [World.cell?, show w.heap[g]? = _ from h]
theorem MarkBox.c1 {w : World} {g : Nat} {a b c : ByteArray} (h : MarkBox w g a b c) : w.cell? ⟨g, 1, none⟩ = some (.string b) := by simp [World.cell?, show w.heap[g]? = _ from h]
theorem MarkBox.c2 {w : World} {g : Nat} {a b c : ByteArray} (h : MarkBox w g a b c) : w.cell? ⟨g, 2, none⟩ = some (.string c) := by simp [World.cell?, show w.heap[g]? = _ from h]
theorem markBox_new (w : World) (a b c : ByteArray) : MarkBox (w.alloc (.cells #[.string a, .string b, .string c] 96)) w.heap.size a b c := heap_alloc_new w _
def IndexPost (R : Nat → Nat → Bool) (m i : Nat) (w : World) (e : Ending) (w' : World) : Prop := (e = .returned (.int .i64 (match behindJ R m i with | none => -1 | some j => ((j - (i + 1) : Nat) : Int)))) ∧ Below w.heap.size w w'

set_option maxRecDepth 100000 in
set_option maxHeartbeats 3200000 in
theorem impl_indexM (k n b i cp : Nat) (o : ByteArray) (ps : List ByteArray) (hl : ps.length ≤ 729) (hi : i < ps.length) (A : Option Addr) (hA : ps.length - (i + 1) = 0 ∨ A = some ⟨b, (i + 1) * 3, none⟩) (W : World) (hs : MarksAt W b k n o ps) (hb : b < W.heap.size) :
    Calls Try.prog 77 #[.slice A (ps.length - (i + 1)) cp, .agg #[.string (mkA k n o (ps.getD i ByteArray.empty)), .string (mkB n (ps.getD i ByteArray.empty)), .string (mkC n (ps.getD i ByteArray.empty))]] W (IndexPost (twL k n o ps) ps.length i W) := by
  have HS := Lib.hid hs
  have HTW := Lib.hid (tw_is k n o ps i)
  have HSOME := Lib.hid (fun j (hj : j < ps.length) (hij : i < j) (h : twL k n o ps i j = true) h0 => behind_some (m := ps.length) hj hij h h0)
  have HNONE := Lib.hid (fun h0 => behind_none (R := twL k n o ps) (m := ps.length) (i := i) h0)
  generalize mkA k n o (ps.getD i ByteArray.empty) = a0 at *
  generalize mkB n (ps.getD i ByteArray.empty) = b0 at *
  generalize mkC n (ps.getD i ByteArray.empty) = d0 at *
  obtain ⟨m, hm⟩ : ∃ m, ps.length - (i + 1) = m := ⟨_, rfl⟩
  have HM := Lib.hid hm
  rw [hm] at hA ⊢
  have HA := Lib.hid hA
  clear hA
  have hm729 : m ≤ 729 := by omega
  have hB0 := (Below.refl W.heap.size W).alloc (Nat.le_refl _) (.cells #[.string a0, .string b0, .string d0] 96)
  have HB0 := Lib.hid hB0
  have hX := markBox_new W a0 b0 d0
  have HX := Lib.hid hX
  clear hs hm hB0 hX
  go_enter Try.func77, Try.ntmps77
  go_wp2
  obtain ⟨W1, hW1⟩ : ∃ W1, W.alloc (.cells #[.string a0, .string b0, .string d0] 96) = W1 := ⟨_, rfl⟩
  rw [hW1] at HB0 HX ⊢
  have hs1 : W1.heap.size = W.heap.size + 1 := by rw [← hW1]; simp
  clear hW1
  go_loopw [8] (fun jv wr => ∃ j : Nat, j ≤ m ∧ jv = .int .i64 (j : Int) ∧ Hid (∀ y, i < y → y < i + 1 + j → twL k n o ps i y = false) ∧ Hid (Below W1.heap.size W1 wr)) (fun jv _ => m - (intOf jv).toNat)
  case atStart => exact ⟨0, Nat.zero_le _, rfl, Lib.hid (fun y h1 h2 => by omega), Lib.hid (Below.refl _ _)⟩
  case round =>
    obtain ⟨j, hj, rfl, HNO, HB⟩ := hrel
    have hbW := HB0.out.trans (HB.out.mono HB0.out.size)
    by_cases hlt : j < m
    · have hAe : A = some ⟨b, (i + 1) * 3, none⟩ := by
        rcases HA.out with h | h
        · omega
        · exact h
      subst hAe
      have hjp : i + 1 + j < ps.length := by have := HM.out; omega
      obtain ⟨k0, k1, k2⟩ := (HS.out.below hbW hb) (i + 1 + j) hjp
      have hXb := HX.out.later HB.out (by omega)
      have x0 := hXb.c0
      have x1 := hXb.c1
      have x2 := hXb.c2
      clear hXb
      have ho : (i + 1 + j) * 3 = (i + 1) * 3 + j * 3 := by omega
      rw [ho] at k0 k1 k2
      have HT := Lib.hid (HTW.out (i + 1 + j))
      have HNX : Hid (twL k n o ps i (i + 1 + j) = false → ∀ y, i < y → y < i + 1 + (j + 1) → twL k n o ps i y = false) := Lib.hid fun e y h1 h2 => by
        by_cases e2 : y = i + 1 + j
        · subst e2; exact e
        · exact HNO.out y h1 (by omega)
      have HRS : Hid (twL k n o ps i (i + 1 + j) = true → behindJ (twL k n o ps) ps.length i = some (i + 1 + j)) := Lib.hid fun e => HSOME.out _ hjp (by omega) e HNO.out
      generalize mkA k n o (ps.getD (i + 1 + j) ByteArray.empty) = a1 at *
      generalize mkB n (ps.getD (i + 1 + j) ByteArray.empty) = b1 at *
      generalize mkC n (ps.getD (i + 1 + j) ByteArray.empty) = d1 at *
      have HBW := Lib.hid hbW
      have hms : m - (j + 1) < m - j := by omega
      clear hbW ho hjp
      cases h1 : (a0.toList == a1.toList) with
      | false =>
        have HN := Lib.hid (HNX.out (by rw [HT.out, h1, Bool.and_false]))
        go_wp2
        go_quiet (fail)
        have HBq := Lib.hid (drewN_below HB.out nq)
        go_wp2
        go_roundw
        case rel => exact ⟨j + 1, hlt, by go_num, HN, HBq⟩
        case measure => simp [intOf]; omega
      | true =>
        cases h2 : (b0.toList == b1.toList) with
        | false =>
          have HN := Lib.hid (HNX.out (by rw [HT.out, h2, Bool.false_and, Bool.false_and]))
          go_wp2
          go_quiet (fail)
          have HBq := Lib.hid (drewN_below HB.out nq)
          go_wp2
          go_roundw
          case rel => exact ⟨j + 1, hlt, by go_num, HN, HBq⟩
          case measure => simp [intOf]; omega
        | true =>
          cases h3 : (d0.toList == d1.toList) with
          | false =>
            have HN := Lib.hid (HNX.out (by rw [HT.out, h3, Bool.and_false, Bool.false_and]))
            go_wp2
            go_quiet (fail)
            have HBq := Lib.hid (drewN_below HB.out nq)
            go_wp2
            go_roundw
            case rel => exact ⟨j + 1, hlt, by go_num, HN, HBq⟩
            case measure => simp [intOf]; omega
          | true =>
            have HR := Lib.hid (HRS.out (by rw [HT.out, h1, h2, h3]; rfl))
            have HE : Hid (IndexPost (twL k n o ps) ps.length i W (.returned (.int .i64 (j : Int))) = (Ending.returned (.int .i64 (j : Int)) = Ending.returned (.int .i64 ((i + 1 + j - (i + 1) : Nat) : Int)) ∧ Below W.heap.size W ·)) := Lib.hid (by funext w'; unfold IndexPost; rw [HR.out])
            go_wp2
            go_quiet (fail)
            have HBq := Lib.hid (drewN_below HBW.out nq)
            go_wp2
            go_ret
            refine (congrFun HE.out _).mpr ⟨?_, HBq.out⟩
            rw [Nat.add_sub_cancel_left]
    · obtain rfl : j = m := by omega
      have HN : Hid (behindJ (twL k n o ps) ps.length i = none) := Lib.hid (HNONE.out fun y h1 h2 => HNO.out y h1 (by have := HM.out; omega))
      have HE : Hid (IndexPost (twL k n o ps) ps.length i W (.returned (.int .i64 (-1))) = (Ending.returned (.int .i64 (-1)) = Ending.returned (.int .i64 (-1)) ∧ Below W.heap.size W ·)) := Lib.hid (by funext w'; unfold IndexPost; rw [HN.out])
      have HBW := Lib.hid hbW
      clear hbW
      go_wp2
      go_ret
      exact (congrFun HE.out _).mpr ⟨trivial, HBW.out⟩
end Go.Proofs.Ytlncehnbdhkaoaa
