/-
  The program's LanguageOf: at every shift in memory and every int it returns the words that the plain list holds, in new memory; nothing that was there before is changed.
-/
import Derived.Test.YtalclebehbdliaaGreatDoorLangTexts
namespace Go.Proofs.YtalclebehbdliaaGreatDoor
open Go Go.RowKit

theorem enters_cover : ∀ args w, (callFunc 77 args).run Tryz.prog w = .ok (.enter 77 args) w := enters_of Tryz.func77 (by kernel_rfl) rfl

set_option maxRecDepth 100000 in
theorem test_cover (p : Nat) (hp : p < 65536) (H : Nat) (W0 : World) (hc : W0.cell? ⟨H, 0, none⟩ = some (.int .u16 p)) :
    TestAt (H + 1) W0 77 #[.pointer (some ⟨H, 0, none⟩)] (fun x => !coverB p x) (fun x => x.size ≤ 1000000 ∧ Letters x) := by
  intro x W hx hW
  have x0 : W.cell? ⟨H, 0, none⟩ = some (.int .u16 p) := (hW.cell (p := ⟨H, 0, none⟩) (by show H < _; omega)).trans hc
  have HA := Lib.hid (impl_cover p hp x hx.1 hx.2 W)
  clear hW hx hc
  show Calls Tryz.prog 77 #[.string x, .pointer (some ⟨H, 0, none⟩)] W _
  go_enter Tryz.func77, Tryz.ntmps77
  go_wp2_with fail
  refine HA.out.mono ?_
  rintro e w1 ⟨rfl, q, rfl⟩
  go_wp2
  go_ret
  exact ⟨rfl, below_drewN (Below.refl _ _) q⟩

set_option maxRecDepth 100000 in
set_option maxHeartbeats 1600000 in
theorem impl_languageOf (L n : Int) (G : Option Addr) (c : Nat) (ps : List ByteArray) (hl : ps.length ≤ 1048576) (hz : ∀ k, k < ps.length → (ps.getD k ByteArray.empty).size ≤ 2147483648) (w : World) (hs : StrsG w G ps)
    (hsh : ∀ w', Below w.heap.size w w' → w'.ShapedOpen Tryz.prog) :
    Calls Tryz.prog 49 #[.agg #[.int .i64 L, .slice G ps.length c], .int .i64 n] w (ListPost (langOf L ps n) w) := by
  have hb := (Below.refl w.heap.size w).alloc (Nat.le_refl _) (.cells #[.int .i64 L, .slice G ps.length c] 30)
  have hs1 := hs.below hb
  have HP := Lib.hid (impl_lively L G c ps hl hz _ hs1 (fun w' h => hsh w' (below_after hb h)))
  have HA := Lib.hid (fun w' (h : Below w.heap.size w w') => impl_avoidingWords L n G c ps hl hz w' (hs.below h) (fun w2 h2 => hsh w2 (below_after h h2)))
  have HB := Lib.hid hb
  have HX := Lib.hid (fun w' (h : Below (w.heap.size + 1) (w.alloc (.cells #[.int .i64 L, .slice G ps.length c] 30)) w') =>
    (⟨(h.cell (p := ⟨w.heap.size, 0, none⟩) (by show w.heap.size < _; omega)).trans (by simp), (h.cell (p := ⟨w.heap.size, 1, none⟩) (by show w.heap.size < _; omega)).trans (by simp)⟩ :
      w'.cell? ⟨w.heap.size, 0, none⟩ = some (.int .i64 L) ∧ w'.cell? ⟨w.heap.size, 1, none⟩ = some (.slice G ps.length c)))
  have HW := Lib.hid (fun x (hx : x ∈ avoidingWords L ps n) => (show x.size ≤ 1000000 ∧ Letters x from by
    obtain ⟨h1, h2, h3⟩ := avoiding_word hx
    exact ⟨by omega, h3⟩))
  have HLen := Lib.hid (avoidingWords_length L ps n)
  have HF : Hid ((avoidingWords L ps n).filter (fun x => !!coverB (livelyB L ps) x) = langOf L ps n) := Lib.hid (by
    unfold langOf
    refine List.filter_congr fun x _ => ?_
    rw [Bool.not_not])
  have hp := livelyB_le L ps
  clear hs hz hb hs1 hsh
  generalize livelyB L ps = p at *
  generalize avoidingWords L ps n = ws at *
  go_enter Tryz.func49, Tryz.ntmps49
  go_wp2_with fail
  refine HP.out.mono ?_
  rintro e w1 ⟨rfl, hb1⟩
  rw [World.size_alloc] at hb1
  have hs1 : w.heap.size + 1 ≤ w1.heap.size := by have := hb1.size; rw [World.size_alloc] at this; exact this
  have HB1 : Hid (Below w.heap.size w w1) := Lib.hid (HB.out.trans (hb1.mono (by omega)))
  obtain ⟨x0, x1⟩ := HX.out w1 hb1
  have hB2 := (Below.refl w1.heap.size w1).alloc (Nat.le_refl _) (.cells #[.int .u16 (p : Int)] 78)
  have y0 := (hB2.cell (p := ⟨w.heap.size, 0, none⟩) (by show w.heap.size < w1.heap.size; omega)).trans x0
  have y1 := (hB2.cell (p := ⟨w.heap.size, 1, none⟩) (by show w.heap.size < w1.heap.size; omega)).trans x1
  have HA2 := Lib.hid (HA.out _ (HB1.out.trans (hB2.mono (by omega))))
  have HT := Lib.hid (test_cover p (by omega) w1.heap.size (w1.alloc (.cells #[.int .u16 (p : Int)] 78)) (by simp))
  have HB2 := Lib.hid (HB1.out.trans (hB2.mono (by omega)))
  clear hb1 x0 x1 hB2
  go_wp2_with fail
  refine HA2.out.mono ?_
  rintro e w2 ⟨v, rfl, ho2, hb2⟩
  rw [World.size_alloc] at ho2 hb2
  have hs2 : w1.heap.size + 1 ≤ w2.heap.size := by have := hb2.size; rw [World.size_alloc] at this; exact this
  have HS := Lib.hid (strike_list (w1.heap.size + 1) _ _ _ enters_cover _ _ HT.out ws HW.out HLen.out v w2 hb2 hs2 ho2)
  clear ho2 hb2
  go_wp2_with fail
  refine HS.out.mono ?_
  rintro e w3 ⟨v3, rfl, ho3, hb3⟩
  rw [HF.out] at ho3
  have HP3 : Hid (ListPost (langOf L ps n) w (.returned v3) w3) := Lib.hid ⟨v3, rfl, ho3.mono (by omega), HB2.out.trans (hb3.mono (by omega))⟩
  clear ho3 hb3
  go_wp2
  go_ret
  exact HP3.out
theorem atCopies_impl_languageOf (W : World) (hsh : W.ShapedOpen Tryz.prog) (L : Int) (xs : List ByteArray) (n : Int) : AtCopiesL W 49 L xs n (langOf L xs n) :=
  fun g c w' hB hl ht hst hg => impl_languageOf L n (some ⟨g, 0, none⟩) c xs hl (fun k hk => by have := size_le_total hk; omega) w' (.of hst hg) (fun _ h => shape_next hsh (below_after hB h))
end Go.Proofs.YtalclebehbdliaaGreatDoor
