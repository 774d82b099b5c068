/-
  The laws on ParseInt and ParseNumber: at every string they return true, where strconv's variables hold what the program's text lays; nothing that was there before is changed.
-/
import Derived.Test.YtjblpjdfnicjeaaDoorImplRead
namespace Go.Proofs.YtjblpjdfnicjeaaDoor
open Go Go.RowKit

set_option maxRecDepth 100000 in
set_option maxHeartbeats 400000 in
theorem law_parseInt (s : ByteArray) (hs : s.size ≤ 9223372036854775807) (w : World) (ht : Pow w) (he : Errs w) :
    Calls Tryd.prog 7 #[.string s] w fun e w' => e = .returned (.bool true) ∧ Below w.heap.size w w' := by
  by_cases hbig : 1048576 < s.size
  · clear ht he
    go_enter Tryd.func7, Tryd.ntmps7
    go_wp2
    go_ret
    exact ⟨rfl, Below.refl _ _⟩
  have hT := Lib.hid ht
  have hE := Lib.hid he
  have hS := spec_parseInt s hs
  have hI := impl_parseInt s (by omega)
  generalize numV (intOfS s) = v at hS hI
  generalize numB (intOfS s) = b at hS hI
  have HS := Lib.hid hS
  have HI := Lib.hid hI
  clear ht he hS hI
  go_enter Tryd.func7, Tryd.ntmps7
  go_wp2_with fail
  refine (HS.out _).mono ?_
  rintro e w1 ⟨rfl, hb1⟩
  go_wp2_with fail
  refine (HI.out _ (hT.out.below hb1) (hE.out.below hb1)).mono ?_
  rintro e w2 ⟨rfl, hb2⟩
  go_wp2
  go_ret
  exact ⟨rfl, hb1.trans (hb2.mono hb1.size)⟩

set_option maxRecDepth 100000 in
set_option maxHeartbeats 400000 in
theorem law_parseNumber (s : ByteArray) (hs : s.size ≤ 9223372036854775807) (w : World) (ht : Pow w) (he : Errs w) :
    Calls Tryd.prog 6 #[.string s] w fun e w' => e = .returned (.bool true) ∧ Below w.heap.size w w' := by
  by_cases hbig : 1048576 < s.size
  · clear ht he
    go_enter Tryd.func6, Tryd.ntmps6
    go_wp2
    go_ret
    exact ⟨rfl, Below.refl _ _⟩
  have hT := Lib.hid ht
  have hE := Lib.hid he
  have hS := spec_parseNumber s hs
  have hI := impl_parseNumber s (by omega)
  generalize numV (numOfS s) = v at hS hI
  generalize numB (numOfS s) = b at hS hI
  have HS := Lib.hid hS
  have HI := Lib.hid hI
  clear ht he hS hI
  go_enter Tryd.func6, Tryd.ntmps6
  go_wp2_with fail
  refine (HS.out _).mono ?_
  rintro e w1 ⟨rfl, hb1⟩
  go_wp2_with fail
  refine (HI.out _ (hT.out.below hb1) (hE.out.below hb1)).mono ?_
  rintro e w2 ⟨rfl, hb2⟩
  go_wp2
  go_ret
  exact ⟨rfl, hb1.trans (hb2.mono hb1.size)⟩
end Go.Proofs.YtjblpjdfnicjeaaDoor
