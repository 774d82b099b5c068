/-
  The law on Join: at every slice of strings and every separator it returns true; nothing that was there before is changed.
-/
import Derived.Test.YtomaanpmjlgpfaaDoorJoinSpec
import Derived.Test.YtomaanpmjlgpfaaDoorShelfJ
namespace Go.Proofs.YtomaanpmjlgpfaaDoor
open Go Go.RowKit

set_option maxRecDepth 100000 in
set_option maxHeartbeats 400000 in
theorem impl_join (b off c : Nat) (xs : List ByteArray) (sep : ByteArray) (hn : xs.length ≤ 1099511627776) (hcap : xs.length ≤ c) (hlim : sep.size * xs.length + total xs ≤ 8796093022208) (w : World) (hc : StrsAt w b off xs) (hb : b < w.heap.size) :
    Calls Tryd.prog 21 #[.slice (some ⟨b, off, none⟩) xs.length c, .string sep] w (StrPost (joinOf xs sep) w) := by
  have hl := joinOf_length xs sep
  have h := Tryd.strings_Join b off c xs sep w (fun j x hj => by
    obtain ⟨hj1, hj2⟩ := List.getElem?_eq_some_iff.1 hj
    have := hc j hj1
    rw [this]
    simp [List.getD, hj]) hb (by omega) hcap (by unfold joinOf at hl; omega)
  have H := Lib.hid h
  clear h hl hc
  go_enter Tryd.func21, Tryd.ntmps21
  go_wp2_with fail
  refine H.out.mono ?_
  rintro e w1 ⟨rfl, hb1⟩
  go_wp2
  go_ret
  exact ⟨rfl, hb1⟩

end Go.Proofs.YtomaanpmjlgpfaaDoor
