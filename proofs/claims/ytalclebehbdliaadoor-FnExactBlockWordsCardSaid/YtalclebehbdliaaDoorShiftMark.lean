/-
  A copy of a shift is marked: its number as before, each of its words overwritten; nothing else is changed.
-/
import Derived.Test.YtalclebehbdliaaDoorRowOps
import Derived.Test.YtalclebehbdliaaDoorShiftLaw
namespace Go.Proofs.YtalclebehbdliaaDoor
open Go Go.RowKit

set_option maxRecDepth 100000 in
theorem mark_shift (L : Int) (B g c : Nat) (xs : List ByteArray) (hn : xs.length ≤ 1048576) (w : World) (ho : w.ownsRow B 9 1 (.slice (some ⟨g, 0, none⟩) xs.length c) xs.length (xs.map Value.string)) :
    Calls Tryd.prog 10 #[.agg #[.int .i64 L, .slice (some ⟨g, 0, none⟩) xs.length c], .int .i64 1] w fun e w' => e = .returned (.int .i64 ((1 + xs.length : Nat) : Int)) ∧ OnlyAt B (some ⟨g, 0, none⟩) w w' := by
  have hB := ho.lt g rfl
  have HM := Lib.hid (mark_rows B (some ⟨g, 0, none⟩) c xs hn (w.alloc (.cells #[.int .i64 L, .slice (some ⟨g, 0, none⟩) xs.length c] 27)) (fun _ => ⟨g, rfl, ho.alloc _⟩))
  clear ho
  go_enter Tryd.func10, Tryd.ntmps10
  go_wp2_with fail
  refine HM.out.mono ?_
  rintro e w1 ⟨rfl, _, r, hg, hr⟩
  have HG : Hid (OnlyAt B (some ⟨g, 0, none⟩) w w1) := Lib.hid (by
    refine ⟨r, ?_, hr⟩
    have ha := World.grownBy_alloc w (.cells #[.int .i64 L, .slice (some ⟨g, 0, none⟩) xs.length c] 27) r
    have hsz := ha.size
    exact ⟨hg.os.trans ha.os, hg.tape.trans ha.tape, hg.output.trans ha.output, Nat.le_trans ha.size hg.size, fun k hk hne => (hg.block k (by omega) hne).trans (ha.block k hk hne)⟩)
  clear hg hr
  go_wp2
  go_ret
  exact ⟨rfl, HG.out⟩
end Go.Proofs.YtalclebehbdliaaDoor
