/-
  The law on ParseMatrix: where the model's and the program's function answer the same at every copy, the law returns true; nothing that was there before is changed.
-/
import Derived.Test.YtljmghleiijajaaDoorGridLaw
namespace Go.Proofs.YtljmghleiijajaaDoor
open Go Go.RowKit

set_option maxRecDepth 100000 in
set_option maxHeartbeats 3200000 in
theorem law_parseMatrix (s1 : ByteArray) (r : List (List Int)) (b : Bool) (W : World) (z1 : s1.size ≤ 9223372036854775807) (hr : s1.size ≤ 1048576 → SizeB r) 
    (hS : s1.size ≤ 1048576 → ∀ w', Below W.heap.size W w' → Calls Tryd.prog 10 #[.string s1] w' (SpecGB r b w'))
    (hI : s1.size ≤ 1048576 → ∀ w', Below W.heap.size W w' → Calls Tryd.prog 11 #[.string s1] w' (ImplGB r b w')) :
    Calls Tryd.prog 4 #[.string s1] W fun e w' => e = .returned (.bool true) ∧ Below W.heap.size W w' := by
  rcases Nat.lt_or_ge 1048576 s1.size with g1 | g1
  · clear hS hI hr
    go_enter Tryd.func4, Tryd.ntmps4
    go_wp2
    go_ret
    exact ⟨rfl, Below.refl _ _⟩
  have HS := Lib.hid (hS g1)
  have HI := Lib.hid (hI g1)
  have HR := Lib.hid (hr g1)
  have HEQ := Lib.hid (eqV r HR.out)
  have HHD := Lib.hid (heldV r HR.out)
  clear hS hI hr
  go_enter Tryd.func4, Tryd.ntmps4
  have BW0 : Hid (Below W.heap.size W W) := Lib.hid (Below.refl _ _)
  go_wp2_with fail
  refine (HS.out  _ BW0.out  ).mono ?_
  rintro e w1 ⟨vs, rfl, hg, hb⟩
  have L1 : W.heap.size ≤ w1.heap.size := hb.size
  have BW_1 := Lib.hid (below_behind BW0.out hb)
  clear BW0
  clear hb
  have HVS := Lib.hid hg
  clear hg
  have K_1 : Hid (Below w1.heap.size w1 w1) := Lib.hid (Below.refl _ _)
  go_wp2_with fail
  refine (HI.out  _ BW_1.out  ).mono ?_
  rintro e w2 ⟨vg, rfl, hg, hb⟩
  have L2 : w1.heap.size ≤ w2.heap.size := hb.size
  have BW_2 := Lib.hid (below_behind BW_1.out hb)
  clear BW_1
  have K_2 := Lib.hid (below_behind K_1.out hb)
  clear K_1
  clear hb
  have HVG := Lib.hid hg
  clear hg
  have F_2 : Hid (From w1.heap.size w2 w2) := Lib.hid (From.refl _ _)
  go_wp2_with fail
  refine (HEQ.out vg vs _ (HVG.out _ F_2.out).1 (HVS.out.below K_2.out)).mono ?_
  rintro e w3 ⟨rfl, hb⟩
  have L3 : w2.heap.size ≤ w3.heap.size := hb.size
  have BW_3 := Lib.hid (below_behind BW_2.out hb)
  clear BW_2
  have K_3 := Lib.hid (below_behind K_2.out hb)
  clear K_2
  have F_3 := Lib.hid (F_2.out.trans (From.of_below hb))
  clear F_2
  clear hb
  go_wp2_with fail
  refine ((HVG.out _ F_3.out).2).mono ?_
  rintro e w4 ⟨rfl, hm, hw⟩
  have L4 : w3.heap.size ≤ w4.heap.size := hw.size
  clear F_3
  have BW_4 := Lib.hid (BW_3.out.trans ((hw.below (by omega)).mono (by omega)))
  clear BW_3
  have K_4 := Lib.hid (K_3.out.trans ((hw.below (by omega)).mono (by omega)))
  clear K_3
  have M_4 := Lib.hid hm
  clear hm hw
  go_wp2_with fail
  refine (HHD.out vg _ M_4.out).mono ?_
  rintro e w5 ⟨rfl, hb⟩
  have L5 : w4.heap.size ≤ w5.heap.size := hb.size
  have BW_5 := Lib.hid (below_behind BW_4.out hb)
  clear BW_4
  have K_5 := Lib.hid (below_behind K_4.out hb)
  clear K_4
  have M_5 := Lib.hid (M_4.out.below hb)
  clear M_4
  clear hb
  go_wp2_with fail
  refine (HI.out  _ BW_5.out  ).mono ?_
  rintro e w6 ⟨vh, rfl, hg, hb⟩
  have L6 : w5.heap.size ≤ w6.heap.size := hb.size
  have BW_6 := Lib.hid (below_behind BW_5.out hb)
  clear BW_5
  have K_6 := Lib.hid (below_behind K_5.out hb)
  clear K_5
  have M_6 := Lib.hid (M_5.out.below hb)
  clear M_5
  clear hb
  have HVH := Lib.hid (hg _ (From.refl _ _)).1
  clear hg
  go_wp2_with fail
  refine (HEQ.out vh vs _ HVH.out (HVS.out.below K_6.out)).mono ?_
  rintro e w7 ⟨rfl, hb⟩
  have L7 : w6.heap.size ≤ w7.heap.size := hb.size
  have BW_7 := Lib.hid (below_behind BW_6.out hb)
  clear BW_6
  have K_7 := Lib.hid (below_behind K_6.out hb)
  clear K_6
  have M_7 := Lib.hid (M_6.out.below hb)
  clear M_6
  clear hb
  go_wp2_with fail
  refine (HHD.out vg _ M_7.out).mono ?_
  rintro e w8 ⟨rfl, hb⟩
  have L8 : w7.heap.size ≤ w8.heap.size := hb.size
  have BW_8 := Lib.hid (below_behind BW_7.out hb)
  clear BW_7
  have K_8 := Lib.hid (below_behind K_7.out hb)
  clear K_7
  have M_8 := Lib.hid (M_7.out.below hb)
  clear M_7
  clear hb
  go_wp2
  go_ret
  exact ⟨rfl, BW_8.out⟩
end Go.Proofs.YtljmghleiijajaaDoor
