/-
  The program's GrowthText: the bytes that the plain words say; nothing that was there before is changed.
-/
import Derived.Test.YtanelokploifhaaDoorGrowAts
import Derived.Test.YtanelokploifhaaDoorGrowText
import Derived.Test.YtanelokploifhaaDoorFmt
namespace Go.Proofs.YtanelokploifhaaDoor
open Go Go.RowKit

set_option maxRecDepth 100000 in
set_option maxHeartbeats 800000 in
theorem impl_growthText (A : Option Addr) (c : Nat) (m : List (List Int)) (hn : m.length ≤ 1099511627776) (ht : ∀ k, k < m.length → (m.getD k []).length ≤ 1099511627776) (d : Int) (w : World) (hpw : Pow w) (hg : GridS w A m) :
    Calls Tryd.prog 17 #[.slice A m.length c, .int .i64 d] w (Scalar (.string (textG m d)) w) := by
  have HF := Lib.hid (impl_floor A c m hn ht d w hg)
  obtain ⟨x0, x1⟩ := floorS_range m d
  have HT : Hid (textG m d = if floorS m d < 0 then ⟨#[]⟩ else (⟨(Lib.itoa (floorS m d)).toArray⟩ ++ slashB) ++ ⟨(Lib.itoa d).toArray⟩) := Lib.hid rfl
  have HPW := Lib.hid hpw
  clear hg ht hn hpw
  by_cases h0 : floorS m d < 0
  · generalize textG m d = t at *
    generalize floorS m d = x at *
    have HV : Hid (t = ⟨#[]⟩) := Lib.hid (by rw [HT.out, if_pos h0])
    obtain rfl : x = -1 := by omega
    clear HT
    go_enter Tryd.func17, Tryd.ntmps17
    go_wp2_with fail
    refine HF.out.mono ?_
    rintro e w1 ⟨rfl, hb1⟩
    go_wp2
    go_ret
    exact ⟨by rw [HV.out]; rfl, hb1⟩
  · obtain ⟨_, hd1, hd2⟩ := floorS_in h0
    have h1 : (⟨(Lib.itoa (floorS m d)).toArray⟩ : ByteArray).size ≤ 21 := itoaB_size (by omega) (by omega)
    have h2 : (⟨(Lib.itoa d).toArray⟩ : ByteArray).size ≤ 21 := itoaB_size (by omega) (by omega)
    have D1 := Lib.hid (fun w' (hp : Pow w') => impl_fmt (floorS m d) (by omega) (by omega) w' hp)
    have D2 := Lib.hid (fun w' (hp : Pow w') => impl_fmt d (by omega) (by omega) w' hp)
    generalize textG m d = t at *
    generalize floorS m d = x at *
    obtain ⟨u, hu⟩ : ∃ u : ByteArray, ⟨(Lib.itoa x).toArray⟩ = u := ⟨_, rfl⟩
    obtain ⟨v, hv⟩ : ∃ v : ByteArray, ⟨(Lib.itoa d).toArray⟩ = v := ⟨_, rfl⟩
    rw [hu] at D1 HT h1
    rw [hv] at D2 HT h2
    clear hu hv
    unfold slashB at HT
    have HV : Hid (t = (u ++ ⟨#[47]⟩) ++ v) := Lib.hid (by rw [HT.out, if_neg h0])
    have s0 : (⟨#[47]⟩ : ByteArray).size = 1 := rfl
    have e1 : ∀ w, (Op.stringOp .add u ⟨#[47]⟩).run Tryd.prog w = .ok (.string (u ++ ⟨#[47]⟩)) w := fun w => run_string_add_sum w _ _ (by omega)
    have e2 : ∀ w, (Op.stringOp .add (u ++ ⟨#[47]⟩) v).run Tryd.prog w = .ok (.string ((u ++ ⟨#[47]⟩) ++ v)) w := fun w => run_string_add_sum w _ _ (by rw [ByteArray.size_append]; omega)
    have ex : (x == -1) = false := by rw [beq_eq_false_iff_ne]; omega
    clear HT h1 h2 s0
    go_enter Tryd.func17, Tryd.ntmps17
    go_wp2_with fail
    refine HF.out.mono ?_
    rintro e w1 ⟨rfl, hb1⟩
    have HP1 := Lib.hid (HPW.out.below hb1)
    have HB1 := Lib.hid hb1
    have C1 := Lib.hid (D1.out w1 HP1.out)
    clear hb1
    go_wp2_with fail
    refine C1.out.mono ?_
    rintro e w2 ⟨rfl, hb2⟩
    have HP2 := Lib.hid (HP1.out.below hb2)
    have HB2 := Lib.hid (below_behind HB1.out hb2)
    have C2 := Lib.hid (D2.out w2 HP2.out)
    clear hb2
    go_wp2_with fail
    refine C2.out.mono ?_
    rintro e w3 ⟨rfl, hb3⟩
    have HB3 := Lib.hid (below_behind HB2.out hb3)
    clear hb3
    go_wp2
    go_ret
    exact ⟨by have := HV.out; simp [this], HB3.out⟩
theorem atImpl_growthText (W : World) (m : List (List Int)) (d : Int) (hp : Pow W) : ∀ v w', Below W.heap.size W w' → SizeB m → OwnG w' W.heap.size v m → Calls Tryd.prog 17 #[v, .int .i64 d] w' (Scalar (.string (textG m d)) w') := by
  intro v w' hb hz ho
  obtain ⟨A, c, rfl, hg⟩ := ho.gridV
  obtain ⟨h1, _, h3⟩ := rows_le hz
  exact impl_growthText A c m (by omega) h3 d w' (hp.below hb) hg
end Go.Proofs.YtanelokploifhaaDoor
