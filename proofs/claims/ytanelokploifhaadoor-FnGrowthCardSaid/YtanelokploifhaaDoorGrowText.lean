/-
  The model's GrowthText: the bytes that the plain words say; nothing that was there before is changed.
-/
import Derived.Test.YtanelokploifhaaDoorModelTexts
import Derived.Test.YtanelokploifhaaDoorWordTexts
namespace Go.Proofs.YtanelokploifhaaDoor
open Go Go.RowKit

def slashB : ByteArray := ⟨#[47]⟩
def textG (m : List (List Int)) (d : Int) : ByteArray := if floorS m d < 0 then ⟨#[]⟩ else (⟨(Lib.itoa (floorS m d)).toArray⟩ ++ slashB) ++ ⟨(Lib.itoa d).toArray⟩

theorem floorS_in {m : List (List Int)} {d : Int} (h : ¬ floorS m d < 0) : smallM m = true ∧ 1 ≤ d ∧ d ≤ 100 := by
  unfold floorS at h
  split at h
  · next hc =>
    rw [Bool.and_eq_true, decide_eq_true_iff] at hc
    exact hc
  · omega

set_option maxRecDepth 100000 in
set_option maxHeartbeats 800000 in
theorem spec_growthText (A : Option Addr) (c : Nat) (m : List (List Int)) (hn : m.length ≤ 1048576) (ht : ∀ k, k < m.length → (m.getD k []).length ≤ 1099511627776) (d : Int) (w : World) (hg : GridS w A m) :
    Calls Tryd.prog 18 #[.slice A m.length c, .int .i64 d] w (Scalar (.string (textG m d)) w) := by
  have HF := Lib.hid (spec_floor A c m hn ht d w hg)
  obtain ⟨x0, x1⟩ := floorS_range m d
  have HT : Hid (textG m d = if floorS m d < 0 then ⟨#[]⟩ else (⟨(Lib.itoa (floorS m d)).toArray⟩ ++ slashB) ++ ⟨(Lib.itoa d).toArray⟩) := Lib.hid rfl
  clear hg ht
  by_cases h0 : floorS m d < 0
  · generalize textG m d = t at *
    generalize floorS m d = x at *
    have HV : Hid (t = ⟨#[]⟩) := Lib.hid (by rw [HT.out, if_pos h0])
    clear HT
    go_enter Tryd.func18, Tryd.ntmps18
    go_wp2_with fail
    refine HF.out.mono ?_
    rintro e w1 ⟨rfl, hb1⟩
    go_wp2
    go_ret
    exact ⟨by rw [HV.out]; rfl, hb1⟩
  · obtain ⟨_, hd1, hd2⟩ := floorS_in h0
    have h1 : (⟨(Lib.itoa (floorS m d)).toArray⟩ : ByteArray).size ≤ 21 := itoaB_size (by omega) (by omega)
    have h2 : (⟨(Lib.itoa d).toArray⟩ : ByteArray).size ≤ 21 := itoaB_size (by omega) (by omega)
    have D1 := Lib.hid (fun w => spec_fmt (floorS m d) (by omega) (by omega) w)
    have D2 := Lib.hid (fun w => spec_fmt d (by omega) (by omega) w)
    generalize textG m d = t at *
    generalize floorS m d = x at *
    obtain ⟨u, hu⟩ : ∃ u : ByteArray, ⟨(Lib.itoa x).toArray⟩ = u := ⟨_, rfl⟩
    obtain ⟨v, hv⟩ : ∃ v : ByteArray, ⟨(Lib.itoa d).toArray⟩ = v := ⟨_, rfl⟩
    rw [hu] at D1 HT h1
    rw [hv] at D2 HT h2
    clear hu hv
    unfold slashB at HT
    have HV : Hid (t = (u ++ ⟨#[47]⟩) ++ v) := Lib.hid (by rw [HT.out, if_neg h0])
    have s0 : (⟨#[47]⟩ : ByteArray).size = 1 := rfl
    have e1 : ∀ w, (Op.stringOp .add u ⟨#[47]⟩).run Tryd.prog w = .ok (.string (u ++ ⟨#[47]⟩)) w := fun w => run_string_add_sum w _ _ (by omega)
    have e2 : ∀ w, (Op.stringOp .add (u ++ ⟨#[47]⟩) v).run Tryd.prog w = .ok (.string ((u ++ ⟨#[47]⟩) ++ v)) w := fun w => run_string_add_sum w _ _ (by rw [ByteArray.size_append]; omega)
    clear HT h1 h2 s0
    go_enter Tryd.func18, Tryd.ntmps18
    go_wp2_with fail
    refine HF.out.mono ?_
    rintro e w1 ⟨rfl, hb1⟩
    have HB1 := Lib.hid hb1
    clear hb1
    go_wp2_with fail
    refine (D1.out w1).mono ?_
    rintro e w2 ⟨rfl, hb2⟩
    have HB2 := Lib.hid (below_behind HB1.out hb2)
    clear hb2
    go_wp2_with fail
    refine (D2.out w2).mono ?_
    rintro e w3 ⟨rfl, hb3⟩
    have HB3 := Lib.hid (below_behind HB2.out hb3)
    clear hb3
    go_wp2
    go_ret
    exact ⟨by have := HV.out; simp [this], HB3.out⟩
theorem specV_growthText {m : List (List Int)} (hz : SizeB m) (d : Int) {v : Value} {w : World} (h : GridV w v m) : Calls Tryd.prog 18 #[v, .int .i64 d] w (Scalar (.string (textG m d)) w) := by
  obtain ⟨A, c, rfl, hg⟩ := h
  obtain ⟨h1, _, h3⟩ := rows_le hz
  exact spec_growthText A c m h1 h3 d w hg
theorem atSpec_growthText (W : World) (m : List (List Int)) (d : Int) : ∀ v w', Below W.heap.size W w' → SizeB m → OwnG w' W.heap.size v m → Calls Tryd.prog 18 #[v, .int .i64 d] w' (Scalar (.string (textG m d)) w') := fun _ _ _ hz ho => specV_growthText hz d ho.gridV
end Go.Proofs.YtanelokploifhaaDoor
