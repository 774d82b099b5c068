/-
  The program's ReachOf, ComponentsOf and IsIrreducible: what the plain words say, tables in new memory; nothing that was there before is changed.
-/
import Derived.Test.YtanelokploifhaaDoorStepI
import Derived.Test.YtanelokploifhaaDoorPerNum
import Derived.Test.YtanelokploifhaaDoorModelTexts
import Derived.Test.YtanelokploifhaaDoorRowSums
namespace Go.Proofs.YtanelokploifhaaDoor
open Go Go.RowKit

theorem ownG_nil (w : World) (B : Nat) : OwnG w B (.slice none 0 0) [] := ⟨[], ⟨rfl, .inl ⟨rfl, rfl⟩⟩, RowsOwn.nil _ _ _⟩
def reachF (m : List (List Int)) : Nat → Nat → Int := fun i j => bI (reachB m i j)
theorem reachF_next (m : List (List Int)) (k : Nat) : tabOf (k + 1) m.length (reachF m) = tabOf k m.length (reachF m) ++ [onesS (rchS m k) m.length] := by
  rw [tabOf_next]
  congr 2
  refine List.map_congr_left fun j hj => ?_
  rw [rchS_bit m k (List.mem_range.1 hj)]; rfl
theorem reachF_all (m : List (List Int)) : tabOf m.length m.length (reachF m) = reachM m := rfl

set_option maxRecDepth 100000 in
set_option maxHeartbeats 3200000 in
theorem impl_reachOf (A : Option Addr) (c : Nat) (m : List (List Int)) (hn : m.length ≤ 1099511627776) (ht : ∀ k, k < m.length → (m.getD k []).length ≤ 1099511627776) (w : World) (hg : GridS w A m) :
    Calls Tryd.prog 73 #[.slice A m.length c] w (NewG (reachS m) w) := by
  have HI := Lib.hid (impl_isMatrix A c m hn ht w hg)
  unfold reachS
  cases hm : isMat m with
  | false =>
    rw [hm] at HI
    rw [if_neg (by decide)]
    clear hg ht hm
    go_enter Tryd.func73, Tryd.ntmps73
    go_wp2_with fail
    refine HI.out.mono ?_
    rintro e w1 ⟨rfl, rfl⟩
    go_wp2
    go_ret
    exact ⟨_, rfl, ownG_nil _ _, Below.refl _ _⟩
  | true =>
    rw [hm] at HI
    rw [if_pos rfl]
    have hf := isMat_facts hm
    have hle := hf.le
    obtain ⟨i0, hi, hz0, hz1, hz2⟩ := info_parts infoSl
    have HST := Lib.hid (impl_stepOf A c m hf w hg)
    have HRF := Lib.hid (fun v (hv : v < m.length) w' F (hF : StepV w' F m) => impl_reachedFrom m hle v hv w' F hF)
    have HROW := Lib.hid (fun s (hs : s < 512) w' => impl_row s hs m.length hle w')
    have HRL : Hid (∀ v, rchS m v < 512) := Lib.hid fun v => setN_le _ hle
    have HOL : Hid (∀ v, (onesS (rchS m v) m.length).length = m.length) := Lib.hid fun v => onesS_length _ _
    have HNX := Lib.hid (reachF_next m)
    have HEND := Lib.hid (reachF_all m)
    clear hg ht hm hf hn
    generalize reachM m = RM at *
    go_enter Tryd.func73, Tryd.ntmps73
    go_wp2_with fail
    refine HI.out.mono ?_
    rintro e w1 ⟨rfl, hw⟩
    obtain rfl : w = w1 := hw.symm
    go_wp2_with fail
    refine HST.out.mono ?_
    rintro e w1 ⟨F, rfl, hF, hb1⟩
    have HF := Lib.hid hF
    have HB1 := Lib.hid hb1
    clear hF hb1 HST HI
    go_wp2_with (at_make; refine wpList_make_full _ rfl _ _ 24 rfl w1.heap.size 48 i0 (.slice none 0 0) 1 Tryd.underlying24 hi hz0 hz1 .i64 .i64 _ _ m.length rfl rfl rfl rfl (by rw [hz2]; omega) (by unfold maxLen; omega) (Nat.le_refl _) ?_; intro w2 hown hgrow)
    have hown0 : w2.ownsRow w1.heap.size 48 1 (.slice (some ⟨w1.heap.size, 0, none⟩) m.length m.length) m.length ([] ++ List.replicate (m.length - 0) (.slice none 0 0)) := by
      have e : (madeCells (Value.slice none 0 0).cells (m.length * 1)).toList = List.replicate m.length (.slice none 0 0) := by rw [Nat.mul_one]; exact toList_madeCells_one _ _
      rw [List.nil_append, Nat.sub_zero, ← e]; exact hown
    have hbel := grown_below hgrow
    clear hown hgrow
    go_loopw [16] (fun i wr => ∃ (k : Nat) (vs : List Value), k ≤ m.length ∧ i = .int .i64 k ∧ vs.length = k ∧ wr.ownsRow w1.heap.size 48 1 (.slice (some ⟨w1.heap.size, 0, none⟩) m.length m.length) m.length (vs ++ List.replicate (m.length - k) (.slice none 0 0)) ∧ RowsOwn wr w1.heap.size (some w1.heap.size) vs (tabOf k m.length (reachF m)) ∧ Below w1.heap.size w1 wr) (fun i _ => m.length - (intOf i).toNat)
    case atStart => exact ⟨0, [], Nat.zero_le _, rfl, rfl, hown0, RowsOwn.nil _ _ _, hbel⟩
    case round =>
      clear hown0 hbel
      obtain ⟨k, vs, hk, rfl, hvs, ho, hr, hbl⟩ := hrel
      by_cases hlt : k < m.length
      · have HT := Lib.hid (HNX.out k)
        have HC1 := Lib.hid (HRF.out k hlt wr F (HF.out.below hbl))
        have HC2 := Lib.hid (HROW.out (rchS m k) (HRL.out k))
        have HXL := Lib.hid (HOL.out k)
        have hgs := (ho.lt w1.heap.size rfl).2
        have HO := Lib.hid ho
        have HR := Lib.hid hr
        have HB := Lib.hid hbl
        clear ho hr hbl
        generalize onesS (rchS m k) m.length = x at *
        generalize rchS m k = s at *
        go_wp2_with fail
        refine HC1.out.mono ?_
        rintro e w3 ⟨rfl, b3⟩
        go_wp2_with fail
        refine (HC2.out _).mono ?_
        rintro e w4 ⟨v, rfl, hr4, b4⟩
        have b34 := below_behind b3 b4
        have hs3 := b3.size
        have HR4 := Lib.hid hr4
        have HB34 := Lib.hid b34
        clear b3 b4 b34 hr4
        have hr4 := HR4.out
        unfold OwnA at hr4
        rw [HXL.out] at hr4
        obtain ⟨A2, c2, rfl⟩ := slice_of_owns hr4
        have b2 := HB34.out
        have hgl := hr4.lt
        have hold : (vs ++ List.replicate (m.length - k) (Value.slice none 0 0))[k]? = some (.slice none 0 0) := by
          rw [List.getElem?_append_right (by omega), hvs, Nat.sub_self, List.getElem?_replicate, if_pos (by omega)]
        have ho2 := HO.out.kept (row := none) (w' := w4) ⟨b2.os, b2.tape, b2.output, b2.size, fun j hj _ => b2.block j hj⟩ (Or.inr (by intro h; cases h))
        have hc2 := (ho2.cellAt k (by omega)).trans hold
        have hf2 := ho2.frozenAt k
        have hst := ho2.stored k (.slice A2 m.length c2)
        have hset : (vs ++ List.replicate (m.length - k) (Value.slice none 0 0)).set k (.slice A2 m.length c2) = (vs ++ [.slice A2 m.length c2]) ++ List.replicate (m.length - (k + 1)) (.slice none 0 0) := by
          rw [List.set_append_right _ _ (by omega), hvs, Nat.sub_self, show m.length - k = (m.length - (k + 1)) + 1 by omega, List.replicate_succ]
          simp
        rw [hset] at hst
        have HS := Lib.hid hst.1
        have HP : Hid (RowsOwn (w4.setCell ⟨w1.heap.size, k, none⟩ (.slice A2 m.length c2)) w1.heap.size (some w1.heap.size) (vs ++ [.slice A2 m.length c2]) (tabOf k m.length (reachF m) ++ [x])) := Lib.hid (by
          refine ((HR.out.below b2).push (by rw [HXL.out]; exact World.ownsRow.mono hr4 (by omega)) ?_ (fun j s hj => ?_)).keptOuter hst.2
          · cases e : (Value.slice A2 m.length c2).ownBlock with
            | none => exact Or.inl rfl
            | some g =>
              refine Or.inr fun h => ?_
              have := Option.some.inj h
              have := hgl g e
              omega
          · cases e : s.ownBlock with
            | none => exact Or.inl rfl
            | some g =>
              refine Or.inr fun h => ?_
              have := (HR.out.lt hj g e).2
              have := hgl g h.symm
              omega)
        have HB5 := Lib.hid ((HB.out.trans (b2.mono HB.out.size)).setCell (p := ⟨w1.heap.size, k, none⟩) (by simp) (Value.slice A2 m.length c2))
        clear hst hr4 ho2 hgl b2 hold hset
        go_wp2
        go_roundw
        case rel => exact ⟨k + 1, _, by omega, by go_num, by simp [hvs], HS.out, by rw [HT.out]; exact HP.out, HB5.out⟩
        case measure => simp [intOf]; omega
      · obtain rfl : k = m.length := by omega
        rw [Nat.sub_self, List.replicate_zero, List.append_nil] at ho
        rw [HEND.out] at hr
        have HE := Lib.hid (congrArg List.length HEND.out)
        rw [tabOf_length] at HE
        have HO := Lib.hid ho
        have HR := Lib.hid hr
        have HB := Lib.hid hbl
        clear ho hr hbl
        go_wp2
        go_ret
        exact ⟨_, rfl, OwnG.mono ⟨vs, by rw [← HE.out]; exact HO.out, HR.out⟩ HB1.out.size, below_behind HB1.out HB.out⟩
end Go.Proofs.YtanelokploifhaaDoor
