/-
  The program's IsGrowthless, by components: what the plain words say; nothing that was there before is changed.
-/
import Derived.Test.YtanelokploifhaaDoorGrowINum
import Derived.Test.YtanelokploifhaaDoorModelTexts
import Derived.Test.YtanelokploifhaaDoorCompI
import Derived.Test.YtanelokploifhaaDoorTrimI
import Derived.Test.YtanelokploifhaaDoorRowSums
import Derived.Test.YtanelokploifhaaDoorPolyScal
namespace Go.Proofs.YtanelokploifhaaDoor
open Go Go.RowKit

set_option maxRecDepth 100000 in
set_option maxHeartbeats 1600000 in
theorem impl_isGrowthless (A : Option Addr) (c : Nat) (m : List (List Int)) (hn : m.length ≤ 1099511627776) (ht : ∀ k, k < m.length → (m.getD k []).length ≤ 1099511627776) (w : World) (hg : GridS w A m) :
    Calls Tryd.prog 19 #[.slice A m.length c] w (Scalar (.bool (growthlessS m)) w) := by
  have HI := Lib.hid (impl_isSmall A c m hn ht w hg)
  unfold growthlessS
  cases hm : smallM m with
  | false =>
    rw [hm] at HI
    clear hg hn ht hm
    go_enter Tryd.func19, Tryd.ntmps19
    go_wp2_with fail
    refine HI.out.mono ?_
    rintro e w1 ⟨rfl, rfl⟩
    go_wp2
    go_ret
    exact ⟨rfl, Below.refl _ _⟩
  | true =>
    rw [hm] at HI
    obtain ⟨hmat, h4, _⟩ := small_facts hm
    have hf := isMat_facts hmat
    have HC := Lib.hid (impl_componentsOf A c m hn ht w hg)
    have HG := Lib.hid hg
    have HP : Hid (∀ (l : List Int) (Al : Option Addr) (cl : Nat) (w' : World), l ∈ compS m → Below w.heap.size w w' → RowS w' Al l → Calls Tryd.prog 54 #[.slice A m.length c, .slice Al l.length cl] w' (NewG (partM m l) w')) := Lib.hid fun l Al cl w' hl hb hr => impl_part A c m hf Al cl l (by have := (comp_in hl).1; omega) (comp_in hl).2 w' (HG.out.below hb) hr
    have HSM : Hid (∀ (l : List Int) (A' : Option Addr) (c' : Nat) (w' : World), l ∈ compS m → GridS w' A' (partM m l) → Calls Tryd.prog 53 #[.slice A' l.length c'] w' fun e w2 => e = .returned (.int .i64 (sumM (partM m l))) ∧ w2 = w') := Lib.hid fun l A' c' w' hl hg' => by
      have h1 := (comp_in hl).1
      have e := (part_rows m l).1
      have h := impl_sumOf A' c' (partM m l) (by omega) (fun k hk => by rw [e] at hk; rw [(part_rows m l).2 k hk]; omega) w' hg'
      rw [e] at h
      exact h
    have HPL := Lib.hid (fun l => (part_rows m l).1)
    have HGE := Lib.hid (fun l hl => comp_ge hm (l := l) hl)
    have HLE := Lib.hid (fun l hl => (comp_in (m := m) (l := l) hl).1)
    have HEND := Lib.hid (lightTo_all (m := m))
    have HBAD := Lib.hid (fun k hk => light_bad (m := m) (k := k) hk)
    have HT0 : Hid (lightTo m (compS m) 0) := Lib.hid fun i hi => by omega
    have HTN : Hid (∀ k, lightTo m (compS m) k → sumM (partM m ((compS m).getD k [])) = (((compS m).getD k []).length : Int) → lightTo m (compS m) (k + 1)) := Lib.hid fun k h1 h2 i hi => by
      by_cases e : i = k
      · subst e; exact h2
      · exact h1 i (by omega)
    have hcl : (compS m).length ≤ 9 := by
      unfold compS
      rw [if_pos hmat]
      have := compM_len m m.length
      omega
    have HMEM : Hid (∀ k, k < (compS m).length → (compS m).getD k [] ∈ compS m) := Lib.hid fun k hk => by
      rw [List.getD_eq_getElem?_getD, List.getElem?_eq_getElem hk]; exact List.getElem_mem hk
    rw [Bool.true_and]
    clear hg hf hmat hm hn ht
    generalize lightTo m (compS m) = T at *
    generalize lightB m = lb at *
    generalize compS m = cs at *
    go_enter Tryd.func19, Tryd.ntmps19
    go_wp2_with fail
    refine HI.out.mono ?_
    rintro e w1 ⟨rfl, hw⟩
    obtain rfl : w = w1 := hw.symm
    clear HI hw
    go_wp2_with fail
    refine HC.out.mono ?_
    rintro e w1 ⟨v1, rfl, ho1, hb1⟩
    obtain ⟨A1, c1, rfl, hg1⟩ := ho1.gridS
    have HG1 := Lib.hid hg1
    have HB1 := Lib.hid hb1
    have hs1 := hb1.size
    clear ho1 hg1 hb1 HC
    go_wp2
    go_loopw [11] (fun iv wr => ∃ k : Nat, k ≤ cs.length ∧ iv = .int .i64 (k : Int) ∧ Hid (T k) ∧ Hid (Below w1.heap.size w1 wr)) (fun iv _ => cs.length - (intOf iv).toNat)
    case atStart => exact ⟨0, Nat.zero_le _, rfl, HT0, Lib.hid (Below.refl _ _)⟩
    case round =>
      obtain ⟨k, hk, rfl, hT, hbl⟩ := hrel
      by_cases hkl : k < cs.length
      · obtain ⟨b, off, A', c', rfl, hc, hrow, _⟩ := (HG1.out.below hbl.out).row hkl
        have hmem := HMEM.out k hkl
        have HBK := Lib.hid (HB1.out.trans (hbl.out.mono hs1))
        have C1 := Lib.hid (HP.out _ A' c' wr hmem HBK.out hrow)
        have C2 := Lib.hid (fun A2 c2 w' => HSM.out _ A2 c2 w' hmem)
        have HL := Lib.hid (HPL.out (cs.getD k []))
        have hge := HGE.out _ hmem
        have hle := HLE.out _ hmem
        have HN := Lib.hid (HTN.out k hT.out)
        have HBD := Lib.hid (HBAD.out k hkl)
        have hsk := hbl.out.size
        clear hrow hmem
        generalize sumM (partM m (cs.getD k [])) = s at *
        generalize partM m (cs.getD k []) = p at *
        generalize (cs.getD k []).length = n at *
        go_wp2_with fail
        refine C1.out.mono ?_
        rintro e w5 ⟨v5, rfl, ho5, hb5⟩
        obtain ⟨A5, c5, rfl, hg5⟩ := ho5.gridS
        rw [HL.out]
        have C3 := Lib.hid (C2.out A5 c5 w5 hg5)
        have HB5 := Lib.hid (hbl.out.trans (hb5.mono hsk))
        clear ho5 hg5 hb5 C1 C2
        go_wp2_with fail
        refine C3.out.mono ?_
        rintro e w6 ⟨rfl, hw⟩
        obtain rfl : w5 = w6 := hw.symm
        clear hw C3
        by_cases hgt : (n : Int) < s
        · have hgt2 : s > (n : Int) := hgt
          have HF := Lib.hid (HBD.out hgt)
          have HBW := Lib.hid (below_behind HB1.out HB5.out)
          go_wp2
          go_ret
          exact ⟨by rw [HF.out]; rfl, HBW.out⟩
        · have hgt2 : ¬ s > (n : Int) := hgt
          have HT1 := Lib.hid (HN.out (by omega))
          go_wp2
          go_roundw
          case rel => exact ⟨k + 1, by omega, by go_num, HT1, HB5⟩
          case measure => simp [intOf]; omega
      · obtain rfl : k = cs.length := by omega
        have HE := Lib.hid (HEND.out hT.out)
        have HBW := Lib.hid (below_behind HB1.out hbl.out)
        go_wp2
        go_ret
        exact ⟨by rw [HE.out]; rfl, HBW.out⟩
end Go.Proofs.YtanelokploifhaaDoor
