/-
  The model's IsGrowthless, by components: what the plain words say; nothing that was there before is changed.
-/
import Derived.Test.YtanelokploifhaaMidTexts
import Derived.Test.YtanelokploifhaaCompList
import Derived.Test.YtanelokploifhaaPolySpec
import Derived.Test.YtanelokploifhaaGridRoom
namespace Go.Proofs.Ytanelokploifhaa
open Go Go.RowKit

theorem bl8 {w w1 w2 : World} (h : Below w.heap.size w w1) (k : Below w1.heap.size w1 w2) : Below w.heap.size w w2 := h.trans (k.mono h.size)
theorem comp_in {m : List (List Int)} {l : List Int} (h : l ∈ compS m) : l.length ≤ m.length ∧ ∀ k, k < l.length → 0 ≤ l.getD k 0 ∧ l.getD k 0 < (m.length : Int) := by
  unfold compS at h
  split at h
  · unfold compM at h
    obtain ⟨ll, h1, h2⟩ := List.mem_flatten.1 h
    obtain ⟨i, _, rfl⟩ := List.mem_map.1 h1
    unfold compList at h2
    split at h2
    · rw [List.mem_singleton] at h2
      subst h2
      have hle : (compRow m i).length ≤ m.length := Nat.le_trans (List.length_filter_le _ _) (by simp)
      refine ⟨by rw [List.length_map]; exact hle, fun k hk => ?_⟩
      rw [List.length_map] at hk
      rw [List.getD_eq_getElem?_getD, List.getElem?_map, List.getElem?_eq_getElem hk]
      have h3 := List.mem_range.1 (List.mem_filter.1 (List.getElem_mem hk)).1
      show 0 ≤ (((compRow m i)[k] : Nat) : Int) ∧ (((compRow m i)[k] : Nat) : Int) < (m.length : Int)
      omega
    · cases h2
  · cases h

set_option maxRecDepth 100000 in
set_option maxHeartbeats 1600000 in
theorem spec_light (A : Option Addr) (c : Nat) (m : List (List Int)) (hm : smallM m = true) (w : World) (hg : GridS w A m) :
    Calls Try.prog 41 #[.slice A m.length c] w (Scalar (.bool (lightB m)) w) := by
  obtain ⟨hmat, h4, _⟩ := small_facts hm
  have hf := isMat_facts hmat
  have htot : tot m ≤ 1048576 := by
    have := tot_le_of (m := m) (n := 9) fun r hr => by
      obtain ⟨i, hi, rfl⟩ := List.getElem_of_mem hr
      have e : m.getD i [] = m[i] := by simp [List.getD, hi]
      have := hf.row i hi
      rw [e] at this
      have := hf.le
      omega
    omega
  have HC := Lib.hid (spec_components A c m (by omega) htot w hg)
  have HG := Lib.hid hg
  have HIN := Lib.hid (fun l h => comp_in (m := m) (l := l) h)
  have HP : Hid (∀ (l : List Int) (Al : Option Addr) (cl : Nat) (w' : World), l ∈ compS m → Below w.heap.size w w' → RowS w' Al l → Calls Try.prog 48 #[.slice A m.length c, .slice Al l.length cl] w' (NewG (partM m l) w')) := Lib.hid fun l Al cl w' hl hb hr => spec_part A c m hf Al cl l (by have := (comp_in hl).1; omega) (comp_in hl).2 w' (HG.out.below hb) hr
  have HSM : Hid (∀ (l : List Int) (A' : Option Addr) (c' : Nat) (w' : World), l ∈ compS m → GridS w' A' (partM m l) → Calls Try.prog 55 #[.slice A' l.length c'] w' fun e w2 => e = .returned (.int .i64 (sumM (partM m l))) ∧ w2 = w') := Lib.hid fun l A' c' w' hl hg' => by
    have h1 := (comp_in hl).1
    have e := (part_rows m l).1
    have h := spec_sumOf A' c' (partM m l) (by omega) (fun k hk => by rw [e] at hk; rw [(part_rows m l).2 k hk]; omega) w' hg'
    rw [e] at h
    exact h
  have HPL := Lib.hid (fun l => (part_rows m l).1)
  have HALL : Hid (lightB m = (compS m).all fun l => decide (sumM (partM m l) = (l.length : Int))) := Lib.hid rfl
  have hcl : (compS m).length ≤ 9 := by
    unfold compS
    rw [if_pos hmat]
    have := compM_len m m.length
    omega
  clear hg hf hmat htot hm
  generalize compS m = cs at *
  go_enter Try.func41, Try.ntmps41
  go_wp2_with fail
  refine HC.out.mono ?_
  rintro e w1 ⟨v1, rfl, ho1, hb1⟩
  obtain ⟨A1, c1, rfl, hg1⟩ := ho1.gridC
  have HG1 := Lib.hid hg1
  have HB1 := Lib.hid hb1
  clear ho1 hb1 hg1 HC
  go_wp2
  go_loopw [4] (fun kv wr => ∃ k : Nat, k ≤ cs.length ∧ kv = .int .i64 (k : Int) ∧ Hid (∀ i, i < k → sumM (partM m (cs.getD i [])) = ((cs.getD i []).length : Int)) ∧ Hid (Below w1.heap.size w1 wr)) (fun kv _ => cs.length - (intOf kv).toNat)
  case atStart => exact ⟨0, Nat.zero_le _, rfl, Lib.hid (fun i hi => by omega), Lib.hid (Below.refl _ _)⟩
  case round =>
    obtain ⟨k, hk, rfl, hno, hbl⟩ := hrel
    by_cases hlt : k < cs.length
    · obtain ⟨b, off, Al, cl, rfl, k1, hr, _, hbb⟩ := HG1.out.rowAt hlt
      have hmem : cs.getD k [] ∈ cs := by
        rw [List.getD_eq_getElem?_getD, List.getElem?_eq_getElem hlt]; exact List.getElem_mem hlt
      have hll := (HIN.out _ hmem).1
      have x0 := (hbl.out.cell (p := ⟨b, off + k, none⟩) hbb).trans k1
      have HCELL : Hid (∀ w', Below wr.heap.size wr w' → w'.cell? ⟨b, off + k, none⟩ = some (.slice Al (cs.getD k []).length cl)) := Lib.hid fun w' hb => (hb.cell (p := ⟨b, off + k, none⟩) (by have := hbl.out.size; show b < _; omega)).trans x0
      have C1 := Lib.hid (fun w' (hb : Below wr.heap.size wr w') => HP.out (cs.getD k []) Al cl w' hmem (below_behind HB1.out (bl8 hbl.out hb)) (hr.below (bl8 hbl.out hb)))
      have C2 := Lib.hid (fun A' c' w' => HSM.out (cs.getD k []) A' c' w' hmem)
      have HPL1 := Lib.hid (HPL.out (cs.getD k []))
      have HNX : Hid (sumM (partM m (cs.getD k [])) = ((cs.getD k []).length : Int) → ∀ i, i < k + 1 → sumM (partM m (cs.getD i [])) = ((cs.getD i []).length : Int)) := Lib.hid fun h i hi => by
        by_cases e : i = k
        · subst e; exact h
        · exact hno.out i (by omega)
      have HBAD : Hid (¬ sumM (partM m (cs.getD k [])) = ((cs.getD k []).length : Int) → lightB m = false) := Lib.hid fun h => by
        rw [HALL.out, Bool.eq_false_iff]
        intro hh
        exact h (of_decide_eq_true (List.all_eq_true.1 hh _ hmem))
      clear hr k1 hno hmem
      generalize hln : cs.getD k [] = l at *
      clear hln
      generalize sumM (partM m l) = s at *
      generalize partM m l = pt at *
      generalize l.length = ll at *
      go_wp2
      go_region_held3 (fun w' => w'.cell? ⟨b, off + k, none⟩ = some (.slice Al ll cl)) (first | exact z0 | exact y0 | exact x0 | go_keep) (first | (go_at_call 48; refine (C1.out _ (by first | exact Below.refl _ _ | exact (Below.refl _ _).drew | exact below_drewN (Below.refl _ _) 1)).mono ?_; rintro e w6 ⟨v6, rfl, ho6, hb6⟩; obtain ⟨A6, c6, rfl, hg6⟩ := ho6.gridS; rw [HPL1.out]; have hq6 : Below wr.heap.size wr w6 := (below_drewN (Below.refl _ _) 1).trans hb6; have y0 := HCELL.out w6 hq6; have HQ6 := Lib.hid hq6; clear hb6 hq6) | (go_at_call 55; refine (C2.out A6 c6 w6 hg6).mono ?_; rintro e w7 ⟨rfl, rfl⟩; have z0 := y0))
      by_cases hs : s = (ll : Int)
      · have hne : (s != (ll : Int)) = false := by rw [hs]; simp
        have HN := Lib.hid (HNX.out hs)
        have HBN := Lib.hid (bl8 hbl.out HQ6.out)
        go_wp2
        go_roundw
        case rel => exact ⟨k + 1, by omega, by go_num, HN, HBN⟩
        case measure => simp [intOf]; omega
      · have hne : (s != (ll : Int)) = true := by rw [bne_iff_ne]; exact hs
        have HB : Hid (lightB m = false) := Lib.hid (HBAD.out hs)
        have HBN := Lib.hid (below_behind HB1.out (bl8 hbl.out HQ6.out))
        go_wp2
        go_ret
        exact ⟨by rw [HB.out]; rfl, HBN.out⟩
    · obtain rfl : k = cs.length := by omega
      have HB : Hid (lightB m = true) := Lib.hid (by
        rw [HALL.out, List.all_eq_true]
        intro l hl
        obtain ⟨i, hi, rfl⟩ := List.getElem_of_mem hl
        have := hno.out i hi
        rw [List.getD_eq_getElem?_getD, List.getElem?_eq_getElem hi] at this
        exact decide_eq_true this)
      have HBN := Lib.hid (below_behind HB1.out hbl.out)
      clear hno
      go_wp2
      go_ret
      exact ⟨by rw [HB.out]; rfl, HBN.out⟩

set_option maxRecDepth 100000 in
set_option maxHeartbeats 800000 in
theorem spec_isGrowthless (A : Option Addr) (c : Nat) (m : List (List Int)) (hn : m.length ≤ 1048576) (ht : ∀ k, k < m.length → (m.getD k []).length ≤ 1099511627776) (w : World) (hg : GridS w A m) :
    Calls Try.prog 19 #[.slice A m.length c] w (Scalar (.bool (growthlessS m)) w) := by
  have HI := Lib.hid (spec_isSmall A c m (by omega) ht w hg)
  unfold growthlessS
  cases hm : smallM m with
  | false =>
    rw [hm] at HI
    clear hg ht hm
    go_enter Try.func19, Try.ntmps19
    go_wp2_with fail
    refine HI.out.mono ?_
    rintro e w1 ⟨rfl, rfl⟩
    go_wp2
    go_ret
    exact ⟨rfl, Below.refl _ _⟩
  | true =>
    rw [hm] at HI
    have HL := Lib.hid (spec_light A c m hm w hg)
    rw [Bool.true_and]
    clear hg ht hm
    generalize lightB m = b at *
    go_enter Try.func19, Try.ntmps19
    go_wp2_with fail
    refine HI.out.mono ?_
    rintro e w1 ⟨rfl, hw⟩
    obtain rfl : w = w1 := hw.symm
    clear HI hw
    go_wp2_with fail
    refine HL.out.mono ?_
    rintro e w2 ⟨rfl, hb⟩
    go_wp2
    go_ret
    exact ⟨rfl, hb⟩
end Go.Proofs.Ytanelokploifhaa
