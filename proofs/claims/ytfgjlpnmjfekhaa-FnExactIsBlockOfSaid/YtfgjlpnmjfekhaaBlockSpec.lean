/-
  The model's BlockGraph, PowerGraph and IsBlockOf: what the plain words say, in new memory; nothing that was there before is changed.
-/
import Derived.Test.YtfgjlpnmjfekhaaBlockNum
import Derived.Test.YtfgjlpnmjfekhaaFillF
import Derived.Test.YtfgjlpnmjfekhaaGridLaw
import Derived.Deep.RegionHeld3
import Derived.BigRegion
namespace Go.Proofs.Ytfgjlpnmjfekhaa
open Go Go.RowKit

theorem bit10 (b : Bool) (w : World) : Calls Try.prog 27 #[.bool b] w fun e w' => e = .returned (.int .i64 (if b = true then 1 else 0)) ∧ w' = w := by
  go_enter Try.func27, Try.ntmps27
  cases b with
  | false => go_wp2; go_ret; exact ⟨rfl, rfl⟩
  | true => go_wp2; go_ret; exact ⟨rfl, rfl⟩
theorem bit10_t (w : World) : Calls Try.prog 27 #[.bool true] w fun e w' => e = .returned (.int .i64 1) ∧ w' = w := bit10 true w
theorem bit10_f (w : World) : Calls Try.prog 27 #[.bool false] w fun e w' => e = .returned (.int .i64 0) ∧ w' = w := bit10 false w
theorem cell_far10 {w : World} {a p : Addr} {v u : Value} (hne : p.block ≠ a.block) (h : w.cell? p = some u) : (w.setCell a v).cell? p = some u := by
  have hb := heap_setCell_other w a p.block v hne
  unfold World.cell? at h ⊢
  rw [hb]; exact h
/-- Number j of row i, as OwnG.at, and the row's block is not the table's. -/
theorem OwnG.at10 {w : World} {B : Nat} {v : Value} {m : List (List Int)} (h : OwnG w B v m) {i j : Nat} (hi : i < m.length) (hj : j < (m.getD i []).length) :
    ∃ g cap gi ci, v = .slice (some ⟨g, 0, none⟩) m.length cap ∧ w.cell? ⟨g, i, none⟩ = some (.slice (some ⟨gi, 0, none⟩) (m.getD i []).length ci) ∧ w.cell? ⟨gi, j, none⟩ = some (.int .i64 (cellOf m i j)) ∧ w.frozen? ⟨gi, j, none⟩ = false ∧ B ≤ gi ∧ gi < w.heap.size ∧ g ≠ gi ∧ B ≤ g ∧
      ∀ x : Int, OwnG (w.setCell ⟨gi, j, none⟩ (.int .i64 x)) B v (m.set i ((m.getD i []).set j x)) := by
  obtain ⟨g, cap, gi, ci, rfl, h1, h2, h3, h4, h5, h6⟩ := h.at hi hj
  obtain ⟨vs, ho, hr⟩ := h
  have hv : vs[i]? = some vs[i]! := by
    have := hr.len
    rw [getElem!_pos vs i (by omega)]
    exact List.getElem?_eq_getElem (by omega)
  have hc := (ho.cellAt i (by omega)).trans hv
  rw [h1] at hc
  have hrow := hr.row i _ hv
  rw [← Option.some.inj hc] at hrow
  refine ⟨g, cap, gi, ci, rfl, h1, h2, h3, h4, h5, ?_, (ho.lt g rfl).1, h6⟩
  rcases hrow.2 with e | e
  · cases e
  · intro e2
    exact e (by rw [e2]; rfl)
/-- The two ends of an arc in memory, and where they lie. -/
theorem arc_at10 {w : World} {A : Option Addr} {arcs : List (List Int)} (h : GridS w A arcs) (h2 : ∀ r ∈ arcs, r.length = 2) {k : Nat} (hk : k < arcs.length) :
    ∃ b off b2 off2 c', A = some ⟨b, off, none⟩ ∧ w.cell? ⟨b, off + k, none⟩ = some (.slice (some ⟨b2, off2, none⟩) 2 c') ∧ w.cell? ⟨b2, off2, none⟩ = some (.int .i64 (cellOf arcs k 0)) ∧ w.cell? ⟨b2, off2 + 1, none⟩ = some (.int .i64 (cellOf arcs k 1)) ∧ b < w.heap.size ∧ b2 < w.heap.size := by
  have hl : (arcs.getD k []).length = 2 := by
    have e : arcs.getD k [] = arcs[k] := by simp [List.getD, hk]
    rw [e]; exact h2 _ (List.getElem_mem hk)
  obtain ⟨b, off, A', c', hA, hc, hr, hb⟩ := h.row hk
  obtain ⟨b2, off2, rfl, hat, hb2⟩ := hr (by omega)
  rw [hl] at hc
  exact ⟨b, off, b2, off2, c', hA, hc, hat 0 (by omega), hat 1 (by omega), hb, hb2⟩
theorem arcsOfM_two (m : List (List Int)) : ∀ r ∈ arcsOfM m, r.length = 2 := by
  unfold arcsOfM
  split
  · exact arcsM_two m
  · intro r hr; cases hr

set_option maxRecDepth 100000 in
set_option maxHeartbeats 6400000 in
theorem spec_blockGraph (A0 : Option Addr) (c0 : Nat) (m : List (List Int)) (hn : m.length ≤ 1099511627776) (ht : ∀ k, k < m.length → (m.getD k []).length ≤ 1099511627776) (w : World) (hg : GridS w A0 m) :
    Calls Try.prog 9 #[.slice A0 m.length c0] w (NewGB (blockG m) w) := by
  have HA := Lib.hid (spec_arcsOf A0 c0 m hn ht w hg)
  have h2 := arcsOfM_two m
  unfold blockG
  clear hg ht
  generalize arcsOfM m = arcs at *
  have HIN := Lib.hid (m_in (arcs.length : Int) 1 9)
  by_cases hc : 1 ≤ arcs.length ∧ arcs.length ≤ 9
  · rw [if_pos hc]
    obtain ⟨h1, h9⟩ := hc
    have HZ := Lib.hid (spec_zero arcs.length arcs.length (by omega) (by omega))
    rw [decide_eq_true (show (1 : Int) ≤ (arcs.length : Int) by omega), decide_eq_true (show (arcs.length : Int) ≤ 9 by omega)] at HIN
    obtain ⟨f, hf⟩ : ∃ f : Nat → Nat → Int, (fun i j => if cellOf arcs i 1 = cellOf arcs j 0 then 1 else 0) = f := ⟨_, rfl⟩
    have HF : Hid (∀ i j, f i j = if cellOf arcs i 1 = cellOf arcs j 0 then 1 else 0) := Lib.hid fun i j => by rw [← hf]
    have HFE : Hid (tabOf arcs.length arcs.length f = blockT arcs) := Lib.hid (by rw [← hf]; rfl)
    have HBT := Lib.hid bit10_t
    have HBF := Lib.hid bit10_f
    have H2 := Lib.hid h2
    clear h2 hf
    go_enter Try.func9, Try.ntmps9
    go_wp2_with fail
    refine HA.out.mono ?_
    rintro e w0 ⟨v0, rfl, ho0, b0⟩
    obtain ⟨A1, c1, rfl, hg1⟩ := ho0.gridS
    have B0 := Lib.hid b0
    have H1 := Lib.hid hg1
    clear ho0 b0 hg1
    go_wp2_with fail
    refine (HIN.out w0).mono ?_
    rintro e wi ⟨rfl, hw⟩
    obtain rfl : w0 = wi := hw.symm
    go_wp2_with fail
    refine (HZ.out _).mono ?_
    rintro e w1 ⟨v, rfl, hown, b1⟩
    obtain ⟨A, c, rfl, -⟩ := hown.gridS
    rw [← fillF_zero f] at hown
    rw [tabOf_length] at hown ⊢
    have HO := Lib.hid hown
    have HB1 := Lib.hid b1
    clear hown b1 HZ HA HIN
    go_wp2
    go_loopw [6] (fun iv wr => ∃ i : Nat, i ≤ arcs.length ∧ iv = .int .i64 i ∧ OwnG wr w0.heap.size (.slice A arcs.length c) (tabOf arcs.length arcs.length (fillF f i 0)) ∧ Below w0.heap.size w0 wr) (fun i _ => arcs.length - (intOf i).toNat)
    case atStart => exact ⟨0, Nat.zero_le _, rfl, HO.out, HB1.out⟩
    case round =>
      obtain ⟨i, hi, rfl, hown, hbl⟩ := hrel
      by_cases hil : i < arcs.length
      · have HO1 := Lib.hid hown
        have HB2 := Lib.hid hbl
        clear hown hbl
        obtain ⟨W1, rfl⟩ : ∃ W1 : World, W1 = wr := ⟨_, rfl⟩
        go_wp2
        go_loopw [7] (fun jv wr => ∃ j : Nat, j ≤ arcs.length ∧ jv = .int .i64 j ∧ OwnG wr w0.heap.size (.slice A arcs.length c) (tabOf arcs.length arcs.length (fillF f i j)) ∧ Below w0.heap.size w0 wr) (fun j _ => arcs.length - (intOf j).toNat)
        case atStart => exact ⟨0, Nat.zero_le _, rfl, HO1.out, HB2.out⟩
        case round =>
          obtain ⟨j, hj, rfl, hown, hbl⟩ := hrel
          by_cases hjl : j < arcs.length
          · have hrl : ((tabOf arcs.length arcs.length (fillF f i j)).getD i []).length = arcs.length := by rw [tabOf_row hil]; simp
            obtain ⟨g, cap, gi, ci, hv, k1, k2, kf, kb, kl, kne, kg, hset⟩ := hown.at10 (i := i) (j := j) (by rw [tabOf_length]; exact hil) (by rw [hrl]; exact hjl)
            rw [tabOf_length] at hv
            simp only [Value.slice.injEq, true_and] at hv
            obtain ⟨rfl, rfl⟩ := hv
            rw [hrl] at k1
            obtain ⟨p1, p2, p3, p4, p5, rfl, ka1, ka0, ka2, pb1, pb2⟩ := arc_at10 H1.out H2.out hil
            obtain ⟨q1, q2, q3, q4, q5, hqq, kc1, kc2, kc0, qb1, qb2⟩ := arc_at10 H1.out H2.out hjl
            simp only [Option.some.injEq, Addr.mk.injEq, and_true] at hqq
            obtain ⟨rfl, rfl⟩ := hqq
            have ka1' := (hbl.cell (p := ⟨p1, p2 + i, none⟩) pb1).trans ka1
            have ka2' := (hbl.cell (p := ⟨p3, p4 + 1, none⟩) pb2).trans ka2
            have kc1' := (hbl.cell (p := ⟨p1, p2 + j, none⟩) pb1).trans kc1
            have kc2' := (hbl.cell (p := ⟨q3, q4, none⟩) qb2).trans kc2
            have hs1 := hset (f i j)
            rw [fillF_next f _ i j hil] at hs1
            have hfc := HF.out i j
            have HB4 := Lib.hid hbl
            have n1 : p1 ≠ gi := by omega
            have n2 : p3 ≠ gi := by omega
            have n3 : q3 ≠ gi := by omega
            clear hset hown hbl ka1 ka2 kc1 kc2 ka0 kc0
            generalize cellOf (tabOf arcs.length arcs.length (fillF f i j)) i j = T at *
            generalize cellOf arcs i 1 = x at *
            generalize cellOf arcs j 0 = y at *
            by_cases e : x = y
            · subst e
              rw [if_pos rfl] at hfc
              rw [hfc] at hs1
              have HS := Lib.hid hs1
              clear hs1 hfc
              go_wp2
              go_region_held3 (fun w' => w'.cell? ⟨g, i, none⟩ = some (.slice (some ⟨gi, 0, none⟩) arcs.length ci) ∧ w'.cell? ⟨p1, p2 + i, none⟩ = some (.slice (some ⟨p3, p4, none⟩) 2 p5) ∧ w'.cell? ⟨p3, p4 + 1, none⟩ = some (.int .i64 x) ∧ w'.cell? ⟨p1, p2 + j, none⟩ = some (.slice (some ⟨q3, q4, none⟩) 2 q5) ∧ w'.cell? ⟨q3, q4, none⟩ = some (.int .i64 x)) (first | exact ⟨k1, ka1', ka2', kc1', kc2'⟩ | exact ⟨cell_far10 kne k1, cell_far10 n1 ka1', cell_far10 n2 ka2', cell_far10 n1 kc1', cell_far10 n3 kc2'⟩ | go_keep) (first | (go_at_call 27; refine (HBT.out _).mono ?_; rintro e w2 ⟨rfl, rfl⟩))
              go_wp2
              go_roundw
              case rel => exact ⟨j + 1, by omega, by go_num, HS.out.drew, (HB4.out.setCell kb _).drew⟩
              case measure => simp [intOf]; omega
            · rw [if_neg e] at hfc
              rw [hfc] at hs1
              have HS := Lib.hid hs1
              have hij : (x == y) = false := by rw [beq_eq_false_iff_ne]; exact e
              clear hs1 hfc
              go_wp2
              go_region_held3 (fun w' => w'.cell? ⟨g, i, none⟩ = some (.slice (some ⟨gi, 0, none⟩) arcs.length ci) ∧ w'.cell? ⟨p1, p2 + i, none⟩ = some (.slice (some ⟨p3, p4, none⟩) 2 p5) ∧ w'.cell? ⟨p3, p4 + 1, none⟩ = some (.int .i64 x) ∧ w'.cell? ⟨p1, p2 + j, none⟩ = some (.slice (some ⟨q3, q4, none⟩) 2 q5) ∧ w'.cell? ⟨q3, q4, none⟩ = some (.int .i64 y)) (first | exact ⟨k1, ka1', ka2', kc1', kc2'⟩ | exact ⟨cell_far10 kne k1, cell_far10 n1 ka1', cell_far10 n2 ka2', cell_far10 n1 kc1', cell_far10 n3 kc2'⟩ | go_keep) (first | (go_at_call 27; refine (HBF.out _).mono ?_; rintro e w2 ⟨rfl, rfl⟩))
              go_wp2
              go_roundw
              case rel => exact ⟨j + 1, by omega, by go_num, HS.out.drew, (HB4.out.setCell kb _).drew⟩
              case measure => simp [intOf]; omega
          · obtain rfl : j = arcs.length := by omega
            rw [fillF_row] at hown
            have HO3 := Lib.hid hown
            clear hown
            go_wp2
            go_roundw
            case rel => exact ⟨i + 1, by omega, by go_num, HO3.out, hbl⟩
            case measure => simp [intOf]; omega
      · obtain rfl : i = arcs.length := by omega
        rw [fillF_all, HFE.out] at hown
        have hs0 := B0.out.size
        have HO3 := Lib.hid (hown.mono hs0)
        have HB3 := Lib.hid (below_behind B0.out hbl)
        clear hown hbl
        go_wp2
        go_ret2
        exact ⟨_, rfl, HO3.out, HB3.out⟩
  · rw [if_neg hc]
    have hc2 : (decide ((1 : Int) ≤ (arcs.length : Int)) && decide ((arcs.length : Int) ≤ 9)) = false := by
      rw [Bool.and_eq_false_iff, decide_eq_false_iff_not, decide_eq_false_iff_not]; omega
    rw [hc2] at HIN
    clear h2 hc hc2
    go_enter Try.func9, Try.ntmps9
    go_wp2_with fail
    refine HA.out.mono ?_
    rintro e w0 ⟨v0, rfl, ho0, b0⟩
    obtain ⟨A1, c1, rfl, hg1⟩ := ho0.gridS
    have B0 := Lib.hid b0
    have hs0 := b0.size
    have HE := Lib.hid ((ownG_empty w0).mono hs0)
    clear ho0 b0 hg1
    go_wp2_with fail
    refine (HIN.out w0).mono ?_
    rintro e w1 ⟨rfl, rfl⟩
    go_wp2
    go_ret2
    exact ⟨_, rfl, HE.out, below_behind B0.out below_new⟩

set_option maxRecDepth 100000 in
set_option maxHeartbeats 800000 in
theorem spec_powerGraph (A1 : Option Addr) (c1 : Nat) (m : List (List Int)) (hl : m.length ≤ 1048576) (ht : tot m ≤ 1048576) (n : Int) (w : World) (h1 : GridS w A1 m) :
    Calls Try.prog 15 #[.slice A1 m.length c1, .int .i64 n] w (NewGB (powG m n) w) := by
  have HP := Lib.hid (spec_power A1 c1 m hl ht n w h1)
  have HIN := Lib.hid (m_in n 1 30)
  unfold powG
  clear h1
  by_cases hn : 1 ≤ n ∧ n ≤ 30
  · rw [if_pos hn]
    rw [decide_eq_true hn.1, decide_eq_true hn.2] at HIN
    generalize powS m n = o at *
    go_enter Try.func15, Try.ntmps15
    go_wp2_with fail
    refine (HIN.out _).mono ?_
    rintro e w1 ⟨rfl, rfl⟩
    go_wp2_with fail
    refine HP.out.mono ?_
    rintro e w1 ⟨v, rfl, ho, hb⟩
    obtain ⟨A, c, rfl, -⟩ := ho.gridS
    have HO := Lib.hid ho
    clear ho
    go_wp2
    go_ret2
    exact ⟨_, rfl, HO.out, hb⟩
  · rw [if_neg hn]
    have hc2 : (decide (1 ≤ n) && decide (n ≤ 30)) = false := by
      rw [Bool.and_eq_false_iff, decide_eq_false_iff_not, decide_eq_false_iff_not]; omega
    rw [hc2] at HIN
    have HE := Lib.hid (ownG_empty w)
    clear HP hn hc2
    go_enter Try.func15, Try.ntmps15
    go_wp2_with fail
    refine (HIN.out _).mono ?_
    rintro e w1 ⟨rfl, rfl⟩
    go_wp2
    go_ret2
    exact ⟨_, rfl, HE.out, below_new⟩

set_option maxRecDepth 100000 in
set_option maxHeartbeats 800000 in
theorem spec_isBlockOf (A1 A2 : Option Addr) (c1 c2 : Nat) (m n : List (List Int)) (hl : m.length ≤ 1048576) (ht : tot m ≤ 1048576) (hn : tot n ≤ 1048576) (w : World) (h1 : GridS w A1 m) (h2 : GridS w A2 n) :
    Calls Try.prog 21 #[.slice A1 m.length c1, .slice A2 n.length c2] w (Scalar (.bool (isBlockM m n)) w) := by
  have HB := Lib.hid (spec_blockGraph A1 c1 m (by omega) (fun k hk => by have := row_le_tot hk; omega) w h1)
  have H2 := Lib.hid h2
  have hz := sizeB_block m
  unfold isBlockM
  clear h1 h2
  generalize blockG m = o at *
  have hz1 : (o.getD []).length ≤ 1048576 ∧ tot (o.getD []) ≤ 1048576 := by unfold SizeB at hz; omega
  have HEQ : Hid (∀ (A : Option Addr) (c : Nat) (w' : World), GridS w' A (o.getD []) → GridS w' A2 n → Calls Try.prog 41 #[.slice A (o.getD []).length c, .slice A2 n.length c2] w' (BelowBool (decide (o.getD [] = n)) w')) := Lib.hid fun A c w' hg hg2 => spec_equalMatrix A A2 c c2 (o.getD []) n hz1.1 hz1.2 hn w' hg hg2
  clear hz hz1
  cases o with
  | none =>
    go_enter Try.func21, Try.ntmps21
    go_wp2_with fail
    refine HB.out.mono ?_
    rintro e w1 ⟨v, rfl, ho, hb⟩
    go_wp2
    go_ret
    exact ⟨rfl, hb⟩
  | some x =>
    go_enter Try.func21, Try.ntmps21
    go_wp2_with fail
    refine HB.out.mono ?_
    rintro e w1 ⟨v, rfl, ho, hb⟩
    obtain ⟨A, c, rfl, hg⟩ := ho.gridS
    have HC := Lib.hid (HEQ.out A c w1 hg (H2.out.below hb))
    clear ho hg
    go_wp2_with fail
    refine HC.out.mono ?_
    rintro e w2 ⟨rfl, hb2⟩
    go_wp2
    go_ret
    exact ⟨by simp, below_behind hb hb2⟩
end Go.Proofs.Ytfgjlpnmjfekhaa
