/-
  The model's search for live pairs: what is left is closed, and all that is closed is left; nothing that was there before is changed.
-/
import Derived.Test.YtcoiodfggaanbaaLiveSet
import Derived.Test.YtcoiodfggaanbaaGridOwn
import Derived.Test.YtcoiodfggaanbaaRingSpec
import Derived.Deep.LoopGhost
import Derived.OwnWalk
namespace Go.Proofs.Ytcoiodfggaanbaa
open Go Go.RowKit

theorem infoBoolL : (Try.prog.info? 4).map (fun i => (i.zero, i.size, i.bytes)) = some (some (.bool false), 1, 1) := by kernel_rfl
def cellsT (L : List Bool) : List Value := L.map Value.bool
theorem cellsT_len (L : List Bool) : (cellsT L).length = L.length := by simp [cellsT]
theorem cellsT_at {L : List Bool} {c : Nat} (h : c < L.length) : (cellsT L)[c]? = some (.bool (onL L c)) := by
  unfold cellsT
  rw [List.getElem?_map, onL_at h]; rfl
theorem cellsT_set (L : List Bool) (c : Nat) (b : Bool) : (cellsT L).set c (.bool b) = cellsT (L.set c b) := by unfold cellsT; rw [List.map_set]
theorem made_bools {w : World} {B g n : Nat} (h : w.ownsRow B 4 1 (.slice (some ⟨g, 0, none⟩) n n) n (madeCells (Value.bool false).cells (n * 1)).toList) : w.ownsRow B 4 1 (.slice (some ⟨g, 0, none⟩) n n) n (cellsT (List.replicate n false)) := by
  have e : (madeCells (Value.bool false).cells (n * 1)).toList = cellsT (List.replicate n false) := by
    refine List.ext_getElem (by simp [madeCells, cellsT]) fun t h1 h2 => ?_
    simp [madeCells, cellsT, Value.cells, Nat.mod_one]
  rwa [e] at h
theorem own_belowL {w w' : World} {B e n S g c : Nat} {xs : List Value} (h : w.ownsRow B e 1 (.slice (some ⟨g, 0, none⟩) n c) n xs) (hb : Below S w w') (hg : g < S) : w'.ownsRow B e 1 (.slice (some ⟨g, 0, none⟩) n c) n xs := by
  rcases h.2 with ⟨h1, h0⟩ | ⟨g', cap', cur, h1, h3, h4, h5⟩
  · cases h1
  · simp only [Value.slice.injEq, Option.some.injEq, Addr.mk.injEq, and_true, true_and] at h1
    obtain ⟨rfl, rfl⟩ := h1
    refine ⟨h.1, .inr ⟨g, c, cur, rfl, h3, ?_, h5⟩⟩
    rw [hb.block g hg]; exact h4
/-- A row of bools, each in its place. -/
def BoolsAt (w : World) (B g n : Nat) (L : List Bool) : Prop := w.ownsRow B 4 1 (.slice (some ⟨g, 0, none⟩) n n) n (cellsT L) ∧ L.length = n
section
variable {w w' : World} {B g n : Nat} {L : List Bool}
theorem BoolsAt.lt (h : BoolsAt w B g n L) : B ≤ g ∧ g < w.heap.size := h.1.lt g rfl
theorem BoolsAt.cell (h : BoolsAt w B g n L) {c : Nat} (hc : c < n) : w.cell? ⟨g, c, none⟩ = some (.bool (onL L c)) := (h.1.cellAt c (by omega)).trans (cellsT_at (by rw [h.2]; exact hc))
theorem BoolsAt.frozen (h : BoolsAt w B g n L) (c : Nat) : w.frozen? ⟨g, c, none⟩ = false := h.1.frozenAt c
theorem BoolsAt.put (h : BoolsAt w B g n L) (c : Nat) (b : Bool) : BoolsAt (w.setCell ⟨g, c, none⟩ (.bool b)) B g n (L.set c b) := ⟨by
  have h1 := (h.1.stored c (.bool b)).1
  rwa [cellsT_set] at h1, by rw [List.length_set]; exact h.2⟩
theorem BoolsAt.far (h : BoolsAt w B g n L) {g' c : Nat} {v : Value} (hne : g ≠ g') : BoolsAt (w.setCell ⟨g', c, none⟩ v) B g n L := by
  refine ⟨?_, h.2⟩
  rcases h.1.2 with ⟨h1, h0⟩ | ⟨g2, cap', cur, h1, h3, h4, h5⟩
  · cases h1
  · simp only [Value.slice.injEq, Option.some.injEq, Addr.mk.injEq, and_true, true_and] at h1
    obtain ⟨rfl, rfl⟩ := h1
    exact ⟨h.1.1, .inr ⟨g, n, cur, rfl, h3, (heap_setCell_other w ⟨g', c, none⟩ g v hne).trans h4, h5⟩⟩
theorem BoolsAt.later (h : BoolsAt w B g n L) {S : Nat} (hb : Below S w w') (hg : g < S) : BoolsAt w' B g n L := ⟨own_belowL h.1 hb hg, h.2⟩
end
def LivePost (st : List (List Int)) (w : World) (e : Ending) (w' : World) : Prop := ∃ g L, e = .returned (.slice (some ⟨g, 0, none⟩) st.length st.length) ∧ BoolsAt w' w.heap.size g st.length L ∧ ClosedS st (fun c => onL L c = true) ∧ SupB st L ∧ Below w.heap.size w w'
/-- What the rounds know of the steps. -/
theorem step_cells {w : World} {A : Option Addr} {st : List (List Int)} (hg : GridS w A st) {k : Nat} (hk : k < st.length) :
    ∃ b off A' c, A = some ⟨b, off, none⟩ ∧ w.cell? ⟨b, off + k, none⟩ = some (.slice A' (lenS st k) c) ∧ b < w.heap.size ∧ ∀ i, i < lenS st k → ∃ b2 off2, A' = some ⟨b2, off2, none⟩ ∧ w.cell? ⟨b2, off2 + i, none⟩ = some (.int .i64 ((st.getD k []).getD i 0)) ∧ b2 < w.heap.size := by
  obtain ⟨b, off, A', c, hA, hc, hr, hb⟩ := hg.row hk
  refine ⟨b, off, A', c, hA, hc, hb, fun i hi => ?_⟩
  obtain ⟨b2, off2, h2, hat, hb2⟩ := hr (by unfold lenS at hi; omega)
  exact ⟨b2, off2, h2, hat i hi, hb2⟩

set_option maxRecDepth 100000 in
set_option maxHeartbeats 6400000 in
theorem spec_live (A : Option Addr) (c : Nat) (st : List (List Int)) (ok : StepsOk st) (hl : st.length ≤ 100) (hrow : ∀ c, lenS st c ≤ 100) (w : World) (hg : GridS w A st) :
    Calls Try.prog 69 #[.slice A st.length c] w (LivePost st w) := by
  obtain ⟨j0, hj0, hy0, hy1, hy2⟩ := info_parts infoBoolL
  have HG := Lib.hid hg
  have HROW := Lib.hid hrow
  have HOKT := Lib.hid ok
  clear hg hrow ok
  obtain ⟨N, hN⟩ : ∃ N, st.length = N := ⟨_, rfl⟩
  have HNE := Lib.hid hN
  rw [hN] at hl ⊢
  clear hN
  go_enter Try.func69, Try.ntmps69
  go_wp2_with (at_make; refine wpList_make_full _ rfl _ _ 76 rfl w.heap.size 4 j0 _ 1 Try.underlying76 hj0 hy0 hy1 .i64 .i64 _ _ N rfl rfl rfl rfl (by rw [hy2]; omega) (by unfold maxLen; omega) (Nat.le_refl _) ?_; intro w3 hown hgrow; have HB3 : Hid (Below w.heap.size w w3) := Lib.hid ((Below.refl w.heap.size w).grown hgrow (Nat.le_refl _) (fun k hk => by cases hk)); have HL3 : Hid (BoolsAt w3 w.heap.size w.heap.size N (List.replicate N false)) := Lib.hid ⟨made_bools hown, by simp⟩; clear hown hgrow)
  go_loopw [4] (fun kv wr => ∃ (k : Nat) (L : List Bool), k ≤ N ∧ kv = .int .i64 (k : Int) ∧ Hid (OnesB N k L) ∧ Hid (BoolsAt wr w.heap.size w.heap.size N L) ∧ Hid (Below w.heap.size w wr)) (fun kv _ => N - (intOf kv).toNat)
  case atStart => exact ⟨0, _, Nat.zero_le _, rfl, Lib.hid (ones_zero N), HL3, HB3⟩
  case round =>
    clear HL3 HB3
    obtain ⟨k, L, hk, rfl, HON, HL, HB⟩ := hrel
    by_cases hlt : k < N
    · have kc := HL.out.cell hlt
      have kf := HL.out.frozen k
      have HN := Lib.hid (HON.out.next hlt)
      have HLn := Lib.hid (HL.out.put k true)
      have HBn := Lib.hid (HB.out.setCell (p := ⟨w.heap.size, k, none⟩) (Nat.le_refl _) (.bool true))
      have k0 : (0 : Int) ≤ (k : Int) := by omega
      have k1 : (k : Int) < (N : Int) := by omega
      have hmk : N - (k + 1) < N - k := by omega
      have hk1000 : k ≤ 1000 := by omega
      obtain ⟨x3, x3b⟩ := one_wrapsR hk1000
      go_wp2
      go_roundw
      case rel => exact ⟨k + 1, _, hlt, by go_num, HN, HLn, HBn⟩
      case measure => clear x3 x3b; simp [intOf]; omega
    · obtain rfl : N = k := by omega
      have HSUP : Hid (SupB st L) := Lib.hid (sup_ones fun c hc => by rw [HON.out.2 c]; exact decide_eq_true (by rw [HNE.out] at hc; exact hc))
      clear HON
      obtain ⟨L0, rfl⟩ : ∃ L0, L0 = L := ⟨_, rfl⟩
      go_wp2
      go_loopg [5] (cntB L0 + 1) (fun gn cv wr => ∃ (L : List Bool) (ch : Bool), gn = cntB L + (if ch = true then 1 else 0) ∧ cv = .bool ch ∧ Hid (SupB st L) ∧ Hid (ch = false → ClosedS st fun c => onL L c = true) ∧ Hid (BoolsAt wr w.heap.size w.heap.size N L) ∧ Hid (Below w.heap.size w wr))
      case atStart => exact ⟨L0, true, rfl, rfl, HSUP, Lib.hid (fun h => by cases h), HL, HB⟩
      case round =>
        clear HSUP HL HB
        obtain ⟨L, ch, hgn, rfl, HSUP, HCL, HL, HB⟩ := hrel
        cases ch with
        | false =>
          have HC := Lib.hid (HCL.out rfl)
          clear HCL hgn
          go_wp2
          go_ret
          exact ⟨_, L, by rw [HNE.out]; rfl, by rw [HNE.out]; exact HL.out, HC.out, HSUP.out, HB.out⟩
        | true =>
          have HGN : Hid (gk = cntB L + 1) := Lib.hid hgn
          clear hgn HCL
          have MK1 : Hid True := Lib.hid trivial
          obtain ⟨W3, rfl⟩ : ∃ W3 : World, W3 = wr := ⟨_, rfl⟩
          go_wp2_with (first | (at_make; clear MK1; refine wpList_make_full _ rfl _ _ 76 rfl w.heap.size 4 j0 _ 1 Try.underlying76 hj0 hy0 hy1 .i64 .i64 _ _ N rfl rfl rfl rfl (by rw [hy2]; omega) (by unfold maxLen; omega) (by have := HB.out.size; omega) ?_; intro w5 hown hgrow; have HB5 : Hid (Below w.heap.size w w5) := Lib.hid (HB.out.grown hgrow HB.out.size (fun k hk => by cases hk)); have HS5 : Hid (BoolsAt w5 w.heap.size W3.heap.size N (List.replicate N false)) := Lib.hid ⟨made_bools hown, by simp⟩; have HX5 : Hid (Below W3.heap.size W3 w5) := Lib.hid ((Below.refl _ _).grown hgrow (Nat.le_refl _) (fun k hk => by cases hk)); clear hown hgrow) | (at_make; skip; refine wpList_make_full _ rfl _ _ 76 rfl w.heap.size 4 j0 _ 1 Try.underlying76 hj0 hy0 hy1 .i64 .i64 _ _ N rfl rfl rfl rfl (by rw [hy2]; omega) (by unfold maxLen; omega) (by have := HB5.out.size; omega) ?_; intro w6 hown hgrow; have HB6 : Hid (Below w.heap.size w w6) := Lib.hid (HB5.out.grown hgrow HB5.out.size (fun k hk => by cases hk)); have HS6 : Hid (BoolsAt w6 w.heap.size w5.heap.size N (List.replicate N false)) := Lib.hid ⟨made_bools hown, by simp⟩; have HX6 : Hid (Below w5.heap.size w5 w6) := Lib.hid ((Below.refl _ _).grown hgrow (Nat.le_refl _) (fun k hk => by cases hk)); clear hown hgrow))
          have hz3 := HB.out.size
          have hz5 := HX5.out.size
          have hglt := HL.out.lt.2
          have HL6 := Lib.hid (HL.out.later (HX5.out.trans (HX6.out.mono HX5.out.size)) hglt)
          have HS56 := Lib.hid (HS5.out.later HX6.out HS5.out.lt.2)
          have hgb5 := HS5.out.lt.2
          obtain ⟨gb, hgb⟩ : ∃ gb, W3.heap.size = gb := ⟨_, rfl⟩
          obtain ⟨ga, hga⟩ : ∃ ga, w5.heap.size = ga := ⟨_, rfl⟩
          obtain ⟨gl, hgl⟩ : ∃ gl, w.heap.size = gl := ⟨_, rfl⟩
          have n1 : gl ≠ gb := by omega
          have n2 : gl ≠ ga := by omega
          have n3 : gb ≠ ga := by omega
          have n4 : gl ≤ gb := by omega
          have n5 : gl ≤ ga := by omega
          rw [hgb] at HS56
          rw [hga] at HS6
          rw [hgl] at HL6 HS56 HS6 HB6
          rw [hgb, hga, hgl]
          have HGL := Lib.hid hgl
          clear hgb hga hgl HS5 HX5 HX6 HB5 HB HL hz3 hz5 hglt hgb5
          have HBE : Hid (BehB st L 0 0 (List.replicate N false)) := Lib.hid (by have h := beh_zero (st := st) (L := L); rwa [HNE.out] at h)
          have HAE : Hid (AheB st L 0 0 (List.replicate N false)) := Lib.hid (by have h := ahe_zero (st := st) (L := L); rwa [HNE.out] at h)
          go_loopw [8] (fun kv wr => ∃ (k : Nat) (bs bz : List Bool), k ≤ N ∧ kv = .int .i64 (k : Int) ∧ Hid (BehB st L k 0 bs) ∧ Hid (AheB st L k 0 bz) ∧ Hid (BoolsAt wr gl gl N L) ∧ Hid (BoolsAt wr gl gb N bs) ∧ Hid (BoolsAt wr gl ga N bz) ∧ Hid (Below gl w wr)) (fun kv _ => N - (intOf kv).toNat)
          case atStart => exact ⟨0, _, _, Nat.zero_le _, rfl, HBE, HAE, HL6, HS56, HS6, HB6⟩
          case round =>
            clear HBE HAE HL6 HS56 HS6 HB6
            obtain ⟨k, bs, bz, hk, rfl, HBE, HAE, HL, HBs, HBz, HB⟩ := hrel
            by_cases hkN : k < N
            · have hks : k < st.length := by rw [HNE.out]; exact hkN
              obtain ⟨b, off, A', c', rfl, kr, hb, hrw⟩ := step_cells HG.out hks
              rw [HGL.out] at hb
              have HRW := Lib.hid hrw
              have HLT := Lib.hid (fun j (hj : j < lenS st k) => HOKT.out.lt k j hks hj)
              have HIS := Lib.hid (fun j (hj : j < lenS st k) => HOKT.out.is k j hks hj)
              have HBROW := Lib.hid (fun bs (h : BehB st L k (lenS st k) bs) => h.row)
              have HAROW := Lib.hid (fun bz (h : AheB st L k (lenS st k) bz) => h.row)
              have HBSK := Lib.hid (fun j bs (h : BehB st L k j bs) h2 => h.skip h2)
              have HASK := Lib.hid (fun j bz (h : AheB st L k j bz) h2 => h.skip h2)
              have HBPT := Lib.hid (fun j bs (h : BehB st L k j bs) (hj : j < lenS st k) h2 => h.put hks hj h2)
              have HAPT := Lib.hid (fun j bz (h : AheB st L k j bz) (hj : j < lenS st k) h2 => AheB.put HOKT.out h hks hj h2)
              have hl100 := HROW.out k
              have HKR := Lib.hid kr
              have k0 : (0 : Int) ≤ (k : Int) := by omega
              have k1 : (k : Int) < (N : Int) := by omega
              have hmk : N - (k + 1) < N - k := by omega
              have hk1000 : k ≤ 1000 := by omega
              obtain ⟨l, hle⟩ : ∃ l, lenS st k = l := ⟨_, rfl⟩
              rw [hle] at HRW HLT HIS HBROW HAROW HBPT HAPT hl100 HKR
              clear hrw kr hle hks
              go_wp2
              go_loopw [9] (fun jv wr => ∃ (j : Nat) (bs bz : List Bool), j ≤ l ∧ jv = .int .i64 (j : Int) ∧ Hid (BehB st L k j bs) ∧ Hid (AheB st L k j bz) ∧ Hid (BoolsAt wr gl gl N L) ∧ Hid (BoolsAt wr gl gb N bs) ∧ Hid (BoolsAt wr gl ga N bz) ∧ Hid (Below gl w wr)) (fun jv _ => l - (intOf jv).toNat)
              case atStart => exact ⟨0, bs, bz, Nat.zero_le _, rfl, HBE, HAE, HL, HBs, HBz, HB⟩
              case round =>
                clear HBE HAE HL HBs HBz HB
                obtain ⟨j, bs, bz, hj, rfl, HBE, HAE, HL, HBs, HBz, HB⟩ := hrel
                have kr := (HB.out.cell (p := ⟨b, off + k, none⟩) hb).trans HKR.out
                by_cases hjl : j < l
                · obtain ⟨b2, off2, rfl, k2, hb2⟩ := HRW.out j hjl
                  rw [HGL.out] at hb2
                  rw [HIS.out j hjl] at k2
                  have k2 := (HB.out.cell (p := ⟨b2, off2 + j, none⟩) hb2).trans k2
                  have htl := HLT.out j hjl
                  rw [HNE.out] at htl
                  have kL := HL.out.cell hkN
                  have kT := HL.out.cell htl
                  have HSK1 := Lib.hid (HBSK.out j bs HBE.out)
                  have HSK2 := Lib.hid (HASK.out j bz HAE.out)
                  have HPT1 := Lib.hid (HBPT.out j bs HBE.out hjl)
                  have HPT2 := Lib.hid (HAPT.out j bz HAE.out hjl)
                  obtain ⟨t, ht⟩ : ∃ t, tgt st k j = t := ⟨_, rfl⟩
                  rw [ht] at k2 htl kT HSK1 HSK2 HPT1 HPT2
                  obtain ⟨x1, hx1⟩ : ∃ x1, onL L k = x1 := ⟨_, rfl⟩
                  obtain ⟨x2, hx2⟩ : ∃ x2, onL L t = x2 := ⟨_, rfl⟩
                  rw [hx1] at kL HSK1 HSK2 HPT1 HPT2
                  rw [hx2] at kT HSK1 HSK2 HPT1 HPT2
                  have j0 : (0 : Int) ≤ (j : Int) := by omega
                  have j1 : (j : Int) < (l : Int) := by omega
                  have t0 : (0 : Int) ≤ (t : Int) := by omega
                  have t1 : (t : Int) < (N : Int) := by omega
                  have hmj : l - (j + 1) < l - j := by omega
                  have hj1000 : j ≤ 1000 := by omega
                  clear ht hx1 hx2
                  cases x1 with
                  | false =>
                    have HN1 := Lib.hid (HSK1.out rfl)
                    have HN2 := Lib.hid (HSK2.out rfl)
                    obtain ⟨x3, x3b⟩ := one_wrapsR hj1000
                    go_wp2
                    go_roundw
                    case rel => exact ⟨j + 1, bs, bz, hjl, by go_num, HN1, HN2, HL, HBs, HBz, HB⟩
                    case measure => clear x3 x3b; simp [intOf]; omega
                  | true =>
                    cases x2 with
                    | false =>
                      have HN1 := Lib.hid (HSK1.out rfl)
                      have HN2 := Lib.hid (HSK2.out rfl)
                      obtain ⟨x3, x3b⟩ := one_wrapsR hj1000
                      go_wp2
                      go_roundw
                      case rel => exact ⟨j + 1, bs, bz, hjl, by go_num, HN1, HN2, HL, HBs, HBz, HB⟩
                      case measure => clear x3 x3b; simp [intOf]; omega
                    | true =>
                      have HN1 := Lib.hid (HPT1.out rfl)
                      have HN2 := Lib.hid (HPT2.out rfl)
                      have q1 := HBs.out.cell hkN
                      have q1f := HBs.out.frozen k
                      have HBs2 := Lib.hid ((HBs.out.put k true).far (g' := ga) (c := t) (v := .bool true) n3)
                      have HBz1 := HBz.out.far (g' := gb) (c := k) (v := .bool true) (fun e => n3 e.symm)
                      have q2 := HBz1.cell htl
                      have q2f := HBz1.frozen t
                      have HBz2 := Lib.hid (HBz1.put t true)
                      have HL2 := Lib.hid ((HL.out.far (g' := gb) (c := k) (v := .bool true) n1).far (g' := ga) (c := t) (v := .bool true) n2)
                      have hb1 := HB.out.setCell (p := ⟨gb, k, none⟩) n4 (.bool true)
                      have HB2 := Lib.hid (hb1.setCell (p := ⟨ga, t, none⟩) n5 (.bool true))
                      have krr := (hb1.cell (p := ⟨b, off + k, none⟩) hb).trans HKR.out
                      have k22 : (wr.setCell ⟨gb, k, none⟩ (.bool true)).cell? ⟨b2, off2 + j, none⟩ = some (.int .i64 (t : Int)) := by
                        rw [cell_farC (p := ⟨b2, off2 + j, none⟩) (a := ⟨gb, k, none⟩) (show b2 ≠ gb by omega) k2]
                      clear hb1 HBz1
                      obtain ⟨x3, x3b⟩ := one_wrapsR hj1000
                      go_wp2
                      go_roundw
                      case rel => exact ⟨j + 1, _, _, hjl, by go_num, HN1, HN2, HL2, HBs2, HBz2, HB2⟩
                      case measure => clear x3 x3b; simp [intOf]; omega
                · obtain rfl : j = l := by omega
                  have HN1 := Lib.hid (HBROW.out bs HBE.out)
                  have HN2 := Lib.hid (HAROW.out bz HAE.out)
                  obtain ⟨x3, x3b⟩ := one_wrapsR hk1000
                  go_wp2
                  go_roundw
                  case rel => exact ⟨k + 1, bs, bz, hkN, by go_num, HN1, HN2, HL, HBs, HBz, HB⟩
                  case measure => clear x3 x3b; simp [intOf]; omega
            · obtain rfl : N = k := by omega
              have HBEn : Hid (BehB st L st.length 0 bs) := Lib.hid (by rw [HNE.out]; exact HBE.out)
              have HAEn : Hid (AheB st L st.length 0 bz) := Lib.hid (by rw [HNE.out]; exact HAE.out)
              have HLL : Hid (L.length = st.length) := Lib.hid (by rw [HNE.out]; exact HL.out.2)
              clear HBE HAE
              go_wp2
              go_loopw [5, 10] (fun cv kv wr => ∃ (k : Nat) (L' : List Bool) (ch : Bool), k ≤ N ∧ kv = .int .i64 (k : Int) ∧ cv = .bool ch ∧ Hid (StrB L bs bz k L') ∧ Hid (BoolsAt wr gl gl N L') ∧ Hid (BoolsAt wr gl gb N bs) ∧ Hid (BoolsAt wr gl ga N bz) ∧ Hid (Below gl w wr) ∧ Hid (cntB L' ≤ cntB L) ∧ Hid (ch = true → cntB L' < cntB L) ∧ Hid (ch = false → L' = L ∧ ∀ c, c < k → keepB L bs bz c = onL L c)) (fun _ kv _ => N - (intOf kv).toNat)
              case atStart => exact ⟨0, L, false, Nat.zero_le _, rfl, rfl, Lib.hid (str_zero L bs bz), HL, HBs, HBz, HB, Lib.hid (Nat.le_refl _), Lib.hid (fun h => by cases h), Lib.hid (fun _ => ⟨rfl, fun c h => absurd h (Nat.not_lt_zero _)⟩)⟩
              case round =>
                clear HL HBs HBz HB
                obtain ⟨k, L', ch, hk, rfl, rfl, HSTR, HL', HBs, HBz, HB, HLE, HLTC, HSAME⟩ := hrel
                by_cases hkN : k < N
                · have kL := HL'.out.cell hkN
                  have hLk : onL L' k = onL L k := by rw [HSTR.out.2 k, if_neg (Nat.lt_irrefl _)]
                  have kb := HBs.out.cell hkN
                  have kz := HBz.out.cell hkN
                  have HKP := Lib.hid (fun h => HSTR.out.keep (k := k) h)
                  have HSTRK := Lib.hid (fun h => HSTR.out.strike (k := k) (by rw [HLL.out, HNE.out]; exact hkN) h)
                  have HKB : Hid (keepB L bs bz k = (onL L k && (onL bs k && onL bz k))) := Lib.hid rfl
                  have HSN : Hid (keepB L bs bz k = onL L k → ch = false → L' = L ∧ ∀ c, c < k + 1 → keepB L bs bz c = onL L c) := Lib.hid fun h h2 => ⟨(HSAME.out h2).1, fun c hc => by
                    by_cases e : c = k
                    · rw [e]; exact h
                    · exact (HSAME.out h2).2 c (by omega)⟩
                  have HLK := Lib.hid hLk
                  have k0 : (0 : Int) ≤ (k : Int) := by omega
                  have k1 : (k : Int) < (N : Int) := by omega
                  have hmk : N - (k + 1) < N - k := by omega
                  have hk1000 : k ≤ 1000 := by omega
                  rw [hLk] at kL
                  clear hLk HSTR HSAME
                  cases h0 : onL L k with
                  | false =>
                    rw [h0] at kL HKB HKP HSN
                    have hkb : keepB L bs bz k = false := HKB.out
                    have HNK := Lib.hid (HKP.out hkb)
                    have HSAMEN := Lib.hid (HSN.out hkb)
                    clear h0 hkb
                    obtain ⟨x3, x3b⟩ := one_wrapsR hk1000
                    go_wp2
                    go_roundw
                    case rel => exact ⟨k + 1, L', ch, hkN, by go_num, rfl, HNK, HL', HBs, HBz, HB, HLE, HLTC, HSAMEN⟩
                    case measure => clear x3 x3b; simp [intOf]; omega
                  | true =>
                    rw [h0] at kL HKB HKP HSN HLK
                    have HON : Hid (onL L' k = true) := HLK
                    cases h1 : onL bs k with
                    | false =>
                      rw [h1] at kb HKB
                      have HKF : Hid (keepB L bs bz k = false) := HKB
                      clear h0 h1
                      have HST2 := Lib.hid (HSTRK.out HKF.out)
                      have HL2 := Lib.hid (HL'.out.put k false)
                      have HBs2 := Lib.hid (HBs.out.far (g' := gl) (c := k) (v := .bool false) (fun e => n1 e.symm))
                      have HBz2 := Lib.hid (HBz.out.far (g' := gl) (c := k) (v := .bool false) (fun e => n2 e.symm))
                      have HB2 := Lib.hid (HB.out.setCell (p := ⟨gl, k, none⟩) (Nat.le_refl _) (.bool false))
                      have HC2 : Hid (cntB (L'.set k false) < cntB L) := Lib.hid (Nat.lt_of_lt_of_le (cnt_set_lt L' k HON.out) HLE.out)
                      have HLE2 : Hid (cntB (L'.set k false) ≤ cntB L) := Lib.hid (Nat.le_of_lt HC2.out)
                      have kf := HL'.out.frozen k
                      obtain ⟨x3, x3b⟩ := one_wrapsR hk1000
                      go_wp2
                      go_roundw
                      case rel => exact ⟨k + 1, _, true, hkN, by go_num, rfl, HST2, HL2, HBs2, HBz2, HB2, HLE2, Lib.hid (fun _ => HC2.out), Lib.hid (fun h => by cases h)⟩
                      case measure => clear x3 x3b; simp [intOf]; omega
                    | true =>
                      rw [h1] at kb HKB
                      cases h2 : onL bz k with
                      | false =>
                        rw [h2] at kz HKB
                        have HKF : Hid (keepB L bs bz k = false) := HKB
                        clear h0 h1 h2
                        have HST2 := Lib.hid (HSTRK.out HKF.out)
                        have HL2 := Lib.hid (HL'.out.put k false)
                        have HBs2 := Lib.hid (HBs.out.far (g' := gl) (c := k) (v := .bool false) (fun e => n1 e.symm))
                        have HBz2 := Lib.hid (HBz.out.far (g' := gl) (c := k) (v := .bool false) (fun e => n2 e.symm))
                        have HB2 := Lib.hid (HB.out.setCell (p := ⟨gl, k, none⟩) (Nat.le_refl _) (.bool false))
                        have HC2 : Hid (cntB (L'.set k false) < cntB L) := Lib.hid (Nat.lt_of_lt_of_le (cnt_set_lt L' k HON.out) HLE.out)
                        have HLE2 : Hid (cntB (L'.set k false) ≤ cntB L) := Lib.hid (Nat.le_of_lt HC2.out)
                        have kf := HL'.out.frozen k
                        obtain ⟨x3, x3b⟩ := one_wrapsR hk1000
                        go_wp2
                        go_roundw
                        case rel => exact ⟨k + 1, _, true, hkN, by go_num, rfl, HST2, HL2, HBs2, HBz2, HB2, HLE2, Lib.hid (fun _ => HC2.out), Lib.hid (fun h => by cases h)⟩
                        case measure => clear x3 x3b; simp [intOf]; omega
                      | true =>
                        rw [h2] at kz HKB
                        have hkb : keepB L bs bz k = true := HKB.out
                        have HNK := Lib.hid (HKP.out hkb)
                        have HSAMEN := Lib.hid (HSN.out hkb)
                        clear h0 h1 h2 hkb
                        obtain ⟨x3, x3b⟩ := one_wrapsR hk1000
                        go_wp2
                        go_roundw
                        case rel => exact ⟨k + 1, L', ch, hkN, by go_num, rfl, HNK, HL', HBs, HBz, HB, HLE, HLTC, HSAMEN⟩
                        case measure => clear x3 x3b; simp [intOf]; omega
                · obtain rfl : k = N := by omega
                  have HSUP2 : Hid (SupB st L') := Lib.hid (HSUP.out.struck HBEn.out HAEn.out (by rw [HLL.out, HNE.out]; exact HSTR.out) HLL.out)
                  have HCL2 : Hid (ch = false → ClosedS st fun c => onL L' c = true) := Lib.hid fun h => by
                    obtain ⟨h1, h2⟩ := HSAME.out h
                    rw [h1]
                    exact closed_of HBEn.out HAEn.out HLL.out fun c hc => h2 c (by rw [HLL.out, HNE.out] at hc; exact hc)
                  have HB' : Hid (Below w.heap.size w wr) := Lib.hid (by rw [HGL.out]; exact HB.out)
                  have HL'' : Hid (BoolsAt wr w.heap.size w.heap.size k L') := Lib.hid (by rw [HGL.out]; exact HL'.out)
                  have HMEA : Hid (cntB L' + (if ch = true then 1 else 0) < gk) := Lib.hid (by
                    rw [HGN.out]
                    cases ch with
                    | true => have := HLTC.out rfl; simp; omega
                    | false => have := (HSAME.out rfl).1; rw [this]; simp)
                  clear HSTR HL' HBs HBz HB HLE HLTC HSAME
                  go_wp2
                  rw [← HGL.out]
                  go_roundg (cntB L' + (if ch = true then 1 else 0))
                  case measure => exact HMEA.out
                  case rel => exact ⟨L', ch, rfl, rfl, HSUP2, HCL2, HL'', HB'⟩
end Go.Proofs.Ytcoiodfggaanbaa
