/-
  The program's RowBounds, by a list of sums and its least and its greatest number: what the plain words say; nothing that was there before is changed.
-/
import Derived.Test.YtanelokploifhaaDoorGrowINum
import Derived.Test.YtanelokploifhaaDoorPolySums
import Derived.Test.YtanelokploifhaaDoorLiveI
namespace Go.Proofs.YtanelokploifhaaDoor
open Go Go.RowKit

theorem enters_row (args : Array Value) (w : World) : (callFunc 37 args).run Tryd.prog w = .ok (.enter 37 args) w := enters_of Tryd.func37 (by kernel_rfl) rfl args w
theorem row_term (x y : Int) (W : World) : Calls Tryd.prog 37 #[.int .i64 x, .int .i64 y] W (Scalar (.int .i64 y) W) := by
  go_enter Tryd.func37, Tryd.ntmps37
  go_wp2
  go_ret
  exact ⟨rfl, Below.refl _ _⟩

set_option maxRecDepth 100000 in
set_option maxHeartbeats 3200000 in
theorem impl_rowBounds (A : Option Addr) (c : Nat) (m : List (List Int)) (hn : m.length ≤ 1099511627776) (ht : ∀ k, k < m.length → (m.getD k []).length ≤ 1099511627776) (w : World) (hg : GridS w A m) :
    Calls Tryd.prog 10 #[.slice A m.length c] w (Scalar (.tuple #[.int .i64 (lowS m), .int .i64 (highS m)]) w) := by
  have HI := Lib.hid (impl_isMatrix A c m hn ht w hg)
  cases hm : isMat m with
  | false =>
    have hl : lowS m = 0 := by unfold lowS; rw [hm]; rfl
    have hh : highS m = 0 := by unfold highS; rw [hm]; rfl
    rw [hm] at HI
    rw [hl, hh]
    clear hg hn ht hm hl hh
    go_enter Tryd.func10, Tryd.ntmps10
    go_wp2_with fail
    refine HI.out.mono ?_
    rintro e w1 ⟨rfl, rfl⟩
    go_wp2
    go_ret2
    exact ⟨rfl, Below.refl _ _⟩
  | true =>
    obtain ⟨j0, hj0, hy0, hy1, hy2⟩ := info_parts infoInt
    have hf := isMat_facts hm
    rw [hm] at HI
    have hl9 := hf.le
    have hpos := hf.pos
    have HG := Lib.hid hg
    have HROW := Lib.hid hf.row
    have HSUM : Hid (∀ (k : Nat) (w' : World) (A' : Option Addr) (c' : Nat), k < m.length → RowS w' A' (m.getD k []) → Calls Tryd.prog 36 #[.slice A' m.length c', .func (.func 37) #[] #[]] w' (Scalar (.int .i64 (rowSum m k)) w')) := Lib.hid fun k w' A' c' hk hr => by
      have hr9 := hf.row k hk
      have h := sum_ints w'.heap.size w' 37 #[] enters_row A' c' (m.getD k []) (cellOf m k) (fun i W hi _ => row_term (i : Int) (cellOf m k i) W) (by omega) (fun i hi => by
        have h1 := sumTo_le (f := cellOf m k) (B := 1000000) i fun j hj => hf.cell k j hk (by omega)
        omega) w' (Below.refl _ _) (Nat.le_refl _) hr
      rw [hr9] at h
      exact h
    have HLEN := Lib.hid (rowSums_len m)
    have HNXT := Lib.hid (rowSums_next m)
    have HMIN : Hid (∀ (A' : Option Addr) (c' : Nat) (w' : World), RowS w' A' (rowSums m m.length) → Calls Tryd.prog 38 #[.slice A' m.length c'] w' fun e w2 => e = .returned (.int .i64 (lowS m)) ∧ w2 = w') := Lib.hid fun A' c' w' hr => by
      have hl := rowSums_len m m.length
      have h := min_row A' c' (rowSums m m.length) (by omega) (by omega) w' hr
      rw [hl] at h
      exact h.mono fun e w2 ⟨v, he, hv, hw⟩ => ⟨by rw [he, least_low hm hv], hw⟩
    have HMAX : Hid (∀ (A' : Option Addr) (c' : Nat) (w' : World), RowS w' A' (rowSums m m.length) → Calls Tryd.prog 39 #[.slice A' m.length c'] w' fun e w2 => e = .returned (.int .i64 (highS m)) ∧ w2 = w') := Lib.hid fun A' c' w' hr => by
      have hl := rowSums_len m m.length
      have h := max_row A' c' (rowSums m m.length) (by omega) (by omega) w' hr
      rw [hl] at h
      exact h.mono fun e w2 ⟨v, he, hv, hw⟩ => ⟨by rw [he, most_high hm hv], hw⟩
    have HNIL : Hid (w.ownsRow w.heap.size 3 1 (.slice none 0 0) 0 ((rowSums m 0).map (Value.int .i64))) := Lib.hid (World.ownsRow_nil w w.heap.size 3 1)
    clear hg hn ht hm hf
    generalize lowS m = lo at *
    generalize highS m = hi at *
    go_enter Tryd.func10, Tryd.ntmps10
    go_wp2_with fail
    refine HI.out.mono ?_
    rintro e w1 ⟨rfl, hw⟩
    obtain rfl : w = w1 := hw.symm
    clear HI hw
    go_wp2
    go_loopw [4, 12] (fun u jv wr => ∃ j : Nat, j ≤ m.length ∧ jv = .int .i64 (j : Int) ∧ wr.ownsRow w.heap.size 3 1 u j ((rowSums m j).map (Value.int .i64)) ∧ Hid (Below w.heap.size w wr)) (fun _ jv _ => m.length - (intOf jv).toNat)
    case atStart => exact ⟨0, Nat.zero_le _, rfl, HNIL.out, Lib.hid (Below.refl _ _)⟩
    case round =>
      clear HNIL
      obtain ⟨j, hj, rfl, hU, hb4⟩ := hrel
      by_cases hjl : j < m.length
      · obtain ⟨b, off, A', c', rfl, hc, hrow, _⟩ := (HG.out.below hb4.out).row hjl
        have hlen := HROW.out j hjl
        rw [hlen] at hc
        have C1 := Lib.hid (HSUM.out j wr A' c' hjl hrow)
        have HU := Lib.hid hU
        have HNX := Lib.hid (HNXT.out j)
        have hs4 := hb4.out.size
        obtain ⟨X, hX⟩ : ∃ X, rowSums m j = X := ⟨_, rfl⟩
        have HXL : Hid (X.length = j) := Lib.hid (by rw [← hX]; exact HLEN.out j)
        rw [hX] at HU HNX
        clear hU hrow hX
        generalize rowSum m j = s at *
        go_wp2_with fail
        refine C1.out.mono ?_
        rintro e w5 ⟨rfl, hb5⟩
        have HB5 := Lib.hid (hb4.out.trans (hb5.mono hs4))
        have HU5 := Lib.hid (kept_below HU.out hb5)
        have hs5 := HB5.out.size
        have HMAP : Hid (X.map (Value.int .i64) ++ [.int .i64 s] = (rowSums m (j + 1)).map (Value.int .i64)) := Lib.hid (by rw [HNX.out, List.map_append]; rfl)
        clear hb5 HU C1
        go_wp2_with (at_builtin; refine wpList_append_lies _ rfl (.tmp 16) (.tmp 19) 48 rfl w.heap.size 3 j0 (.int .i64 0) 1 8 Tryd.underlying48 hj0 hy0 hy1 hy2 rfl (by decide) _ _ _ rfl (HU5.out.alloc _) ⟨w5.heap.size, 0, none⟩ 1 1 [.int .i64 s] rfl rfl (World.news_of_block (cs := #[.int .i64 s]) (t := 3) (fr := (0, 0)) (heap_alloc_new w5 _)) (by simp [Value.oneCell']) (by decide) (by unfold maxLen; omega) (by omega) (by simp; omega) (w5.heap.size + 1) (by simp) ?_; intro gg cap w6 ho6 hg6 hat6 hlt6; have HM := Lib.hid (show w6.ownsRow w.heap.size 3 1 (.slice (some ⟨gg, 0, none⟩) (j + 1) cap) (j + 1) ((rowSums m (j + 1)).map (Value.int .i64)) by rw [← HMAP.out]; exact ho6); have HB6 := Lib.hid ((HB5.out.alloc hs5 _).grown hg6 (by simp; omega) fun q hq => (HU5.out.lt q hq).1); clear ho6 hg6 hat6)
        go_wp2
        go_roundw
        case rel => exact ⟨j + 1, by omega, by go_num, HM.out, HB6⟩
        case measure => simp [intOf]; omega
      · obtain rfl : j = m.length := by omega
        obtain ⟨Au, cu, rfl⟩ := slice_of_owns hU
        have HR : Hid (RowS wr Au (rowSums m m.length)) := Lib.hid (by
          obtain ⟨gu, cu2, hvu, _, _⟩ := World.ownsRow.form hU (by omega)
          simp only [Value.slice.injEq, true_and] at hvu
          obtain ⟨rfl, rfl⟩ := hvu
          exact fun _ => ⟨gu, 0, rfl, IntsAt.of_owns hU (by rw [rowSums_len]), (hU.lt gu rfl).2⟩)
        have C1 := Lib.hid (HMIN.out Au cu wr HR.out)
        have C2 := Lib.hid (HMAX.out Au cu wr HR.out)
        clear hU
        go_wp2_with fail
        refine C1.out.mono ?_
        rintro e w5 ⟨rfl, hw⟩
        obtain rfl : wr = w5 := hw.symm
        clear hw
        go_wp2_with fail
        refine C2.out.mono ?_
        rintro e w5 ⟨rfl, hw⟩
        obtain rfl : wr = w5 := hw.symm
        clear hw
        go_wp2
        go_ret2
        exact ⟨rfl, hb4.out⟩
end Go.Proofs.YtanelokploifhaaDoor
