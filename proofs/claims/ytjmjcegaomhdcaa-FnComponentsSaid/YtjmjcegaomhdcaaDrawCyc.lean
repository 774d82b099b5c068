/-
  The model's draw of a table that is often an irreducible matrix: a table of one's own that is not much; only the cursor has turned of what was there.
-/
import Derived.Test.YtjmjcegaomhdcaaDrawBent
import Derived.Test.YtjmjcegaomhdcaaReachSpec
import Derived.BigRegion
import Derived.Deep.RegionHeld3
namespace Go.Proofs.Ytjmjcegaomhdcaa
open Go Go.RowKit

/-- A table of n rows of n numbers. -/
def SqN (n : Nat) (M : List (List Int)) : Prop := M.length = n ∧ ∀ k, k < n → (M.getD k []).length = n
theorem SqN.set {n : Nat} {M : List (List Int)} (h : SqN n M) (i j : Nat) (x : Int) : SqN n (M.set i ((M.getD i []).set j x)) := by
  obtain ⟨h1, h2⟩ := h
  refine ⟨by simp [h1], fun k hk => ?_⟩
  by_cases e : i = k
  · subst e
    have : (M.set i ((M.getD i []).set j x)).getD i [] = (M.getD i []).set j x := by simp [List.getD, show i < M.length by omega]
    rw [this, List.length_set]
    exact h2 i hk
  · have : (M.set i ((M.getD i []).set j x)).getD k [] = M.getD k [] := by simp [List.getD, List.getElem?_set_ne e]
    rw [this]
    exact h2 k hk
theorem SqN.zero (n : Nat) : SqN n (tabOf n n fun _ _ => 0) := ⟨tabOf_length _ _ _, fun k hk => by rw [tabOf_row hk]; simp⟩
theorem tot_le9 {m : List (List Int)} {n : Nat} (h : ∀ r, r ∈ m → r.length ≤ n) : tot m ≤ m.length * n := by
  induction m with
  | nil => simp [tot]
  | cons r m ih =>
    have h1 := h r (by simp)
    have h2 := ih fun s hs => h s (by simp [hs])
    have e : tot (r :: m) = r.length + tot m := by simp [tot]
    rw [e, List.length_cons, Nat.add_mul, Nat.one_mul]; omega
theorem SqN.drawn {n : Nat} {M : List (List Int)} (h : SqN n M) (hn : n ≤ 6) : Drawn M := by
  obtain ⟨h1, h2⟩ := h
  have h3 := tot_le9 (m := M) (n := 6) fun r hr => by
    obtain ⟨i, hi, rfl⟩ := List.getElem_of_mem hr
    have := h2 i (by omega)
    have e : M.getD i [] = M[i] := by simp [List.getD, hi]
    rw [e] at this; omega
  have h4 : M.length * 6 ≤ 6 * 6 := Nat.mul_le_mul_right 6 (by omega)
  exact ⟨by omega, by omega⟩
/-- Where the rows and the numbers of a table of one's own lie. -/
theorem OwnG.spread {w : World} {B n c : Nat} {A : Option Addr} {M : List (List Int)} (h : OwnG w B (.slice A n c) M) (hM : SqN n M) (hn : 0 < n) :
    ∃ (gm : Nat) (G C : Nat → Nat), A = some ⟨gm, 0, none⟩ ∧ B ≤ gm ∧ ∀ w', From B w w' → (∀ k, k < n → w'.cell? ⟨gm, k, none⟩ = some (.slice (some ⟨G k, 0, none⟩) n (C k))) ∧
      ∀ i j, i < n → j < n → w'.cell? ⟨G i, j, none⟩ = some (.int .i64 (cellOf M i j)) ∧ w'.frozen? ⟨G i, j, none⟩ = false ∧ gm ≠ G i ∧ B ≤ G i ∧ G i < w'.heap.size ∧ ∀ x : Int, OwnG (w'.setCell ⟨G i, j, none⟩ (.int .i64 x)) B (.slice A n c) (M.set i ((M.getD i []).set j x)) := by
  obtain ⟨hl, hr⟩ := hM
  have hat := fun i (hi : i < n) j (hj : j < n) => h.ats (i := i) (j := j) (by omega) (by rw [hr i hi]; exact hj)
  obtain ⟨gm, cap0, gi0, ci0, hv0, hB0, _, _, _⟩ := hat 0 hn 0 hn
  rw [hl] at hv0
  simp only [Value.slice.injEq, true_and] at hv0
  obtain ⟨rfl, rfl⟩ := hv0
  have hrow : ∀ i, i < n → ∃ g ci, w.cell? ⟨gm, i, none⟩ = some (.slice (some ⟨g, 0, none⟩) n ci) := fun i hi => by
    obtain ⟨g, cap, gi, ci, hv, _, _, _, hf⟩ := hat i hi 0 hn
    simp only [Value.slice.injEq, Option.some.injEq, Addr.mk.injEq, and_true] at hv
    obtain ⟨rfl, _⟩ := hv
    have := (hf w (From.refl _ _)).1
    rw [hr i hi] at this
    exact ⟨gi, ci, this⟩
  let G : Nat → Nat := fun i => match w.cell? ⟨gm, i, none⟩ with | some (.slice (some a) _ _) => a.block | _ => 0
  let C : Nat → Nat := fun i => match w.cell? ⟨gm, i, none⟩ with | some (.slice _ _ c) => c | _ => 0
  have hGC : ∀ i, i < n → w.cell? ⟨gm, i, none⟩ = some (.slice (some ⟨G i, 0, none⟩) n (C i)) := fun i hi => by
    obtain ⟨g, ci, e⟩ := hrow i hi
    have e1 : G i = g := by simp only [G, e]
    have e2 : C i = ci := by simp only [C, e]
    rw [e1, e2, e]
  refine ⟨gm, G, C, rfl, hB0, fun w' hf => ⟨fun k hk => ?_, fun i j hi hj => ?_⟩⟩
  · obtain ⟨g, cap, gi, ci, hv, _, _, _, hff⟩ := hat k hk 0 hn
    simp only [Value.slice.injEq, Option.some.injEq, Addr.mk.injEq, and_true] at hv
    obtain ⟨rfl, _⟩ := hv
    have h1 := (hff w (From.refl _ _)).1
    have h2 := (hff w' hf).1
    rw [h2, ← h1, hGC k hk]
  · obtain ⟨g, cap, gi, ci, hv, hBg, hBgi, hne, hff⟩ := hat i hi j hj
    simp only [Value.slice.injEq, Option.some.injEq, Addr.mk.injEq, and_true] at hv
    obtain ⟨rfl, _, _⟩ := hv
    have h1 := (hff w (From.refl _ _)).1
    rw [hGC i hi] at h1
    simp only [Option.some.injEq, Value.slice.injEq, Addr.mk.injEq, and_true] at h1
    obtain ⟨e1, _⟩ := h1
    obtain ⟨_, q2, q3, q4, q5⟩ := hff w' hf
    rw [e1]
    exact ⟨q2, q3, hne, hBgi, q4, q5⟩

set_option maxRecDepth 100000 in
set_option maxHeartbeats 6400000 in
theorem spec_draw6 (B : Nat) (a : Option Addr) (n c g : Nat) (W0 w : World) (hcode : CodeAt W0 B a n) (hn : n ≤ 1048576) (hcur : Cur B a n c g W0 w) :
    Calls Try.prog 40 #[.pointer (some ⟨g, 0, none⟩)] w (BentPost B a n c g W0) := by
  have HBE := Lib.hid (spec_bent B a n c g W0 w hcode hn hcur)
  have HON3 := Lib.hid (fun w' => l1Once 3 (by decide) B a n c g W0 w' hcode hn)
  have HON2 := Lib.hid (fun w' => l1Once 2 (by decide) B a n c g W0 w' hcode hn)
  have HBW5 := Lib.hid (fun w' => l1Below 5 (by decide) B a n c g W0 w' hcode hn)
  have HBW := Lib.hid (fun (N : Nat) (hN : N ≤ 6) w' => l1Below (N : Int) (by omega) B a n c g W0 w' hcode hn)
  clear hcode hcur
  go_enter Try.func40, Try.ntmps40
  go_wp2_with fail
  refine HBE.out.mono ?_
  rintro e w1 ⟨v, M, rfl, ho1, hs1, hc1⟩
  have HO1 := Lib.hid ho1
  have HS1 := Lib.hid hs1
  have HC1 := Lib.hid hc1
  clear ho1 hs1 hc1
  go_wp2_with fail
  refine (HON3.out w1 HC1.out).mono ?_
  rintro e w2 ⟨x, rfl, hc2, ho2⟩
  have HC2 := Lib.hid hc2
  have HO2 := Lib.hid (HO1.out.from (from_only ho2))
  clear hc2 ho2
  cases x with
  | false =>
    go_wp2
    go_ret
    exact ⟨_, M, rfl, HO2.out, HS1.out, HC2.out⟩
  | true =>
    go_wp2_with fail
    refine (HBW5.out w2 HC2.out).mono ?_
    rintro e w3 ⟨x, x0, x1, rfl, hc3, _⟩
    have HC3 := Lib.hid hc3
    clear hc3
    obtain ⟨N, hN⟩ : ∃ N : Nat, (2 : Int) + x = (N : Int) := ⟨(2 + x).toNat, by omega⟩
    have hN2 : 2 ≤ N := by omega
    have hN6 : N ≤ 6 := by omega
    have HZ := Lib.hid (fun w' => spec_zero N N (by omega) (by omega) w')
    go_wp2_with fail
    refine (HZ.out w3).mono ?_
    rintro e w4 ⟨v4, rfl, ho4, hb4⟩
    have hg3 := HC3.out.lt
    have HC4 := Lib.hid (HC3.out.step hb4)
    have HO4 := Lib.hid (ho4.mono (show g + 1 ≤ w3.heap.size by omega))
    obtain ⟨A4, c4, rfl, -⟩ := ho4.gridS
    rw [tabOf_length] at *
    clear ho4 hb4 x0 x1
    go_wp2
    go_loopw [5] (fun iv wr => ∃ (i : Nat) (T : List (List Int)), i ≤ N ∧ iv = .int .i64 (i : Int) ∧ OwnG wr (g + 1) (.slice A4 N c4) T ∧ Hid (SqN N T) ∧ Hid (Cur B a n c g W0 wr)) (fun iv _ => N - (intOf iv).toNat)
    case atStart => exact ⟨0, _, Nat.zero_le _, rfl, HO4.out, Lib.hid (SqN.zero N), HC4⟩
    case round =>
      obtain ⟨i, T, hi, rfl, hown, hsq, hcu⟩ := hrel
      by_cases hil : i < N
      · obtain ⟨q, hq⟩ : ∃ q : Nat, ((i : Int) + 1) % (N : Int) = (q : Int) ∧ q < N := ⟨(i + 1) % N, rfl, Nat.mod_lt _ (by omega)⟩
        obtain ⟨hq1, hqN⟩ := hq
        have hTl := hsq.out.1
        obtain ⟨gm, cap, gi, ci, hv, k1, k2, kf, kb, kl, kne, kg, hset⟩ := hown.at2 (i := i) (j := q) (by omega) (by rw [hsq.out.2 i hil]; exact hqN)
        rw [hTl] at hv
        simp only [Value.slice.injEq, true_and] at hv
        obtain ⟨rfl, rfl⟩ := hv
        rw [hsq.out.2 i hil] at k1
        have HS := Lib.hid (hset 1)
        have HSQ := Lib.hid (hsq.out.set i q 1)
        have HCN : Hid (Cur B a n c g W0 (wr.setCell ⟨gi, q, none⟩ (.int .i64 1))) := Lib.hid (hcu.out.setOther (by have := hcu.out.2.2.1; omega) (by omega) _ _)
        have hn0 : ¬ (N : Int) = 0 := by omega
        clear hset hown hTl
        generalize cellOf T i q = x at *
        go_wp2
        go_region
        go_wp2
        go_roundw
        case rel => exact ⟨i + 1, _, by omega, by go_num, HS.out.drew, HSQ, Lib.hid (HCN.out.drewN 1)⟩
        case measure => simp [intOf]; omega
      · obtain rfl : i = N := by omega
        have HC5 := hcu
        have HO5 := Lib.hid hown
        clear hown
        obtain ⟨W1, rfl⟩ : ∃ W1 : World, W1 = wr := ⟨_, rfl⟩
        go_wp2_with fail
        refine (HON2.out W1 HC5.out).mono ?_
        rintro e w5 ⟨x, rfl, hc5, ho5⟩
        have HC6 := Lib.hid hc5
        have HO6 := Lib.hid (HO5.out.from (from_only ho5))
        clear hc5 ho5
        cases x with
        | false =>
          go_wp2
          go_ret
          exact ⟨_, T, rfl, HO6.out, hsq.out.drawn hN6, HC6.out⟩
        | true =>
          obtain ⟨gm, G, C, rfl, hgm, hsp⟩ := HO6.out.spread hsq.out (by omega)
          have HSP := Lib.hid hsp
          have y0 := (hsp w5 (From.refl _ _)).1
          have HBWN := Lib.hid (HBW.out i hN6)
          clear hsp
          go_wp2
          go_region_held3 (fun w' => ∀ k, k < i → w'.cell? ⟨gm, k, none⟩ = some (.slice (some ⟨G k, 0, none⟩) i (C k))) (first | exact y0 | exact (fun k hk => cell_far_set HNE.out (y0 k hk)) | go_keep) (first | (go_at_call 62; refine (HBWN.out _ hc8).mono ?_; rintro e w9 ⟨y, t0, t1, rfl, hc9, ho9⟩; obtain ⟨yn, rfl⟩ := Int.eq_ofNat_of_zero_le t0; have hyn : yn < i := (by omega); have hfr9 : From (g + 1) w5 w9 := hfr8.trans (from_only ho9); have y0 := (HSP.out w9 hfr9).1; obtain ⟨z1, z2, z3, z4, z5, z6⟩ := (HSP.out w9 hfr9).2 xn yn hxn hyn; have HNE := Lib.hid z3; have HZ6 := Lib.hid z6; have HC9 := Lib.hid hc9; have HGE := Lib.hid z4; clear z6 hc9 z3 z4) | (go_at_call 62; refine (HBWN.out _ (HC6.out.drewN 1)).mono ?_; rintro e w8 ⟨x, s0, s1, rfl, hc8, ho8⟩; obtain ⟨xn, rfl⟩ := Int.eq_ofNat_of_zero_le s0; have hxn : xn < i := (by omega); have hfr8 : From (g + 1) w5 w8 := (From.of_below (below_drewN (Below.refl w5.heap.size w5) 1)).trans (from_only ho8); have y0 := (HSP.out w8 hfr8).1))
          go_wp2
          go_ret
          exact ⟨_, _, rfl, HZ6.out 1, (hsq.out.set xn yn 1).drawn hN6, HC9.out.setOther (by have := HC9.out.2.2.1; have := HGE.out; omega) (by have := HGE.out; omega) _ _⟩

/-- A table that is drawn. -/
def GridDrawnW (W : World) (e : Ending) (w' : World) : Prop := ∃ v M, e = .returned v ∧ GridV w' v M ∧ Drawn M ∧ Below W.heap.size W w'
theorem draw_period (a : Option Addr) (n c : Nat) (w : World) (hcode : CodeAt w w.heap.size a n) (hn : n ≤ 1048576) :
    Calls Try.prog 12 #[.slice a n c] w (GridDrawnW w) := by
  have HN := Lib.hid (l1New w.heap.size a n c w w hcode hn (Below.refl _ _) (Nat.le_refl _))
  have HB := Lib.hid (fun g w' => spec_draw6 w.heap.size a n c g w w' hcode hn)
  clear hcode
  go_enter Try.func12, Try.ntmps12
  go_wp2_with fail
  refine HN.out.mono ?_
  rintro e w1 ⟨g, rfl, hc1, _⟩
  go_wp2_with fail
  refine (HB.out g w1 hc1).mono ?_
  rintro e w2 ⟨v, M, rfl, ho2, hs2, hc2⟩
  have HG := Lib.hid ho2.gridV
  have HS := Lib.hid hs2
  clear ho2 hs2
  go_wp2
  go_ret
  exact ⟨v, M, rfl, HG.out, HS.out, hc2.below⟩
end Go.Proofs.Ytjmjcegaomhdcaa
