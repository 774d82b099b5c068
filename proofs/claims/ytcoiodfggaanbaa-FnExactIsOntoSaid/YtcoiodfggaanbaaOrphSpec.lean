/-
  The model's search for an orphan: the shortest and least word without a source, if there is one; nothing that was there before is changed.
-/
import Derived.Test.YtcoiodfggaanbaaOrphStep
import Derived.Test.YtcoiodfggaanbaaAllW
import Derived.Lib.AtoiErrMem
namespace Go.Proofs.Ytcoiodfggaanbaa
open Go Go.RowKit

def orphB (r : Option (List Nat)) : ByteArray := match r with
  | none => ⟨#[]⟩
  | some l => bytesW l
theorem one_wrapsO {x : Nat} (hx : x ≤ 1000) : wrap64 ((x : Int) + 1) = (x : Int) + 1 ∧ IntKind.i64.wrap ((x : Int) + 1) = (x : Int) + 1 := by
  rw [IntKind.wrap_i64]
  exact ⟨small_wrap (by omega), by omega⟩
/-- The cells of the queue. -/
def setsC (k q : Nat) (out : Nat → Nat) (ws : List (List Nat)) : List Value := ws.map fun u => .int .i64 ((setW k q out u : Nat) : Int)
def wordsC (ws : List (List Nat)) : List Value := ws.map fun u => .string (bytesW u)
theorem setsC_at {k q : Nat} {out : Nat → Nat} {ws : List (List Nat)} {i : Nat} (h : i < ws.length) : (setsC k q out ws)[i]? = some (.int .i64 ((setW k q out (ws.getD i []) : Nat) : Int)) := by
  unfold setsC
  rw [List.getElem?_map, List.getElem?_eq_getElem h, List.getD_eq_getElem?_getD, List.getElem?_eq_getElem h]; rfl
theorem wordsC_at {ws : List (List Nat)} {i : Nat} (h : i < ws.length) : (wordsC ws)[i]? = some (.string (bytesW (ws.getD i []))) := by
  unfold wordsC
  rw [List.getElem?_map, List.getElem?_eq_getElem h, List.getD_eq_getElem?_getD, List.getElem?_eq_getElem h]; rfl
theorem setsC_snoc {k q : Nat} {out : Nat → Nat} (ws : List (List Nat)) (u : List Nat) : setsC k q out (ws ++ [u]) = setsC k q out ws ++ [.int .i64 ((setW k q out u : Nat) : Int)] := by unfold setsC; rw [List.map_append]; rfl
theorem wordsC_snoc (ws : List (List Nat)) (u : List Nat) : wordsC (ws ++ [u]) = wordsC ws ++ [.string (bytesW u)] := by unfold wordsC; rw [List.map_append]; rfl
/-- One of the first j sets is s. -/
def metTo (k q : Nat) (out : Nat → Nat) (ws : List (List Nat)) (s j : Nat) : Bool := (List.range j).any fun m => decide (setW k q out (ws.getD m []) = s)
theorem metTo_next (k q : Nat) (out : Nat → Nat) (ws : List (List Nat)) (s j : Nat) : metTo k q out ws s (j + 1) = (metTo k q out ws s j || decide (setW k q out (ws.getD j []) = s)) := by
  unfold metTo
  rw [List.range_succ, List.any_append]; simp
theorem metTo_yes {k q : Nat} {out : Nat → Nat} {ws : List (List Nat)} {s j : Nat} (h : metTo k q out ws s j = true) : ∃ m, m < j ∧ setW k q out (ws.getD m []) = s := by
  unfold metTo at h
  rw [List.any_eq_true] at h
  obtain ⟨m, hm, h⟩ := h
  exact ⟨m, List.mem_range.1 hm, by simpa using h⟩
theorem metTo_no {k q : Nat} {out : Nat → Nat} {ws : List (List Nat)} {s j : Nat} (h : metTo k q out ws s j = false) : ∀ m, m < j → setW k q out (ws.getD m []) ≠ s := fun m hm => by
  unfold metTo at h
  rw [List.any_eq_false] at h
  simpa using h m (List.mem_range.2 hm)
theorem abc_at {x : Nat} (h : x < 3) (hx : x < (⟨#[97, 98, 99]⟩ : ByteArray).size) : (((⟨#[97, 98, 99]⟩ : ByteArray)[x]'hx).toNat : Int) = 97 + (x : Int) := by
  match x, h with
  | 0, _ => rfl
  | 1, _ => rfl
  | 2, _ => rfl

set_option maxRecDepth 100000 in
set_option maxHeartbeats 6400000 in
theorem spec_orphan (k n : Nat) (o : ByteArray) (ok : CodeOk k n o) (r : Option (List Nat)) (hr : OrphIs k (k ^ (n - 1)) (outC o) r) (w : World) :
    Calls Try.prog 48 #[.agg #[.int .i64 (k : Int), .int .i64 (n : Int), .string o]] w (Says (.tuple #[.string (orphB r), .bool r.isSome]) w) := by
  obtain ⟨j0, hj0, hy0, hy1, hy2⟩ := info_parts infoI64
  obtain ⟨l0, hl0, hz0, hz1, hz2⟩ := info_parts infoStr
  have n1 := ok.n1
  have n4 := ok.n4
  have k2 := ok.k2
  have k3 := ok.k3
  have HP := Lib.hid (fun w' => spec_codePow k (n - 1) k3 (by omega) w')
  have hq1 : 0 < k ^ (n - 1) := Nat.pow_pos (by omega)
  have hq9 : k ^ (n - 1) ≤ 9 := states_le ok.toFormOk
  have HST := Lib.hid (fun s c (hs : s < 512) w' => spec_step k n s c o ok hs w')
  have HR := Lib.hid hr
  clear hr
  obtain ⟨q, hq⟩ : ∃ q, k ^ (n - 1) = q := ⟨_, rfl⟩
  rw [hq] at HP hq1 hq9 HST HR
  clear hq
  have HLT : Hid (∀ u, setW k q (outC o) u < 512) := Lib.hid fun u => Nat.lt_of_lt_of_le (setW_lt u) (pow9 hq9)
  have HQ0 : Hid (Queue k q (outC o) [[]] 0 0) := Lib.hid (Queue.start hq1)
  have HQL : Hid (∀ ws i x, Queue k q (outC o) ws i x → ws.length ≤ 512) := Lib.hid fun ws i x h => Nat.le_trans h.le (pow9 hq9)
  obtain ⟨p1, p2⟩ := pow_bitO q (by omega)
  have h2q := pow9 hq9
  have h2p := Nat.two_pow_pos q
  have e3 : wrap64 (((2 ^ q : Nat) : Int) - 1) = ((2 ^ q - 1 : Nat) : Int) := by
    generalize 2 ^ q = z at *
    rw [small_wrap (by omega)]; omega
  have e4 : IntKind.i64.wrap (((2 ^ q : Nat) : Int) - 1) = ((2 ^ q - 1 : Nat) : Int) := by
    rw [IntKind.wrap_i64]
    generalize 2 ^ q = z at *
    omega
  have hk := codeIn_new w (k : Int) (n : Int) o
  have HK := Lib.hid hk
  have c0 := hk.c0
  have c1 := hk.c1
  have c2 := hk.c2
  have HB0 := Lib.hid ((Below.refl w.heap.size w).alloc (Nat.le_refl _) (.cells #[.int .i64 (k : Int), .int .i64 (n : Int), .string o] 25))
  have e1 : wrap64 ((n : Int) - 1) = ((n - 1 : Nat) : Int) := by rw [small_wrap (by omega)]; omega
  have e2 : IntKind.i64.wrap ((n : Int) - 1) = ((n - 1 : Nat) : Int) := by rw [IntKind.wrap_i64]; omega
  obtain ⟨m, hm⟩ : ∃ m, n - 1 = m := ⟨_, rfl⟩
  rw [hm] at HP e1 e2
  obtain ⟨S0, hS0⟩ : ∃ S, 2 ^ q - 1 = S := ⟨_, rfl⟩
  have HS0 : Hid (setW k q (outC o) [] = S0) := Lib.hid hS0
  rw [hS0] at e3
  rw [Int.one_mul] at p2
  have hS1 : wrap64 (wrap64 ((2 : Int) ^ q) - 1) = (S0 : Int) := by rw [p2, e3]
  clear hk ok hm hS0 h2q h2p p1 p2 e3 e4
  go_enter Try.func48, Try.ntmps48
  go_wp2_with fail
  refine (HP.out _).mono ?_
  rintro e w1 ⟨rfl, rfl⟩
  obtain ⟨W0, hW0⟩ : ∃ W0, w.alloc (.cells #[.int .i64 (k : Int), .int .i64 (n : Int), .string o] 25) = W0 := ⟨_, rfl⟩
  rw [hW0] at c0 c1 c2 HK HB0 ⊢
  clear hW0 e1 e2
  have hW1s : Hid (((W0.alloc (.cells #[.int .i64 (S0 : Int)] 3)).alloc (.cells #[.string ⟨#[]⟩] 9)).ownsRow W0.heap.size 3 1 (.slice (some ⟨W0.heap.size, 0, none⟩) 1 1) 1 (setsC k q (outC o) [[]])) := Lib.hid (by
    have h := World.ownsRow_lit (base := W0.heap.size) (e := 3) (size := 1) W0 #[.int .i64 (S0 : Int)] 1 (Nat.le_refl _) (by decide) rfl
    have e : setsC k q (outC o) [[]] = [.int .i64 (S0 : Int)] := by unfold setsC; rw [List.map_singleton, HS0.out]
    rw [e]
    exact h.alloc _)
  have hW1w : Hid (((W0.alloc (.cells #[.int .i64 (S0 : Int)] 3)).alloc (.cells #[.string ⟨#[]⟩] 9)).ownsRow W0.heap.size 9 1 (.slice (some ⟨W0.heap.size + 1, 0, none⟩) 1 1) 1 (wordsC [[]])) := Lib.hid (by
    have h := World.ownsRow_lit (base := W0.heap.size) (e := 9) (size := 1) (W0.alloc (.cells #[.int .i64 (S0 : Int)] 3)) #[.string ⟨#[]⟩] 1 (by rw [World.size_alloc]; omega) (by decide) rfl
    rw [World.size_alloc] at h
    exact h)
  have hB1 : Hid (Below W0.heap.size W0 ((W0.alloc (.cells #[.int .i64 (S0 : Int)] 3)).alloc (.cells #[.string ⟨#[]⟩] 9))) := Lib.hid (((Below.refl _ _).alloc (Nat.le_refl _) _).alloc (by simp) _)
  go_wp2
  go_loopw [4, 5, 6] (fun sv wv iv wr => ∃ (ws : List (List Nat)) (i gs cs gw cw : Nat), i ≤ ws.length ∧ iv = .int .i64 (i : Int) ∧ sv = .slice (some ⟨gs, 0, none⟩) ws.length cs ∧ wv = .slice (some ⟨gw, 0, none⟩) ws.length cw ∧ gs ≠ gw ∧ Hid (wr.ownsRow W0.heap.size 3 1 (.slice (some ⟨gs, 0, none⟩) ws.length cs) ws.length (setsC k q (outC o) ws)) ∧ Hid (wr.ownsRow W0.heap.size 9 1 (.slice (some ⟨gw, 0, none⟩) ws.length cw) ws.length (wordsC ws)) ∧ Hid (Queue k q (outC o) ws i 0) ∧ Hid (Below W0.heap.size W0 wr)) (fun _ _ iv _ => 513 - (intOf iv).toNat)
  case atStart => exact ⟨[[]], 0, W0.heap.size, 1, W0.heap.size + 1, 1, Nat.zero_le _, rfl, rfl, rfl, by omega, hW1s, hW1w, HQ0, hB1⟩
  case round =>
    clear hS1 hW1s hW1w hB1 c0 c1 c2
    obtain ⟨ws, i, gs, cs, gw, cw, hi, rfl, rfl, rfl, hne, HS, HW, HQ, HB⟩ := hrel
    by_cases hlt : i < ws.length
    · have hl512 := HQL.out _ _ _ HQ.out
      have hms : 513 - (i + 1) < 513 - i := by omega
      have HL0 : Hid (i < ws.length) := Lib.hid hlt
      go_wp2
      go_loopw [4, 5, 7] (fun sv wv xv wr => ∃ (ws' : List (List Nat)) (x gs cs gw cw : Nat), x ≤ k ∧ xv = .int .i64 (x : Int) ∧ i < ws'.length ∧ sv = .slice (some ⟨gs, 0, none⟩) ws'.length cs ∧ wv = .slice (some ⟨gw, 0, none⟩) ws'.length cw ∧ gs ≠ gw ∧ Hid (wr.ownsRow W0.heap.size 3 1 (.slice (some ⟨gs, 0, none⟩) ws'.length cs) ws'.length (setsC k q (outC o) ws')) ∧ Hid (wr.ownsRow W0.heap.size 9 1 (.slice (some ⟨gw, 0, none⟩) ws'.length cw) ws'.length (wordsC ws')) ∧ Hid (Queue k q (outC o) ws' i x) ∧ Hid (Below W0.heap.size W0 wr)) (fun _ _ xv _ => k - (intOf xv).toNat)
      case atStart => exact ⟨ws, 0, gs, cs, gw, cw, Nat.zero_le _, rfl, hlt, rfl, rfl, hne, HS, HW, HQ, HB⟩
      case round =>
        clear HS HW HQ HB hlt hl512 HL0 hi hne
        obtain ⟨ws', x, gs, cs, gw, cw, hx, rfl, hlt, rfl, rfl, hne, HS, HW, HQ, HB⟩ := hrel
        have HC := Lib.hid (HK.out.below HB.out)
        have c0 := HC.out.c0
        have c1 := HC.out.c1
        have c2 := HC.out.c2
        by_cases hxk : x < k
        · have hl512 := HQL.out _ _ _ HQ.out
          have hx3 : x < 3 := by omega
          have kS := (HS.out.cellAt i (by omega)).trans (setsC_at hlt)
          have kW := (HW.out.cellAt i (by omega)).trans (wordsC_at hlt)
          have hgs := (HS.out.lt gs rfl).2
          have hgw := (HW.out.lt gw rfl).2
          have hshort := HQ.out.short i hlt
          have HFOUND := Lib.hid (fun h0 => HQ.out.found hlt hxk h0)
          have HOLD := Lib.hid (fun mm hm he => HQ.out.old (m := mm) hlt hm he)
          have HNEW := Lib.hid (fun h0 hn => HQ.out.new hlt hxk h0 hn)
          have HSN := Lib.hid (setW_snoc (k := k) (q := q) (out := outC o) (ws'.getD i []) x)
          have HBY := Lib.hid (bytesW_snoc (ws'.getD i []) x)
          have hbs := bytesW_size (ws'.getD i [])
          have HSL := Lib.hid (HLT.out (ws'.getD i []))
          have hx0 : (0 : Int) ≤ (x : Int) := by omega
          have hx1 : (x : Int) + 1 ≤ 3 := by omega
          have hx2 : (x : Int) ≤ (x : Int) + 1 := by omega
          have hx4 : (⟨#[97, 98, 99]⟩ : ByteArray).size = 3 := rfl
          have hx5 : (x : Int) + 1 ≤ ((⟨#[97, 98, 99]⟩ : ByteArray).size : Int) := hx1
          have hx6 := letter_at x hx3
          have hx7 := abc_at hx3 (by exact hx3)
          have hi0 : (0 : Int) ≤ (i : Int) := by omega
          have hi1 : (i : Int) < (ws'.length : Int) := by omega
          obtain ⟨u, hu⟩ : ∃ u, ws'.getD i [] = u := ⟨_, rfl⟩
          rw [hu] at kS kW hshort HFOUND HOLD HNEW HSN HBY hbs HSL
          obtain ⟨S, hS⟩ : ∃ S, setW k q (outC o) u = S := ⟨_, rfl⟩
          rw [hS] at kS HFOUND HOLD HNEW HSN HSL
          have HSTP := Lib.hid (HST.out S x HSL.out)
          obtain ⟨T, hT⟩ : ∃ T, ostep k q (outC o) S x = T := ⟨_, rfl⟩
          rw [hT] at HFOUND HOLD HNEW HSTP HSN
          have HT512 : Hid (T < 512) := Lib.hid (by rw [← hT]; exact Nat.lt_of_lt_of_le (ost_lt _ _ _ _ _) (pow9 hq9))
          clear hu hS hT
          have x8 : (bytesW u).size + (letterB x).size ≤ 9223372036854775807 := by rw [hbs, letterB_size]; omega
          have x9 : ∀ w, (Op.stringOp .add (bytesW u) (letterB x)).run Try.prog w = .ok (.string (bytesW u ++ letterB x)) w := fun w => run_string_add_sum w _ _ x8
          rw [← HBY.out] at x9
          obtain ⟨v, hv⟩ : ∃ v, bytesW (u ++ [x]) = v := ⟨_, rfl⟩
          rw [hv] at x9
          have HV := Lib.hid hv
          generalize bytesW u = bu at *
          have hT9 := HT512.out
          have hmx : k - (x + 1) < k - x := by omega
          have hx2000 : x ≤ 1000 := by omega
          clear x8 hbs hshort hv HBY
          obtain ⟨W3, rfl⟩ : ∃ W3 : World, W3 = wr := ⟨_, rfl⟩
          obtain ⟨x3, x3b⟩ := one_wrapsO hx2000
          go_wp2
          go_region_held3 (fun w' => w'.cell? ⟨w.heap.size, 0, none⟩ = some (.int .i64 (k : Int)) ∧ w'.cell? ⟨w.heap.size, 1, none⟩ = some (.int .i64 (n : Int)) ∧ w'.cell? ⟨w.heap.size, 2, none⟩ = some (.string o) ∧ w'.cell? ⟨gs, i, none⟩ = some (.int .i64 (S : Int))) (first | exact ⟨c0, c1, c2, kS⟩ | exact ⟨d0, d1, d2, dS⟩ | go_keep) ((go_at_call 93; refine (HSTP.out _).mono ?_; rintro e w9 ⟨rfl, hb9⟩; have HB9 : Hid (Below W3.heap.size W3 w9) := Lib.hid ((Below.refl W3.heap.size W3).drew.trans hb9); have d0 := (HC.out.below HB9.out).c0; have d1 := (HC.out.below HB9.out).c1; have d2 := (HC.out.below HB9.out).c2; have dS := (HB9.out.cell (p := ⟨gs, i, none⟩) hgs).trans kS; clear hb9))
          have kW9 := (HB9.out.cell (p := ⟨gw, i, none⟩) hgw).trans kW
          have HS9 := Lib.hid (own_below HS.out HB9.out (fun g hg => (HS.out.lt g hg).2))
          have HW9 := Lib.hid (own_below HW.out HB9.out (fun g hg => (HW.out.lt g hg).2))
          have HBa := Lib.hid (HB.out.trans (HB9.out.mono HB.out.size))
          clear c0 c1 c2 kS kW d0 d1 d2 dS
          go_wp2
          go_quiet (fail)
          have HSq := Lib.hid (owns_drewN HS9.out nq)
          have HWq := Lib.hid (owns_drewN HW9.out nq)
          have HBq := Lib.hid (drewN_below HBa.out nq)
          obtain ⟨W4, hW4⟩ : ∃ W4, w9.drewN nq = W4 := ⟨_, rfl⟩
          rw [hW4] at HSq HWq HBq ⊢
          clear hW4 HS9 HW9 HBa HB9 kW9 x3 x3b
          by_cases hT0 : T = 0
          · subst hT0
            have hrs : r = some (u ++ [x]) := orph_same HR.out (HFOUND.out rfl)
            subst hrs
            go_wp2
            go_ret2
            exact ⟨by show _ = Ending.returned (.tuple #[.string (bytesW (u ++ [x])), .bool true]); rw [HV.out]; rfl, HB0.out.trans (HBq.out.mono HB0.out.size)⟩
          · have g0 : ((T : Int) == 0) = false := by rw [beq_eq_false_iff_ne]; omega
            have HSN2 : Hid (setW k q (outC o) (u ++ [x]) = T) := HSN
            have HL := Lib.hid hlt
            go_wp2
            go_loopw [11, 12] (fun fv jv wr => ∃ j : Nat, j ≤ ws'.length ∧ jv = .int .i64 (j : Int) ∧ fv = .bool (metTo k q (outC o) ws' T j) ∧ wr = W4) (fun _ jv _ => ws'.length - (intOf jv).toNat)
            case atStart => exact ⟨0, Nat.zero_le _, rfl, rfl, rfl⟩
            case round =>
              obtain ⟨j, hj, rfl, rfl, rfl⟩ := hrel
              by_cases hjl : j < ws'.length
              · have kj := (HSq.out.cellAt j (by omega)).trans (setsC_at hjl)
                have HM := Lib.hid (metTo_next k q (outC o) ws' T j)
                have hj0 : (0 : Int) ≤ (j : Int) := by omega
                have hj1 : (j : Int) < (ws'.length : Int) := by omega
                have hmj : ws'.length - (j + 1) < ws'.length - j := by omega
                generalize setW k q (outC o) (ws'.getD j []) = Y at *
                cases hb : metTo k q (outC o) ws' T j with
                | true =>
                  have HM2 : Hid (metTo k q (outC o) ws' T (j + 1) = true) := Lib.hid (by rw [HM.out, hb]; rfl)
                  clear hb
                  go_wp2
                  go_roundw
                  case rel => exact ⟨j + 1, hjl, by go_num, by rw [HM2.out], trivial⟩
                  case measure => simp [intOf]; omega
                | false =>
                  by_cases hYT : Y = T
                  · have hcmp : ((Y : Int) == (T : Int)) = true := by rw [beq_iff_eq, hYT]
                    have HM2 : Hid (metTo k q (outC o) ws' T (j + 1) = true) := Lib.hid (by rw [HM.out, hb, decide_eq_true hYT]; rfl)
                    clear hb hYT
                    go_wp2
                    go_roundw
                    case rel => exact ⟨j + 1, hjl, by go_num, by rw [HM2.out], trivial⟩
                    case measure => simp [intOf]; omega
                  · have hcmp : ((Y : Int) == (T : Int)) = false := by rw [beq_eq_false_iff_ne]; omega
                    have HM2 : Hid (metTo k q (outC o) ws' T (j + 1) = false) := Lib.hid (by rw [HM.out, hb, decide_eq_false hYT]; rfl)
                    clear hb hYT
                    go_wp2
                    go_roundw
                    case rel => exact ⟨j + 1, hjl, by go_num, by rw [HM2.out], trivial⟩
                    case measure => simp [intOf]; omega
              · obtain rfl : j = ws'.length := by omega
                cases hb : metTo k q (outC o) ws' T ws'.length with
                | true =>
                  obtain ⟨mm, hm1, hm2⟩ := metTo_yes hb
                  have HN := Lib.hid (HOLD.out mm hm1 hm2)
                  clear hb hm1 hm2
                  go_wp2
                  go_roundw
                  case rel => exact ⟨ws', x + 1, gs, cs, gw, cw, hxk, by go_num, HL.out, rfl, rfl, hne, HSq, HWq, HN, HBq⟩
                  case measure => simp [intOf]; omega
                | false =>
                  have HN := Lib.hid (HNEW.out hT0 (metTo_no hb))
                  have HSC : Hid (setsC k q (outC o) (ws' ++ [u ++ [x]]) = setsC k q (outC o) ws' ++ [.int .i64 (T : Int)]) := Lib.hid (by rw [setsC_snoc, HSN2.out])
                  have HWC : Hid (wordsC (ws' ++ [u ++ [x]]) = wordsC ws' ++ [.string v]) := Lib.hid (by rw [wordsC_snoc, HV.out])
                  have HLEN : Hid ((ws' ++ [u ++ [x]]).length = ws'.length + 1) := Lib.hid (by simp)
                  have hs4 := HBq.out.size
                  have hgs4 := (HSq.out.lt gs rfl).2
                  have hgw4 := (HWq.out.lt gw rfl).2
                  clear hb
                  go_wp2_with (first | (at_builtin; refine wpList_append_lies _ rfl (.tmp 74) (.tmp 76) 68 rfl W0.heap.size 3 j0 (.int .i64 0) 1 8 Try.underlying68 hj0 hy0 hy1 hy2 rfl (by decide) _ _ _ rfl (HSq.out.alloc _) _ 1 1 [.int .i64 (T : Int)] rfl rfl (World.news_of_block (cs := #[.int .i64 (T : Int)]) (t := 3) (fr := (0, 0)) (heap_alloc_new _ _)) (by simp [Value.oneCell']) (by decide) (by unfold maxLen; omega) (by omega) (by simp; omega) _ rfl ?_; intro gg cap6 w6 ho6 hg6 hat6 hlt6; have HS6 := Lib.hid ho6; have HW6 := Lib.hid ((HWq.out.alloc (.cells #[.int .i64 (T : Int)] 3)).kept hg6 (Or.inr (by intro h; exact hne (Option.some.inj h).symm))); have HB6 := Lib.hid ((HBq.out.alloc hs4 _).grown hg6 (by simp; omega) fun q hq => (HSq.out.lt q hq).1); have hsz6 := hg6.size; clear ho6 hg6; have hgg : gg ≠ gw := (hat6.elim (fun h => by rw [← (show gs = gg from Option.some.inj h)]; exact hne) (fun h => by rw [h]; exact Nat.ne_of_gt (Nat.lt_of_lt_of_le hgw4 (by rw [World.size_alloc]; exact Nat.le_succ _))))) | (at_builtin; refine wpList_append_lies _ rfl (.tmp 78) (.tmp 80) 56 rfl W0.heap.size 9 l0 (.string ByteArray.empty) 1 16 Try.underlying56 hl0 hz0 hz1 hz2 rfl (by decide) _ _ _ rfl (HW6.out.alloc _) _ 1 1 [.string v] rfl rfl (World.news_of_block (cs := #[.string v]) (t := 9) (fr := (0, 0)) (heap_alloc_new _ _)) (by simp [Value.oneCell']) (by decide) (by unfold maxLen; omega) (by omega) (by have := HB6.out.size; simp; omega) _ rfl ?_; intro gg2 cap8 w8 ho8 hg8 hat8 hlt8; have HW8 := Lib.hid ho8; have HS8 := Lib.hid ((HS6.out.alloc (.cells #[.string v] 9)).kept hg8 (Or.inr (by intro h; exact hgg (Option.some.inj h)))); have HB8 := Lib.hid ((HB6.out.alloc HB6.out.size _).grown hg8 (by have := HB6.out.size; simp; omega) fun q hq => (HW6.out.lt q hq).1); clear ho8 hg8))
                  have hgg2 : gg ≠ gg2 := by
                    rcases hat8 with h | h
                    · have h2 : gw = gg2 := Option.some.inj h
                      rw [← h2]; exact hgg
                    · rw [h]; exact Nat.ne_of_lt (Nat.lt_of_lt_of_le hlt6 (by rw [World.size_alloc]; exact Nat.le_succ _))
                  go_wp2
                  go_roundw
                  case rel => exact ⟨ws' ++ [u ++ [x]], x + 1, gg, cap6, gg2, cap8, hxk, by go_num, by rw [HLEN.out]; exact Nat.lt_succ_of_lt HL.out, by rw [HLEN.out], by rw [HLEN.out], hgg2, Lib.hid (by rw [HLEN.out, HSC.out]; exact HS8.out), Lib.hid (by rw [HLEN.out, HWC.out]; exact HW8.out), HN, HB8⟩
                  case measure => simp [intOf]; omega
        · obtain rfl : x = k := by omega
          have HN := Lib.hid HQ.out.row
          go_wp2
          go_roundw
          case rel => exact ⟨ws', i + 1, gs, cs, gw, cw, hlt, by go_num, rfl, rfl, hne, HS, HW, HN, HB⟩
          case measure => simp [intOf]; omega
    · obtain rfl : i = ws.length := by omega
      have hrn : r = none := orph_same HR.out HQ.out.none
      subst hrn
      go_wp2
      go_ret2
      exact ⟨rfl, HB0.out.trans (HB.out.mono HB0.out.size)⟩
end Go.Proofs.Ytcoiodfggaanbaa
