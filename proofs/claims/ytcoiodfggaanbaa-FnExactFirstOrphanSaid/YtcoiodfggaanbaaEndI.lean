/-
  The program's steps by letter: for each letter a function value that steps along its arcs; nothing that was there before is changed.
-/
import Derived.Test.YtcoiodfggaanbaaArcNum
import Derived.Test.YtcoiodfggaanbaaStepI
import Derived.Test.YtcoiodfggaanbaaCodeI
import Derived.Test.YtcoiodfggaanbaaCountNum
import Derived.Deep.MidRow
import Derived.Deep.AppendLies
import Derived.Deep.Onto
import Derived.OwnWalk
import Derived.Laws.EntriesVeiled
namespace Go.Proofs.Ytcoiodfggaanbaa
open Go Go.RowKit Go.Shelf

theorem infoSq : (Try.prog.info? 135).map (fun i => (i.zero, i.size, i.bytes)) = some (some (.agg (Array.replicate 81 (.int .i64 0))), 81, 648) := by kernel_rfl
theorem infoFn : (Try.prog.info? 108).map (fun i => (i.zero, i.size, i.bytes)) = some (some .nilFunc, 1, 8) := by kernel_rfl
theorem made_sqs {w : World} {B g k : Nat} (h : w.ownsRow B 135 81 (.slice (some ⟨g, 0, none⟩) k k) k (madeCells (Value.agg (Array.replicate 81 (.int .i64 0))).cells (k * 81)).toList) :
    w.ownsRow B 135 81 (.slice (some ⟨g, 0, none⟩) k k) k (sqsL k fun _ _ _ => 0) := by
  have e : (madeCells (Value.agg (Array.replicate 81 (.int .i64 0))).cells (k * 81)).toList = sqsL k fun _ _ _ => 0 := by
    rw [← sqsL_zero]
    refine List.ext_getElem (by simp [madeCells]) fun t h1 h2 => ?_
    have h81 : t % 81 < 81 := Nat.mod_lt _ (by decide)
    simp [madeCells, Value.cells, h81]
  rw [e] at h
  exact h
theorem rem_isE (p q : Nat) : Int.tmod (p : Int) (q : Int) = ((p % q : Nat) : Int) := (Int.ofNat_tmod p q).symm
theorem quo_isE (p q : Nat) : Int.tdiv (p : Int) (q : Int) = ((p / q : Nat) : Int) := (Int.ofNat_tdiv p q).symm
theorem u8_small {l : Nat} (h : l < 256) : IntKind.u8.wrap (l : Int) = (l : Int) := by rw [IntKind.wrap_u8]; omega
theorem own_keepE {w w' : World} {B e s n S g cap : Nat} {xs : List Value} (h : w.ownsRow B e s (.slice (some ⟨g, 0, none⟩) n cap) n xs) (hb : Below S w w') (hg : g < S) : w'.ownsRow B e s (.slice (some ⟨g, 0, none⟩) n cap) n xs := by
  rcases h.2 with ⟨h1, h0⟩ | ⟨g', cap', cur, h1, h3, h4, h5⟩
  · cases h1
  · simp only [Value.slice.injEq, Option.some.injEq, Addr.mk.injEq, and_true, true_and] at h1
    obtain ⟨rfl, rfl⟩ := h1
    refine ⟨h.1, .inr ⟨g, cap, cur, rfl, h3, ?_, h5⟩⟩
    rw [hb.block g hg]; exact h4
theorem range_of {w : World} {B g k l : Nat} {F : Nat → Nat → Nat → Int} (h : w.ownsRow B 135 81 (.slice (some ⟨g, 0, none⟩) k k) k (sqsL k F)) (hl : l < k) : w.rangeAt g (l * 81) (sqL (F l)) := fun j v hv => by
  have hj : j < 81 := by
    by_cases hj : j < 81
    · exact hj
    · rw [List.getElem?_eq_none (by rw [sqL_length]; omega)] at hv; cases hv
  have hlk : (l + 1) * 81 ≤ k * 81 := Nat.mul_le_mul_right _ hl
  have h1 := h.cellAt (l * 81 + j) (by omega)
  rw [h1]
  have h2 := sqsL_part k F hl
  rw [← h2, List.getElem?_take_of_lt hj, List.getElem?_drop] at hv
  exact hv
/-- A square is loaded out of a row of squares. -/
theorem sq_load_mid {o : Oper} {a : Act} {w : World} {K : Act → World → Prop} {Q : Exit → Act → World → Prop} {g off : Nat} {f : Nat → Nat → Int} (hs : w.rangeAt g off (sqL f)) (x : Operand) (ho : o.op = .load 135 x) (hx : a.eval x = .pointer (some ⟨g, off, none⟩))
    (h : K (a.put o.dst (.agg (sqA f))) w) : o.wp Try.prog a w K Q :=
  wp_load_mid _ x ho g off hx (sqL f) _ hs Try.underlying135 rfl (by rw [sqL_length]; exact sq_info) h
theorem own_belowE {w w' : World} {B e s n S : Nat} {v : Value} {xs : List Value} (h : w.ownsRow B e s v n xs) (hb : Below S w w') (hv : ∀ g, v.ownBlock = some g → g < S) : w'.ownsRow B e s v n xs := by
  rcases h.2 with ⟨rfl, h0⟩ | ⟨g, cap, cur, rfl, h3, h4, h5⟩
  · exact ⟨h.1, .inl ⟨rfl, h0⟩⟩
  · have hg := hv g rfl
    refine ⟨h.1, .inr ⟨g, cap, cur, rfl, h3, ?_, h5⟩⟩
    rw [hb.block g hg]; exact h4
theorem own_range {w W : World} {B e s n : Nat} {v : Value} {xs : List Value} (h : w.ownsRow B e s v n xs) (hr : ∀ b, B ≤ b → b < w.heap.size → W.heap[b]? = w.heap[b]?) : W.ownsRow B e s v n xs := by
  rcases h.2 with ⟨rfl, h0⟩ | ⟨g, cap, cur, rfl, h3, h4, h5⟩
  · exact ⟨h.1, .inl ⟨rfl, h0⟩⟩
  · have hg := (h.lt g rfl).2
    refine ⟨h.1, .inr ⟨g, cap, cur, rfl, h3, ?_, h5⟩⟩
    rw [hr g h3 hg]; exact h4
theorem ownG_range {w W : World} {B : Nat} {v : Value} {m : List (List Int)} (h : OwnG w B v m) (hr : ∀ b, B ≤ b → b < w.heap.size → W.heap[b]? = w.heap[b]?) : OwnG W B v m := by
  obtain ⟨vs, ho, hs⟩ := h
  exact ⟨vs, own_range ho hr, ⟨hs.len, fun k r hk => ⟨own_range (hs.row k r hk).1 hr, (hs.row k r hk).2⟩, hs.two⟩⟩
/-- The function value v steps along the arcs of m wherever the blocks from lo to hi are as in W0. -/
def StepR (lo hi : Nat) (W0 : World) (v : Value) (m : List (List Int)) : Prop := hi ≤ W0.heap.size ∧ ∃ lb : Array Value, v = .func (.func 134) #[] lb ∧
  ∀ s W, s < 512 → (∀ b, lo ≤ b → b < hi → W.heap[b]? = W0.heap[b]?) → Calls Try.prog 134 (#[.int .u16 (s : Int)] ++ lb) W (Scalar (.int .u16 ((stepS m s : Nat) : Int)) W)
theorem StepR.stepV {lo hi : Nat} {W0 : World} {v : Value} {m : List (List Int)} (h : StepR lo hi W0 v m) : StepV W0 v m := by
  obtain ⟨h0, lb, hv, hs⟩ := h
  exact ⟨lb, hv, fun s W h1 h2 => hs s W h1 fun b _ hb => h2.block b (Nat.lt_of_lt_of_le hb h0)⟩
theorem StepR.range {lo hi : Nat} {W0 W1 : World} {v : Value} {m : List (List Int)} (h : StepR lo hi W0 v m) (h1 : hi ≤ W1.heap.size) (hr : ∀ b, lo ≤ b → b < hi → W1.heap[b]? = W0.heap[b]?) : StepR lo hi W1 v m := by
  obtain ⟨h0, lb, hv, hs⟩ := h
  exact ⟨h1, lb, hv, fun s W h1 h2 => hs s W h1 fun b hb hb' => (h2 b hb hb').trans (hr b hb hb')⟩

set_option maxRecDepth 100000 in
theorem impl_stepOfR (lo : Nat) (A : Option Addr) (c : Nat) (m : List (List Int)) (hf : MatFacts m) (w : World) (hg : OwnG w lo (.slice A m.length c) m) (hlo : lo ≤ w.heap.size) :
    Calls Try.prog 116 #[.slice A m.length c] w fun e w' => ∃ v, e = .returned v ∧ StepR lo w'.heap.size w' v m ∧ Below w.heap.size w w' := by
  have hb0 : Below w.heap.size w (w.alloc (.cells #[.slice A m.length c] 78)) := (Below.refl _ _).alloc (Nat.le_refl _) _
  have HB0 := Lib.hid hb0
  have HS : Hid (StepR lo (w.alloc (.cells #[.slice A m.length c] 78)).heap.size (w.alloc (.cells #[.slice A m.length c] 78)) (.func (.func 134) #[] #[.pointer (some ⟨w.heap.size, 0, none⟩)]) m) := Lib.hid ⟨Nat.le_refl _, _, rfl, fun s W hs hb => by
    have hs1 : w.heap.size < (w.alloc (.cells #[.slice A m.length c] 78)).heap.size := by rw [World.size_alloc]; omega
    have hG : OwnG W lo (.slice A m.length c) m := ownG_range hg fun b h1 h2 => (hb b h1 (by omega)).trans (hb0.block b h2)
    obtain ⟨A', c', he, hgs⟩ := hG.gridS
    simp only [Value.slice.injEq, true_and] at he
    obtain ⟨rfl, rfl⟩ := he
    exact step_at w.heap.size A c m hf s hs W ((World.cell?_of_block (a := ⟨w.heap.size, 0, none⟩) (hb w.heap.size hlo hs1)).trans (box_new w _ _)) hgs⟩
  clear hg hf hb0
  go_enter Try.func116, Try.ntmps116
  go_wp2
  go_ret
  exact ⟨_, rfl, HS.out, HB0.out⟩
/-- What endSteps answers: a function value for each letter. -/
def EndPost (k q : Nat) (out : Nat → Nat) (m : Nat) (w : World) (e : Ending) (w' : World) : Prop := ∃ (g cap : Nat) (vs : List Value), e = .returned (.slice (some ⟨g, 0, none⟩) k cap) ∧ vs.length = k ∧ w'.ownsRow w.heap.size 108 1 (.slice (some ⟨g, 0, none⟩) k cap) k vs ∧ (∀ l, l < k → StepV w' (vs.getD l undef) (arcM k q out m l)) ∧ Below w.heap.size w w'

set_option maxRecDepth 100000 in
set_option maxHeartbeats 6400000 in
theorem impl_endSteps (k n : Nat) (o : ByteArray) (ok : CodeOk k n o) (w : World) :
    Calls Try.prog 90 #[.agg #[.int .i64 (k : Int), .int .i64 (n : Int), .string o]] w (EndPost k (k ^ (n - 1)) (outC o) o.size w) := by
  obtain ⟨j0, hj0, hy0, hy1, hy2⟩ := info_parts infoSq
  obtain ⟨l0, hl0, hz0, hz1, hz2⟩ := info_parts infoFn
  have n1 := ok.n1
  have n4 := ok.n4
  have k2 := ok.k2
  have k3 := ok.k3
  have hqk : k ^ (n - 1) * k ≤ 27 := by rw [← pow_split n1]; exact ok.le
  have hos : o.size = k ^ (n - 1) * k := by rw [← pow_split n1]; exact ok.len
  have hq1 : 0 < k ^ (n - 1) := Nat.pow_pos (by omega)
  have hq9 : k ^ (n - 1) ≤ 9 := states_le ok.toFormOk
  have HP : Hid (∀ w', Calls Try.prog 88 #[.int .i64 (k : Int), .int .i64 ((n - 1 : Nat) : Int)] w' fun e w'' => e = .returned (.int .i64 ((k ^ (n - 1) : Nat) : Int)) ∧ w'' = w') := Lib.hid fun w' => by
    have h := power_code (k : Int) (n - 1) (by omega) (fun j hj => by
      have h1 : k ^ j ≤ 3 ^ j := Nat.pow_le_pow_left k3 j
      have h2 : 3 ^ j ≤ 3 ^ 4 := Nat.pow_le_pow_right (by decide) (by omega)
      have h3 : (3 : Nat) ^ 4 = 81 := by decide
      rw [← Int.natCast_pow, Int.natAbs_natCast]; omega) w'
    rwa [← Int.natCast_pow] at h
  have HOUT : Hid (∀ p (hp : p < o.size), outC o p < k ∧ ((o[p].toNat : Int) - 97 = (outC o p : Int)) ∧ o[p].toNat < 256) := Lib.hid fun p hp => by
    have h1 := byteAt_all ok.all hp
    have h2 := digit_lt h1
    refine ⟨outC_lt ok p, ?_, o[p].toNat_lt⟩
    unfold outC
    rw [byteAt_is hp] at h2 ⊢
    omega
  obtain ⟨q, hq⟩ : ∃ q, k ^ (n - 1) = q := ⟨_, rfl⟩
  rw [hq] at HP hqk hos hq1 hq9 ⊢
  clear hq
  have HF := Lib.hid (fun l => arcM_facts k (outC o) o.size l hq1 hq9)
  have HNX := Lib.hid (arcI_next k q (outC o))
  have HZ : Hid (sqsL k (fun _ _ _ => 0) = sqsL k (arcI k q (outC o) 0)) := Lib.hid (by
    have e : (fun _ _ _ => (0 : Int)) = arcI k q (outC o) 0 := by
      funext l a b
      rw [arcI_zero]
    rw [e])
  have hk := codeIn_new w (k : Int) (n : Int) o
  have HK := Lib.hid hk
  have c0 := hk.c0
  have c1 := hk.c1
  have c2 := hk.c2
  have HB0 := Lib.hid ((Below.refl w.heap.size w).alloc (Nat.le_refl _) (.cells #[.int .i64 (k : Int), .int .i64 (n : Int), .string o] 25))
  have e1 : wrap64 ((n : Int) - 1) = ((n - 1 : Nat) : Int) := by unfold wrap64; omega
  have e2 : IntKind.i64.wrap ((n : Int) - 1) = ((n - 1 : Nat) : Int) := by rw [IntKind.wrap_i64]; omega
  obtain ⟨m, hm⟩ : ∃ m, n - 1 = m := ⟨_, rfl⟩
  rw [hm] at HP e1 e2
  have HOS := Lib.hid hos
  have h27 : o.size ≤ 27 := by rw [hos]; exact hqk
  clear hk ok hm hos hqk
  go_enter Try.func90, Try.ntmps90
  go_wp2_with fail
  refine (HP.out _).mono ?_
  rintro e w1 ⟨rfl, rfl⟩
  obtain ⟨W0, hW0⟩ : ∃ W0, w.alloc (.cells #[.int .i64 (k : Int), .int .i64 (n : Int), .string o] 25) = W0 := ⟨_, rfl⟩
  rw [hW0] at c0 c1 c2 HK HB0 ⊢
  clear hW0 e1 e2
  go_wp2_with (at_make; refine wpList_make_full _ rfl _ _ 132 rfl W0.heap.size 135 j0 _ 81 Try.underlying132 hj0 hy0 hy1 .i64 .i64 _ _ k rfl rfl rfl rfl (by rw [hy2]; omega) (by unfold maxLen; omega) (Nat.le_refl _) ?_; intro w3 hown hgrow; have HB3 : Hid (Below W0.heap.size W0 w3) := Lib.hid ((Below.refl W0.heap.size W0).grown hgrow (Nat.le_refl _) (fun k hk => by cases hk)); have d0 := (HK.out.below HB3.out).c0; have d1 := (HK.out.below HB3.out).c1; have d2 := (HK.out.below HB3.out).c2)
  have HO3 : Hid (w3.ownsRow W0.heap.size 135 81 (.slice (some ⟨W0.heap.size, 0, none⟩) k k) k (sqsL k (arcI k q (outC o) 0))) := Lib.hid (by rw [← HZ.out]; exact made_sqs hown)
  clear hown hgrow c0 c1 c2
  have hk0 : 0 < k := by omega
  go_loopw [21] (fun iv wr => ∃ i : Nat, i ≤ o.size ∧ iv = .int .i64 (i : Int) ∧ Hid (wr.ownsRow W0.heap.size 135 81 (.slice (some ⟨W0.heap.size, 0, none⟩) k k) k (sqsL k (arcI k q (outC o) i))) ∧ Hid (Below W0.heap.size W0 wr)) (fun iv _ => o.size - (intOf iv).toNat)
  case atStart => exact ⟨0, Nat.zero_le _, rfl, HO3, HB3⟩
  case round =>
    clear d0 d1 d2 HO3 HB3
    obtain ⟨i, hi, rfl, HO, HB⟩ := hrel
    have HC := Lib.hid (HK.out.below HB.out)
    have c0 := HC.out.c0
    have c1 := HC.out.c1
    have c2 := HC.out.c2
    by_cases hlt : i < o.size
    · obtain ⟨hl, hb97, hb256⟩ := HOUT.out i hlt
      have hrq : i / k < q := by rw [Nat.div_lt_iff_lt_mul hk0, ← HOS.out]; exact hlt
      have htq : i % q < q := Nat.mod_lt _ hq1
      have HSET : Hid (∀ x, (sqsL k (arcI k q (outC o) i)).set (outC o i * 81 + i / k * 9 + i % q) (.int .i64 1) = x → x = sqsL k (arcI k q (outC o) (i + 1))) := Lib.hid fun x hx => by
        rw [← hx]
        exact sqsL_set (by omega) (by omega) fun l' a' b' _ _ _ => HNX.out i l' a' b'
      have kc := (HO.out.cellAt (outC o i * 81 + i / k * 9 + i % q) (by omega)).trans (sqsL_at (arcI k q (outC o) i) hl (by omega) (by omega))
      have kf := HO.out.frozenAt (outC o i * 81 + i / k * 9 + i % q)
      have hst : ∀ W : World, W.ownsRow W0.heap.size 135 81 (.slice (some ⟨W0.heap.size, 0, none⟩) k k) k (sqsL k (arcI k q (outC o) i)) → (W.setCell ⟨W0.heap.size, outC o i * 81 + i / k * 9 + i % q, none⟩ (.int .i64 1)).ownsRow W0.heap.size 135 81 (.slice (some ⟨W0.heap.size, 0, none⟩) k k) k (sqsL k (arcI k q (outC o) (i + 1))) := fun W hW => by
        have h := (hW.stored (outC o i * 81 + i / k * 9 + i % q) (.int .i64 1)).1
        rwa [HSET.out _ rfl] at h
      have htm := rem_isE i q
      have hdm := quo_isE i k
      obtain ⟨l, hl0⟩ : ∃ l, outC o i = l := ⟨_, rfl⟩
      obtain ⟨a, ha0⟩ : ∃ a, i / k = a := ⟨_, rfl⟩
      obtain ⟨t, ht0⟩ : ∃ t, i % q = t := ⟨_, rfl⟩
      rw [hl0] at hl hb97 kc kf hst
      rw [ha0] at hrq hdm kc kf hst
      rw [ht0] at htq htm kc kf hst
      have hu8 : IntKind.u8.wrap ((o[i].toNat : Int) - 97) = (l : Int) := by rw [hb97]; exact u8_small (by omega)
      have HS := Lib.hid hst
      have hk9 : k ≤ 9 := by omega
      have l0' : (0 : Int) ≤ (l : Int) := Int.natCast_nonneg l
      have l1' : (l : Int) < (k : Int) := Int.ofNat_lt.2 hl
      have a0' : (0 : Int) ≤ (a : Int) := Int.natCast_nonneg a
      have a1' : (a : Int) < 9 := Int.ofNat_lt.2 (Nat.lt_of_lt_of_le hrq hq9)
      have t0' : (0 : Int) ≤ (t : Int) := Int.natCast_nonneg t
      have t1' : (t : Int) < 9 := Int.ofNat_lt.2 (Nat.lt_of_lt_of_le htq hq9)
      have i0' : (0 : Int) ≤ (i : Int) := Int.natCast_nonneg i
      have i1' : (i : Int) < (o.size : Int) := Int.ofNat_lt.2 hlt
      have hq0 : ((q : Int) == 0) = false := by rw [beq_eq_false_iff_ne]; exact Int.ofNat_ne_zero.2 (Nat.pos_iff_ne_zero.1 hq1)
      have hkz : ((k : Int) == 0) = false := by rw [beq_eq_false_iff_ne]; exact Int.ofNat_ne_zero.2 (Nat.pos_iff_ne_zero.1 hk0)
      have hms : o.size - (i + 1) < o.size - i := by omega
      generalize arcI k q (outC o) i l a t = y at *
      clear hst hl0 ha0 ht0 hb97 HSET
      obtain ⟨W3, rfl⟩ : ∃ W3 : World, W3 = wr := ⟨_, rfl⟩
      go_wp2
      go_region
      have HOn := Lib.hid (World.ownsRow.drew (HS.out W3 HO.out))
      have HBn : Hid (Below W0.heap.size W0 (W3.setCell ⟨W0.heap.size, l * 81 + a * 9 + t, none⟩ (.int .i64 1)).drew) := Lib.hid (HB.out.setCell (Nat.le_refl _) _).drew
      go_wp2
      go_roundw
      case rel => exact ⟨i + 1, hlt, by go_num, HOn, HBn⟩
      case measure => simp [intOf]; omega
    · obtain rfl : i = o.size := by omega
      have HOE := HO
      have hg0 := (HO.out.lt W0.heap.size rfl).2
      obtain ⟨W5, rfl⟩ : ∃ W5 : World, W5 = wr := ⟨_, rfl⟩
      have hs5 := HB.out.size
      obtain ⟨Z, hz, HZ0⟩ := sq_zero
      have HRW := Lib.hid (fun f w' => impl_rows f q hq9 w')
      go_wp2
      go_loopw [6, 43] (fun xv lv wr => ∃ (l : Nat) (sv : Value) (vs : List Value), l ≤ k ∧ lv = .int .i64 (l : Int) ∧ sv = xv ∧ vs.length = l ∧ Hid (wr.ownsRow W5.heap.size 108 1 sv l vs) ∧ Hid (∀ j, j < l → ∃ lo hi, StepR lo hi wr (vs.getD j undef) (arcM k q (outC o) o.size j) ∧ ∀ g, sv.ownBlock = some g → g < lo ∨ hi ≤ g) ∧ Hid (Below W5.heap.size W5 wr)) (fun _ lv _ => k - (intOf lv).toNat)
      case atStart => exact ⟨0, _, [], Nat.zero_le _, rfl, rfl, rfl, Lib.hid (World.ownsRow_nil _ _ _ _), Lib.hid (fun j h => by omega), Lib.hid (Below.refl _ _)⟩
      case round =>
        clear c0 c1 c2
        obtain ⟨l, sv, vs, hl, rfl, rfl, hvs, HOs, HST, HBs⟩ := hrel
        by_cases hlk : l < k
        · have l0' : (0 : Int) ≤ (l : Int) := Int.natCast_nonneg l
          have l1' : (l : Int) < (k : Int) := Int.ofNat_lt.2 hlk
          have HOw := Lib.hid (own_keepE HOE.out HBs.out hg0)
          have HRG : Hid (wr.rangeAt W0.heap.size (l * 81) (sqL (arcI k q (outC o) o.size l))) := Lib.hid (range_of HOw.out hlk)
          have hms : k - (l + 1) < k - l := by omega
          obtain ⟨W6, rfl⟩ : ∃ W6 : World, W6 = wr := ⟨_, rfl⟩
          have HNEW : Hid (SqAt (W6.alloc (.cells Z 135)) W6.heap.size (fun _ _ => 0)) := Lib.hid (by rw [HZ0.out]; exact SqAt.new W6 _)
          have HSQ : Hid (SqAt ((W6.alloc (.cells Z 135)).setRow W6.heap.size (sqA (arcI k q (outC o) o.size l))) W6.heap.size (arcI k q (outC o) o.size l)) := Lib.hid HNEW.out.stored
          have HB6 : Hid (Below W6.heap.size W6 ((W6.alloc (.cells Z 135)).setRow W6.heap.size (sqA (arcI k q (outC o) o.size l)))) := Lib.hid (below_row ((Below.refl _ _).alloc (Nat.le_refl _) _) (Nat.le_refl _) _)
          have HFl := Lib.hid (HF.out l)
          have HMl : Hid (tabOf q q (arcI k q (outC o) o.size l) = arcM k q (outC o) o.size l) := Lib.hid rfl
          have HGR := Lib.hid (HRW.out (arcI k q (outC o) o.size l))
          have HML := Lib.hid (arcM_length k q (outC o) o.size l)
          generalize arcI k q (outC o) o.size l = F at *
          go_wp2
          refine sq_load_mid HRG.out _ rfl rfl ?_
          have hst := HNEW.out.store (f' := F)
          go_wp2
          clear hst
          obtain ⟨W7, hW7⟩ : ∃ W7, (W6.alloc (.cells Z 135)).setRow W6.heap.size (sqA F) = W7 := ⟨_, rfl⟩
          rw [hW7] at HSQ HB6 ⊢
          clear hW7
          refine sq_load HSQ.out _ rfl rfl ?_
          go_wp2_with fail
          refine (HGR.out _).mono ?_
          rintro e w9 ⟨v9, rfl, ho9, hb9⟩
          have hog := ho9.gridS
          obtain ⟨A9, c9, rfl, -⟩ := hog
          have HB9 : Hid (Below W6.heap.size W6 w9) := Lib.hid (HB6.out.trans (hb9.mono HB6.out.size))
          have HSO := Lib.hid (impl_stepOfR W7.heap.size A9 c9 (tabOf q q F) (by rw [HMl.out]; exact HFl.out) w9 ho9 hb9.size)
          have h67 : W6.heap.size ≤ W7.heap.size := HB6.out.size
          have h79 : W7.heap.size ≤ w9.heap.size := hb9.size
          clear ho9 hb9
          go_wp2_with fail
          refine HSO.out.mono ?_
          rintro e w10 ⟨vF, rfl, hsv, hb10⟩
          rw [HMl.out] at hsv
          obtain ⟨lb, hvF⟩ : ∃ lb, vF = .func (.func 134) #[] lb := by obtain ⟨-, lb, hv, -⟩ := hsv; exact ⟨lb, hv⟩
          subst hvF
          have HSV := Lib.hid hsv
          have HB10 : Hid (Below W6.heap.size W6 w10) := Lib.hid (HB9.out.trans (hb10.mono HB9.out.size))
          have HO10 : Hid (w10.ownsRow W5.heap.size 108 1 sv l vs) := Lib.hid (own_belowE HOs.out HB10.out (fun g hg => (HOs.out.lt g hg).2))
          have HBw : Hid (Below W5.heap.size W5 w10) := Lib.hid (HBs.out.trans (HB10.out.mono HBs.out.size))
          have hs10 : W5.heap.size ≤ w10.heap.size := HBw.out.size
          have HLT6 : Hid (∀ g, sv.ownBlock = some g → g < W6.heap.size) := Lib.hid fun g hg => (HOs.out.lt g hg).2
          have h710 : W7.heap.size ≤ w10.heap.size := Nat.le_trans h79 hb10.size
          clear hsv hb10 HSO HB9 HGR
          go_wp2_with (at_builtin; refine wpList_append_lies _ rfl (.tmp 47) (.tmp 52) 97 rfl W5.heap.size 108 l0 .nilFunc 1 8 Try.underlying97 hl0 hz0 hz1 hz2 rfl (by decide) _ _ _ rfl (HO10.out.alloc _) ⟨w10.heap.size, 0, none⟩ 1 1 [.func (.func 134) #[] lb] rfl rfl (World.news_of_block (cs := #[.func (.func 134) #[] lb]) (t := 108) (fr := (0, 0)) (heap_alloc_new w10 _)) (by simp [Value.oneCell']) (by decide) (by unfold maxLen; omega) (by omega) (by simp; omega) (w10.heap.size + 1) (by simp) ?_; intro gg cap6 w6 ho6 hg6 hat6 hlt6; have HO6 := Lib.hid ho6; have HG6 := Lib.hid hg6; have HAT := Lib.hid hat6; have HB11 := Lib.hid ((HBw.out.alloc hs10 _).grown hg6 (by simp; omega) fun q hq => (HO10.out.lt q hq).1); clear ho6 hg6 hat6)
          have HST2 : Hid (∀ j, j < l + 1 → ∃ lo hi, StepR lo hi w6 ((vs ++ [Value.func (.func 134) #[] lb]).getD j undef) (arcM k q (outC o) o.size j) ∧ ∀ g, some gg = some g → g < lo ∨ hi ≤ g) := Lib.hid fun j hj => by
            have hz6 := HG6.out.size
            rw [World.size_alloc] at hz6
            have hkeep : ∀ b, b < w10.heap.size → sv.ownBlock ≠ some b → w6.heap[b]? = w10.heap[b]? := fun b hb hne => by
              have h1 := HG6.out.block b (by rw [World.size_alloc]; omega) (fun h => hne h.symm)
              rw [h1]
              exact ((Below.refl w10.heap.size w10).alloc (Nat.le_refl _) _).block b hb
            by_cases hjl : j < l
            · obtain ⟨lo, hi, hs, hrow⟩ := HST.out j hjl
              have hhi : hi ≤ W6.heap.size := hs.1
              refine ⟨lo, hi, ?_, fun g hg => ?_⟩
              · rw [List.getD_eq_getElem?_getD, List.getElem?_append_left (by omega), ← List.getD_eq_getElem?_getD]
                refine hs.range (by omega) fun b h1 h2 => ?_
                rw [hkeep b (by omega) (fun h => by rcases hrow b h with h3 | h3 <;> omega)]
                exact HB10.out.block b (by omega)
              · obtain rfl : gg = g := Option.some.inj hg
                rcases HAT.out with h | h
                · exact hrow gg h
                · right; omega
            · obtain rfl : j = l := by omega
              refine ⟨W7.heap.size, w10.heap.size, ?_, fun g hg => ?_⟩
              · have e : (vs ++ [Value.func (.func 134) #[] lb]).getD j undef = .func (.func 134) #[] lb := by
                  rw [List.getD_eq_getElem?_getD, List.getElem?_append_right (by omega), hvs, Nat.sub_self]; rfl
                rw [e]
                refine HSV.out.range (by omega) fun b h1 h2 => ?_
                exact hkeep b h2 (fun h => by have := HLT6.out b h; omega)
              · obtain rfl : gg = g := Option.some.inj hg
                rcases HAT.out with h | h
                · have := HLT6.out gg h
                  left; omega
                · right; omega
          go_wp2
          go_roundw
          case rel => exact ⟨l + 1, _, vs ++ [Value.func (.func 134) #[] lb], hlk, by go_num, rfl, by simp [hvs], HO6, HST2, HB11⟩
          case measure => simp [intOf]; omega
        · obtain rfl : l = k := by omega
          have hform := HOs.out.form hk0
          obtain ⟨g, cap, rfl, hg1, hg2⟩ := hform
          go_wp2
          go_ret
          exact ⟨g, cap, vs, rfl, hvs, World.ownsRow.mono HOs.out (Nat.le_trans HB0.out.size hs5), fun j hj => by
            obtain ⟨lo, hi, h, -⟩ := HST.out j hj
            exact h.stepV, HB0.out.trans ((HB.out.mono HB0.out.size).trans (HBs.out.mono (Nat.le_trans HB0.out.size hs5)))⟩
end Go.Proofs.Ytcoiodfggaanbaa
