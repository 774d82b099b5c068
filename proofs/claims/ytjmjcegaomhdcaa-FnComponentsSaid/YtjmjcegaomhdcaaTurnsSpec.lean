/-
  The model's TurnsOf: what the plain words say, in new memory; nothing that was there before is changed.
-/
import Derived.Test.YtjmjcegaomhdcaaPrimSpec
import Derived.Test.YtjmjcegaomhdcaaIntsLaw
import Derived.Deep.AppendLies
namespace Go.Proofs.Ytjmjcegaomhdcaa
open Go Go.RowKit

/-- The least number of arcs from vertex 0. -/
theorem distN_is {m : List (List Int)} (h0 : 0 < m.length) (hJ : Joined m.length (arcP m)) {j : Nat} (hj : j < m.length) : Wk (arcP m) (distN m j) 0 j ∧ distN m j < m.length ∧ ∀ l, Wk (arcP m) l 0 j → distN m j ≤ l := by
  obtain ⟨n, hn⟩ := hJ.walk h0 hj
  obtain ⟨d, hd, hmin⟩ := least_nat (P := fun n => Wk (arcP m) n 0 j) ⟨n, hn⟩
  have hlt : d < m.length := by
    obtain ⟨k, hk, _, hw⟩ := Wk.short (arcP_on m) h0 hd
    by_cases h : k < d
    · exact absurd hw (hmin k h)
    · omega
  have e : distN m j = d := by
    unfold distN
    rw [find_first hlt ((wkB_iff h0 hj).2 hd) fun k hk => by
      cases hc : wkB m k 0 j with
      | false => rfl
      | true => exact absurd ((wkB_iff h0 hj).1 hc) (hmin k hk)]
    rfl
  rw [e]
  exact ⟨hd, hlt, fun l hl => by
    by_cases h : l < d
    · exact absurd hl (hmin l h)
    · omega⟩
/-- All walks between two vertices are equally long, up to the period. -/
theorem same_mod {m : List (List Int)} (hJ : Joined m.length (arcP m)) {i j a b : Nat} (hi : i < m.length) (hj : j < m.length) (ha : Wk (arcP m) a i j) (hb : Wk (arcP m) b i j) : a % perM m = b % perM m := by
  obtain ⟨e, he⟩ := hJ.walk hj hi
  obtain ⟨x, hx⟩ := perM_closed (ha.add he)
  obtain ⟨y, hy⟩ := perM_closed (hb.add he)
  have h1 : a + perM m * y = b + perM m * x := by omega
  have h2 := congrArg (· % perM m) h1
  simp only [Nat.add_mul_mod_self_left] at h2
  exact h2
theorem turn_arc {m : List (List Int)} (h0 : 0 < m.length) (hJ : Joined m.length (arcP m)) {i j : Nat} (hi : i < m.length) (hj : j < m.length) (h : arcB m i j = true) : (turnN m i + 1) % perM m = turnN m j := by
  unfold turnN
  rw [Nat.mod_add_mod]
  exact same_mod hJ h0 hj ((distN_is h0 hJ hi).1.add (Wk.one ⟨hi, hj, h⟩)) (distN_is h0 hJ hj).1
theorem turn_zero {m : List (List Int)} (h0 : 0 < m.length) (hJ : Joined m.length (arcP m)) : turnN m 0 = 0 := by
  have h := (distN_is h0 hJ h0).2.2 0 rfl
  unfold turnN
  rw [show distN m 0 = 0 by omega, Nat.zero_mod]

/-- Each number is -1, or the turn of its vertex. -/
def TurnOk (m : List (List Int)) (ys : List Int) : Prop := ys.length = m.length ∧ ∀ j, j < m.length → ys.getD j 0 = -1 ∨ ys.getD j 0 = ((turnN m j : Nat) : Int)
/-- What is reached by n arcs from vertex 0 has its turn. -/
def TurnTo (m : List (List Int)) (n : Nat) (ys : List Int) : Prop := ∀ j, j < m.length → ∀ l, l ≤ n → Wk (arcP m) l 0 j → 0 ≤ ys.getD j 0
/-- And what is reached by one arc more, of those ahead of i and j. -/
def TurnBy (m : List (List Int)) (n i j : Nat) (ys : List Int) : Prop := TurnTo m n ys ∧ ∀ a b, a < m.length → b < m.length → (a < i ∨ (a = i ∧ b < j)) → arcB m a b = true → (∃ l, l ≤ n ∧ Wk (arcP m) l 0 a) → 0 ≤ ys.getD b 0
theorem TurnBy.start {m : List (List Int)} {n : Nat} {ys : List Int} (h : TurnTo m n ys) : TurnBy m n 0 0 ys := ⟨h, fun a b _ _ h => by omega⟩
theorem TurnBy.row {m : List (List Int)} {n i : Nat} {ys : List Int} (h : TurnBy m n i m.length ys) : TurnBy m n (i + 1) 0 ys := ⟨h.1, fun a b ha hb h2 => h.2 a b ha hb (by omega)⟩
theorem TurnBy.ends {m : List (List Int)} {n : Nat} {ys : List Int} (h : TurnBy m n m.length 0 ys) : TurnTo m (n + 1) ys := by
  intro j hj l hl hw
  by_cases e : l = n + 1
  · subst e
    obtain ⟨k, h1, h2⟩ := hw
    exact h.2 k j h2.1 hj (Or.inl h2.1) h2.2.2 ⟨n, Nat.le_refl _, h1⟩
  · exact h.1 j hj l (by omega) hw
theorem getD_set_le {ys : List Int} {j : Nat} {x : Int} (hx : 0 ≤ x) (hj : j < ys.length) {b : Nat} (h : 0 ≤ ys.getD b 0) : 0 ≤ (ys.set j x).getD b 0 := by
  simp only [List.getD_eq_getElem?_getD, List.getElem?_set] at h ⊢
  by_cases e : j = b
  · subst e
    rw [if_pos rfl, if_pos hj]; exact hx
  · rw [if_neg e]; exact h
theorem TurnBy.put {m : List (List Int)} {n i j : Nat} {ys : List Int} {x : Int} (h : TurnBy m n i j ys) (hx : 0 ≤ x) (hj : j < ys.length) : TurnBy m n i (j + 1) (ys.set j x) := by
  refine ⟨fun b hb l hl hw => getD_set_le hx hj (h.1 b hb l hl hw), fun a b ha hb h2 h3 h4 => ?_⟩
  by_cases e : b = j
  · subst e
    simp only [List.getD_eq_getElem?_getD, List.getElem?_set, if_true, hj, Option.getD_some]
    exact hx
  · exact getD_set_le hx hj (h.2 a b ha hb (by omega) h3 h4)
/-- Nothing is to be done for i and j. -/
theorem TurnBy.skip {m : List (List Int)} {n i j : Nat} {ys : List Int} (h : TurnBy m n i j ys) (hi : i < m.length) (hd : ¬ (0 ≤ ys.getD i 0 ∧ ys.getD j 0 < 0 ∧ arcB m i j = true)) : TurnBy m n i (j + 1) ys := by
  refine ⟨h.1, fun a b ha hb h2 h3 h4 => ?_⟩
  by_cases e : a = i ∧ b = j
  · obtain ⟨rfl, rfl⟩ := e
    obtain ⟨l, hl, hw⟩ := h4
    have h5 := h.1 a hi l hl hw
    by_cases h6 : 0 ≤ ys.getD b 0
    · exact h6
    · exact absurd ⟨h5, by omega, h3⟩ hd
  · exact h.2 a b ha hb (by omega) h3 h4
theorem TurnOk.put {m : List (List Int)} {ys : List Int} (h : TurnOk m ys) {j : Nat} (hj : j < m.length) : TurnOk m (ys.set j ((turnN m j : Nat) : Int)) := by
  refine ⟨by rw [List.length_set]; exact h.1, fun b hb => ?_⟩
  by_cases e : b = j
  · subst e
    right
    have := h.1
    simp [List.getD_eq_getElem?_getD, show b < ys.length by omega]
  · have := h.2 b hb
    simpa [List.getD_eq_getElem?_getD, List.getElem?_set, Ne.symm e] using this
theorem turns_done {m : List (List Int)} {ys : List Int} (hi : irrM m = true) (h : TurnOk m ys) (ht : TurnTo m m.length ys) : ys = turnsM m := by
  obtain ⟨hm, hJ⟩ := irrM_iff.1 hi
  have h0 := (isMat_facts hm).pos
  unfold turnsM
  rw [if_pos hi]
  refine List.ext_getElem (by simp [h.1]) fun j h1 h2 => ?_
  have hj : j < m.length := by rw [← h.1]; exact h1
  have hd := distN_is h0 hJ hj
  have hp := ht j hj _ (Nat.le_of_lt hd.2.1) hd.1
  have hc := h.2 j hj
  rw [List.getD_eq_getElem?_getD, List.getElem?_eq_getElem h1, Option.getD_some] at hp hc
  rw [List.getElem_map, List.getElem_range]
  rcases hc with hc | hc
  · omega
  · exact hc
theorem turns_start {m : List (List Int)} (hi : irrM m = true) : TurnOk m ((List.replicate m.length (-1 : Int)).set 0 0) ∧ TurnTo m 0 ((List.replicate m.length (-1 : Int)).set 0 0) := by
  obtain ⟨hm, hJ⟩ := irrM_iff.1 hi
  have h0 := (isMat_facts hm).pos
  constructor
  · have h : TurnOk m (List.replicate m.length (-1 : Int)) := ⟨by simp, fun j hj => Or.inl (by simp [List.getD_eq_getElem?_getD, hj])⟩
    have := h.put h0
    rw [turn_zero h0 hJ] at this
    exact this
  · intro j hj l hl hw
    obtain rfl : l = 0 := by omega
    obtain rfl : 0 = j := hw
    simp only [List.getD_eq_getElem?_getD, List.getElem?_set, List.length_replicate, if_true]
    rw [if_pos (show 0 < m.length from h0)]
    exact Int.le_refl 0

set_option maxRecDepth 100000 in
set_option maxHeartbeats 6400000 in
theorem spec_turns (A1 : Option Addr) (c1 : Nat) (m : List (List Int)) (hl : m.length ≤ 1048576) (ht : tot m ≤ 1048576) (w : World) (h1 : GridS w A1 m) :
    Calls Try.prog 23 #[.slice A1 m.length c1] w (NewA (turnsM m) w) := by
  obtain ⟨j0, hj0, hy0, hy1, hy2⟩ := info_parts infoInt
  have HIR := Lib.hid (fun w' (hb : Below w.heap.size w w') => spec_irreducible A1 c1 m hl ht w' (h1.below hb))
  have HE : Hid ((w.alloc (.cells #[] 3)).ownsRow w.heap.size 3 1 (.slice (some ⟨w.heap.size, 0, none⟩) 0 0) 0 []) := Lib.hid (World.ownsRow_made (base := w.heap.size) (e := 3) (size := 1) w #[] 0 (Nat.le_refl _) (by unfold maxLen; omega) rfl)
  cases hi : irrM m with
  | false =>
    have hr : turnsM m = [] := by unfold turnsM; rw [if_neg (by rw [hi]; decide)]
    rw [hi] at HIR
    rw [hr]
    clear h1 hi hr
    go_enter Try.func23, Try.ntmps23
    go_wp2_with fail
    refine (HIR.out _ ((Below.refl _ _).alloc (Nat.le_refl _) _)).mono ?_
    rintro e w1 ⟨rfl, b1⟩
    rw [World.size_alloc] at b1
    have HK := Lib.hid (kept_below HE.out (by rw [World.size_alloc]; exact b1))
    have HB : Hid (Below w.heap.size w w1) := Lib.hid (((Below.refl _ _).alloc (Nat.le_refl _) _).trans (b1.mono (by omega)))
    clear b1
    go_wp2
    go_ret
    exact ⟨_, rfl, HK.out, HB.out⟩
  | true =>
    obtain ⟨hm, hJ⟩ := irrM_iff.1 hi
    have hf := isMat_facts hm
    have hle := hf.le
    have hpos := hf.pos
    have HPR := Lib.hid (fun w' (hb : Below w.heap.size w w') => spec_period A1 c1 m hl ht w' (h1.below hb))
    have hpp := perM_pos hpos hJ
    rw [perS_irr hi] at HPR
    rw [hi] at HIR
    have HST := Lib.hid (turns_start hi)
    have HDONE : Hid (∀ ys, TurnOk m ys → TurnTo m m.length ys → ys = turnsM m) := Lib.hid fun ys => turns_done hi
    have HARC : Hid (∀ i j, i < m.length → j < m.length → arcB m i j = true → (turnN m i + 1) % perM m = turnN m j) := Lib.hid fun i j hi hj h => turn_arc hpos hJ hi hj h
    have HF := Lib.hid hf
    have H1 := Lib.hid h1
    have hpl : perM m ≤ 18 := by
      have := perAcc_le (m := m) (2 * m.length)
      unfold perM; omega
    have HTL : Hid (∀ j, turnN m j < perM m) := Lib.hid fun j => Nat.mod_lt _ hpp
    generalize perM m = p at *
    clear h1 hi hm hJ hf
    go_enter Try.func23, Try.ntmps23
    go_wp2_with fail
    refine (HIR.out _ ((Below.refl _ _).alloc (Nat.le_refl _) _)).mono ?_
    rintro e w1 ⟨rfl, b1⟩
    rw [World.size_alloc] at b1
    have HK := Lib.hid (kept_below HE.out (by rw [World.size_alloc]; exact b1))
    have HB : Hid (Below w.heap.size w w1) := Lib.hid (((Below.refl _ _).alloc (Nat.le_refl _) _).trans (b1.mono (by omega)))
    clear b1
    go_wp2_with fail
    refine (HPR.out _ HB.out).mono ?_
    rintro e w2 ⟨rfl, b2⟩
    have HK2 := Lib.hid (kept_below HK.out b2)
    have HB2 := Lib.hid (HB.out.trans (b2.mono HB.out.size))
    clear b2
    go_wp2
    go_loopw [3, 5] (fun v iv wr => ∃ k : Nat, k ≤ m.length ∧ iv = .int .i64 (k : Int) ∧ wr.ownsRow w.heap.size 3 1 v k ((List.replicate k (-1 : Int)).map (Value.int .i64)) ∧ Below w.heap.size w wr) (fun _ iv _ => m.length - (intOf iv).toNat)
    case atStart => exact ⟨0, Nat.zero_le _, rfl, HK2.out, HB2.out⟩
    case round =>
      obtain ⟨k, hk, rfl, hO, hbl⟩ := hrel
      by_cases hlt : k < m.length
      · have HO := Lib.hid hO
        have HB3 := Lib.hid hbl
        have hsz := hbl.size
        have HREP : Hid ((List.replicate k (-1 : Int)).map (Value.int .i64) ++ [.int .i64 (-1)] = (List.replicate (k + 1) (-1 : Int)).map (Value.int .i64)) := Lib.hid (by rw [List.replicate_succ', List.map_append]; rfl)
        clear hO hbl
        go_wp2_with (at_builtin; refine wpList_append_lies _ rfl (.tmp 22) (.tmp 23) 28 rfl w.heap.size 3 j0 (.int .i64 0) 1 8 Try.underlying28 hj0 hy0 hy1 hy2 rfl (by decide) _ _ _ rfl (HO.out.alloc _) ⟨wr.heap.size, 0, none⟩ 1 1 [.int .i64 (-1)] rfl rfl (World.news_of_block (cs := #[.int .i64 (-1)]) (t := 3) (fr := (0, 0)) (heap_alloc_new wr _)) (by simp [Value.oneCell']) (by decide) (by unfold maxLen; omega) (by omega) (by simp; omega) (wr.heap.size + 1) (by simp) ?_; intro gg cap w6 ho6 hg6 hat6 hlt6; rw [HREP.out] at ho6; have HM := Lib.hid ho6; have HB6 := Lib.hid ((HB3.out.alloc hsz _).grown hg6 (by simp; omega) fun q hq => (HO.out.lt q hq).1); clear ho6 hg6 hat6)
        go_roundw
        case rel => exact ⟨k + 1, by omega, by go_num, HM.out, HB6.out⟩
        case measure => simp [intOf]; omega
      · obtain rfl : k = m.length := by omega
        obtain ⟨g, cap, rfl, _, _⟩ := hO.form hpos
        have k1 := (hO.cellAt 0 (by omega)).trans (show ((List.replicate m.length (-1 : Int)).map (Value.int .i64))[0]? = some (Value.int .i64 (-1)) by rw [List.getElem?_map, List.getElem?_replicate, if_pos (show 0 < m.length from hpos)]; rfl)
        have kf := hO.frozenAt 0
        have hst := (hO.stored 0 (.int .i64 0)).1
        have hset : ((List.replicate m.length (-1 : Int)).map (Value.int .i64)).set 0 (.int .i64 0) = ((List.replicate m.length (-1 : Int)).set 0 0).map (Value.int .i64) := by rw [List.map_set]
        rw [hset] at hst
        have hgB := (hO.lt g rfl).1
        have HS := Lib.hid hst
        have HB3 : Hid (Below w.heap.size w (wr.setCell ⟨g, 0, none⟩ (.int .i64 0))) := Lib.hid (hbl.setCell hgB _)
        clear hO hbl hst hset
        obtain ⟨W1, rfl⟩ : ∃ W1 : World, W1 = wr := ⟨_, rfl⟩
        go_wp2
        go_loopw [6] (fun nv wr => ∃ (n : Nat) (ys : List Int), n ≤ m.length ∧ nv = .int .i64 (n : Int) ∧ wr.ownsRow w.heap.size 3 1 (.slice (some ⟨g, 0, none⟩) m.length cap) m.length (ys.map (Value.int .i64)) ∧ Hid (TurnOk m ys) ∧ Hid (TurnTo m n ys) ∧ Below w.heap.size w wr) (fun nv _ => m.length - (intOf nv).toNat)
        case atStart => exact ⟨0, _, Nat.zero_le _, rfl, HS.out, Lib.hid HST.out.1, Lib.hid HST.out.2, HB3.out⟩
        case round =>
          obtain ⟨n, ys, hn, rfl, hO, hok, hto, hbl⟩ := hrel
          by_cases hnl : n < m.length
          · have HO := Lib.hid hO
            have HB4 := Lib.hid hbl
            clear hO hbl
            obtain ⟨W2, rfl⟩ : ∃ W2 : World, W2 = wr := ⟨_, rfl⟩
            go_wp2
            go_loopw [7] (fun iv wr => ∃ (i : Nat) (ys : List Int), i ≤ m.length ∧ iv = .int .i64 (i : Int) ∧ wr.ownsRow w.heap.size 3 1 (.slice (some ⟨g, 0, none⟩) m.length cap) m.length (ys.map (Value.int .i64)) ∧ Hid (TurnOk m ys) ∧ Hid (TurnBy m n i 0 ys) ∧ Below w.heap.size w wr) (fun iv _ => m.length - (intOf iv).toNat)
            case atStart => exact ⟨0, ys, Nat.zero_le _, rfl, HO.out, hok, Lib.hid (TurnBy.start hto.out), HB4.out⟩
            case round =>
              obtain ⟨i, ys, hi, rfl, hO, hok, hby, hbl⟩ := hrel
              by_cases hil : i < m.length
              · have HO := Lib.hid hO
                have HB5 := Lib.hid hbl
                clear hO hbl
                obtain ⟨W3, rfl⟩ : ∃ W3 : World, W3 = wr := ⟨_, rfl⟩
                go_wp2
                go_loopw [8] (fun jv wr => ∃ (j : Nat) (ys : List Int), j ≤ m.length ∧ jv = .int .i64 (j : Int) ∧ wr.ownsRow w.heap.size 3 1 (.slice (some ⟨g, 0, none⟩) m.length cap) m.length (ys.map (Value.int .i64)) ∧ Hid (TurnOk m ys) ∧ Hid (TurnBy m n i j ys) ∧ Below w.heap.size w wr) (fun jv _ => m.length - (intOf jv).toNat)
                case atStart => exact ⟨0, ys, Nat.zero_le _, rfl, HO.out, hok, hby, HB5.out⟩
                case round =>
                  obtain ⟨j, ys, hj, rfl, hO, hok, hby, hbl⟩ := hrel
                  by_cases hjl : j < m.length
                  · have hyl := hok.out.1
                    have cellOfY : ∀ t, t < m.length → wr.cell? ⟨g, t, none⟩ = some (.int .i64 (ys.getD t 0)) := fun t htl => by
                      rw [hO.cellAt t (by omega), List.getElem?_map, List.getElem?_eq_getElem (by omega), List.getD_eq_getElem?_getD, List.getElem?_eq_getElem (by omega)]
                      rfl
                    have ki := cellOfY i hil
                    have kj := cellOfY j hjl
                    have kf := hO.frozenAt j
                    obtain ⟨p1, p2, p3, p4, p5, rfl, ka1, ka2, pb1, pb2⟩ := H1.out.num hil (j := j) (by rw [HF.out.row i hil]; exact hjl)
                    have ka1' := (hbl.cell (p := ⟨p1, p2 + i, none⟩) pb1).trans ka1
                    have ka2' := (hbl.cell (p := ⟨p3, p4 + j, none⟩) pb2).trans ka2
                    rw [HF.out.row i hil] at ka1'
                    have hoki := hok.out.2 i hil
                    have HSK : Hid (¬ (0 ≤ ys.getD i 0 ∧ ys.getD j 0 < 0 ∧ arcB m i j = true) → TurnBy m n i (j + 1) ys) := Lib.hid fun h => hby.out.skip hil h
                    have hst := (hO.stored j (.int .i64 ((turnN m j : Nat) : Int))).1
                    have hset : (ys.map (Value.int .i64)).set j (.int .i64 ((turnN m j : Nat) : Int)) = (ys.set j ((turnN m j : Nat) : Int)).map (Value.int .i64) := by rw [List.map_set]
                    rw [hset] at hst
                    have HS5 := Lib.hid hst
                    have HOKN := Lib.hid (hok.out.put hjl)
                    have HBYN := Lib.hid (hby.out.put (x := ((turnN m j : Nat) : Int)) (by omega) (by omega))
                    have HBN : Hid (Below w.heap.size w (wr.setCell ⟨g, j, none⟩ (.int .i64 ((turnN m j : Nat) : Int)))) := Lib.hid (hbl.setCell hgB _)
                    have HTA := Lib.hid (HARC.out i j hil hjl)
                    have hti := HTL.out i
                    have HARB : Hid (arcB m i j = decide (0 < cellOf m i j)) := Lib.hid rfl
                    have HO := Lib.hid hO
                    have HB6 := Lib.hid hbl
                    clear hO hbl hst hset cellOfY ka1 ka2
                    by_cases hyi : 0 ≤ ys.getD i 0
                    · by_cases hyj : ys.getD j 0 < 0
                      · by_cases hx : 0 < cellOf m i j
                        · have ha : arcB m i j = true := by rw [HARB.out]; exact decide_eq_true hx
                          have hti2 : ys.getD i 0 = ((turnN m i : Nat) : Int) := by
                            rcases hoki with h | h
                            · omega
                            · exact h
                          rw [hti2] at ki
                          have HEQ := Lib.hid (HTA.out ha)
                          clear hti2 hyi hoki ha
                          generalize ys.getD j 0 = yj at *
                          generalize cellOf m i j = x at *
                          generalize turnN m i = ti at *
                          generalize turnN m j = tj at *
                          have hp0 : ¬ (p : Int) = 0 := by omega
                          have hmod : ((ti + 1 : Nat) : Int) % (p : Int) = (tj : Int) := by
                            rw [← HEQ.out]; rfl
                          have hm2 : ((ti : Int) + 1) % (p : Int) = (tj : Int) := hmod
                          have HM := Lib.hid hm2
                          clear hm2 hmod
                          go_wp2
                          rw [HM.out]
                          go_roundw
                          case rel => exact ⟨j + 1, _, by omega, by go_num, HS5.out, HOKN, HBYN, HBN.out⟩
                          case measure => simp [intOf]; omega
                        · have HSKN := Lib.hid (HSK.out fun h => hx (of_decide_eq_true (by rw [← HARB.out]; exact h.2.2)))
                          generalize ys.getD j 0 = yj at *
                          generalize ys.getD i 0 = yi at *
                          generalize cellOf m i j = x at *
                          go_wp2
                          go_roundw
                          case rel => exact ⟨j + 1, ys, by omega, by go_num, HO.out, hok, HSKN, HB6.out⟩
                          case measure => simp [intOf]; omega
                      · have HSKN := Lib.hid (HSK.out fun h => hyj h.2.1)
                        generalize ys.getD j 0 = yj at *
                        generalize ys.getD i 0 = yi at *
                        generalize cellOf m i j = x at *
                        go_wp2
                        go_roundw
                        case rel => exact ⟨j + 1, ys, by omega, by go_num, HO.out, hok, HSKN, HB6.out⟩
                        case measure => simp [intOf]; omega
                    · have HSKN := Lib.hid (HSK.out fun h => hyi h.1)
                      generalize ys.getD j 0 = yj at *
                      generalize ys.getD i 0 = yi at *
                      generalize cellOf m i j = x at *
                      go_wp2
                      go_roundw
                      case rel => exact ⟨j + 1, ys, by omega, by go_num, HO.out, hok, HSKN, HB6.out⟩
                      case measure => simp [intOf]; omega
                  · obtain rfl : j = m.length := by omega
                    have HBY := Lib.hid hby.out.row
                    have HO := Lib.hid hO
                    clear hO
                    go_wp2
                    go_roundw
                    case rel => exact ⟨i + 1, ys, by omega, by go_num, HO.out, hok, HBY, hbl⟩
                    case measure => simp [intOf]; omega
              · obtain rfl : i = m.length := by omega
                have HBY := Lib.hid hby.out.ends
                have HO := Lib.hid hO
                clear hO
                go_wp2
                go_roundw
                case rel => exact ⟨n + 1, ys, by omega, by go_num, HO.out, hok, HBY, hbl⟩
                case measure => simp [intOf]; omega
          · obtain rfl : n = m.length := by omega
            have hys := HDONE.out ys hok.out hto.out
            subst hys
            have HL := Lib.hid hok.out.1
            have HO := Lib.hid hO
            clear hO
            go_wp2
            go_ret
            exact ⟨_, rfl, by unfold OwnA; rw [HL.out]; exact HO.out, hbl⟩
end Go.Proofs.Ytjmjcegaomhdcaa
