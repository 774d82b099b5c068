/-
  The program's iterator over the paths of some arcs: it hands each path to a round, in order, each in new memory, till a round says that this is enough.
-/
import Derived.RangeFuncNested
import Derived.RangeFuncBound
import Derived.RangeFuncCalls
import Derived.RangeFuncLeaves
import Derived.Shelf.Abstract
import Derived.Shelf.RegionOpen
import Derived.WalkKit
import Derived.OwnWalkIn
import Derived.TacticsInMore
import Derived.LoopNIn
import Derived.LoopIn
import Derived.Test.YthljogoggiejmaaPathMem
import Derived.Test.YthljogoggiejmaaGraphCount
namespace Go.Proofs.Ythljogoggiejmaa
open Go Go.RowKit
attribute [local go_sem] Oper.semAt_some

theorem cell_newest (W : World) (v : Value) (t : TypeId) : (W.alloc (.cells #[v] t)).cell? ⟨W.heap.size, 0, none⟩ = some v := by
  simp
theorem cell_older {W : World} {p : Addr} {v : Value} (o : Obj) (h : W.cell? p = some v) : (W.alloc o).cell? p = some v :=
  (((Below.refl W.heap.size W).alloc (Nat.le_refl _) o).cell (cell_lt h)).trans h

set_option maxRecDepth 100000 in
/-- eachPath: its two arguments are laid in blocks of their own; the iterator has captured them. -/
theorem each_func (A : Option Addr) (len c : Nat) (n : Int) (w : World) :
    Calls Try.prog 49 #[.slice A len c, .int .i64 n] w fun e w' =>
      e = .returned (.func (.func 66) #[] #[.pointer (some ⟨w.heap.size + 1, 0, none⟩), .pointer (some ⟨w.heap.size, 0, none⟩)]) ∧
      w' = (w.alloc (.cells #[.slice A len c] 24)).alloc (.cells #[.int .i64 n] 3) := by
  go_enter Try.func49, Try.ntmps49
  go_wp2
  go_ret
  exact ⟨rfl, rfl⟩

set_option maxRecDepth 100000 in
set_option maxHeartbeats 1600000 in
theorem each_none (arcs : List (List Int)) (O0 : Nat → Prop) (B : Nat) (w : World) (bn ba c : Nat) (A : Option Addr) (hm : EachMem O0 w bn ba 0 A c arcs) :
    RunsF Try.prog 66 #[.pointer (some ⟨bn, 0, none⟩), .pointer (some ⟨ba, 0, none⟩)] (RowO B) (fillM arcs 0 []) O0 w := by
  intro l O J Jx W hW hO hJb hJ hJx hY h0
  have hm1 := (hm.grow (O' := O) fun k hk e => (hO k e).resolve_right (by omega)).turn (Turn.of_below O hW)
  have hbW : Below W.heap.size W (W.alloc (.cells #[.func (.yield l) #[] #[]] 66)) := below_new
  obtain ⟨fn, tmps, assign, body, hy, hR⟩ := hY O [] [] (.slice none 0 0) (W.alloc (.cells #[.func (.yield l) #[] #[]] 66)) (hJ _ _ _ _ h0 (Turn.of_below _ hbW)) ⟨World.ownsRow_nil _ _ _ _, fun k h => by cases h⟩ ⟨[], rfl⟩
  have hc := (hbW.cell (p := ⟨bn, 0, none⟩) (cell_lt hm1.num)).trans hm1.num
  clear hY hm hm1
  refine callsIn_wide_any (n := 9) (callsIn_of_wp Try.func66 rfl trivial ?_ rfl)
  simp only [Try.ntmps66, List.size_toArray, List.length_cons, List.length_nil, Nat.reduceAdd, Nat.reduceSub, Array.replicate_succ, Array.replicate_zero, List.push_toArray, List.append_toArray, List.nil_append, List.cons_append]
  gi_wp2
  refine (roundIn_wide_any hR).mono ?_
  rintro e W' ⟨O', hgr, htu, hend⟩
  have hres : (∀ k, O' k → O k ∨ W.heap.size ≤ k) ∧ Turn O W W' := by
    refine ⟨fun k hk => ?_, (Turn.of_below O hbW).trans htu fun _ _ h => h⟩
    rcases hgr k hk with h | h | h
    · exact Or.inl h
    · exact Or.inr (by simp at h; omega)
    · cases h
  rcases hend with ⟨rfl, hj⟩ | ⟨rfl, hj⟩
  · gi_wp2
    refine bodyPost_ret (results_none rfl _ _ _) rfl ?_
    exact ⟨⟨_, rfl⟩, O', hres.1, hres.2, Or.inl hj⟩
  · gi_wp2
    refine bodyPost_ret (results_none rfl _ _ _) rfl ?_
    exact ⟨⟨_, rfl⟩, O', hres.1, hres.2, Or.inr ⟨_, List.prefix_refl _, hj⟩⟩

theorem news_one {w : World} {b : Nat} {u : Value} (h : w.cell? ⟨b, 0, none⟩ = some u) : ∀ j v, [u][j]? = some v → w.cell? ((⟨b, 0, none⟩ : Addr).add j) = some v := by
  intro j v hv
  have hj := (List.getElem?_eq_some_iff.1 hv).1
  obtain rfl : j = 0 := by simp at hj; omega
  obtain rfl : u = v := by simpa using hv
  have e : (⟨b, 0, none⟩ : Addr).add 0 = ⟨b, 0, none⟩ := by unfold Addr.add; split <;> simp_all
  rw [e]; exact h

/-! ### Paths with one arc more -/

def extTo (arcs : List (List Int)) (p : List Int) (k : Nat) : List (List Int) := (List.range k).flatMap fun k => if goesOnM arcs p k = true then [p ++ [(k : Int)]] else []
theorem extTo_next (arcs : List (List Int)) (p : List Int) (k : Nat) : extTo arcs p (k + 1) = extTo arcs p k ++ (if goesOnM arcs p k = true then [p ++ [(k : Int)]] else []) := by
  unfold extTo; rw [List.range_succ, List.flatMap_append]; simp
theorem extTo_all (arcs : List (List Int)) (p : List Int) : extTo arcs p arcs.length = extM arcs p := rfl
theorem extTo_prefix (arcs : List (List Int)) (p : List Int) {k : Nat} : ∀ (n : Nat), k ≤ n → extTo arcs p k <+: extTo arcs p n
  | 0, h => by obtain rfl : k = 0 := by omega
               exact List.prefix_refl _
  | n + 1, h => by
    by_cases e : k = n + 1
    · subst e; exact List.prefix_refl _
    · rw [extTo_next]
      exact (extTo_prefix arcs p n (by omega)).trans (List.prefix_append _ _)
/-- What has come when arc k is put behind the path x. -/
theorem come_prefix {arcs : List (List Int)} {d : Nat} {pre : List (List Int)} {x : List Int} (h : pre ++ [x] <+: fillM arcs d []) {k : Nat} (hk : k < arcs.length) (hg : goesOnM arcs x k = true) :
    (pre.flatMap (extM arcs) ++ extTo arcs x k) ++ [x ++ [(k : Int)]] <+: fillM arcs (d + 1) [] := by
  obtain ⟨rest, hr⟩ := h
  rw [fillM_end, ← hr, List.flatMap_append, List.flatMap_append, List.flatMap_cons, List.flatMap_nil, List.append_nil, ← extTo_all]
  have h1 := extTo_prefix arcs x (k := k + 1) arcs.length hk
  rw [extTo_next, if_pos hg] at h1
  obtain ⟨r2, h2⟩ := h1
  exact ⟨r2 ++ rest.flatMap (extM arcs), by rw [← h2]; simp only [List.append_assoc]⟩
theorem come_all {arcs : List (List Int)} {d : Nat} : (fillM arcs d []).flatMap (extM arcs) = fillM arcs (d + 1) [] := (fillM_end arcs d []).symm
theorem come_next {arcs : List (List Int)} {pre : List (List Int)} {x : List Int} : (pre ++ [x]).flatMap (extM arcs) = pre.flatMap (extM arcs) ++ extTo arcs x arcs.length := by
  rw [List.flatMap_append, List.flatMap_cons, List.flatMap_nil, List.append_nil, extTo_all]
theorem fill_in {arcs : List (List Int)} : ∀ (d : Nat) (p : List Int), p ∈ fillM arcs d [] → p.length = d ∧ ∀ t, t < d → 0 ≤ p.getD t 0 ∧ p.getD t 0 < (arcs.length : Int)
  | 0, p, h => by
    obtain rfl : p = [] := by simpa [fillM] using h
    exact ⟨rfl, fun t ht => by omega⟩
  | d + 1, p, h => by
    rw [fillM_end, List.mem_flatMap] at h
    obtain ⟨q, hq, hp⟩ := h
    obtain ⟨hl, hv⟩ := fill_in d q hq
    unfold extM at hp
    rw [List.mem_flatMap] at hp
    obtain ⟨k, hk, hp⟩ := hp
    split at hp
    · obtain rfl : p = q ++ [(k : Int)] := by simpa using hp
      refine ⟨by simp [hl], fun t ht => ?_⟩
      by_cases e : t < d
      · have := hv t e
        simpa [List.getD, List.getElem?_append_left (show t < q.length by omega)] using this
      · obtain rfl : t = q.length := by omega
        have := List.mem_range.1 hk
        simp [List.getD]; omega
    · cases hp

set_option maxRecDepth 100000 in
set_option maxHeartbeats 3200000 in
theorem each_next (arcs : List (List Int)) (h2 : ∀ r ∈ arcs, r.length = 2) (hal : arcs.length ≤ 60) (d : Nat) (hd : d ≤ 5)
    (ih : ∀ (O0 : Nat → Prop) (w : World) (bn ba c : Nat) (A : Option Addr), EachMem O0 w bn ba (d : Int) A c arcs →
      RunsF Try.prog 66 #[.pointer (some ⟨bn, 0, none⟩), .pointer (some ⟨ba, 0, none⟩)] (RowO 0) (fillM arcs d []) O0 w)
    (O0 : Nat → Prop) (B : Nat) (w : World) (hB : B ≤ w.heap.size) (bn ba c : Nat) (A : Option Addr) (hm : EachMem O0 w bn ba ((d + 1 : Nat) : Int) A c arcs) :
    RunsF Try.prog 66 #[.pointer (some ⟨bn, 0, none⟩), .pointer (some ⟨ba, 0, none⟩)] (RowO B) (fillM arcs (d + 1) []) O0 w := by
  intro l O J Jx W hW hO hJb hJ hJx hY h0
  have hm1 := (hm.grow (O' := O) fun k hk e => (hO k e).resolve_right (by omega)).turn (Turn.of_below O hW)
  have hOW := hJb _ _ _ h0
  have hbW : Below W.heap.size W (W.alloc (.cells #[.func (.yield l) #[] #[]] 66)) := below_new
  have hc := (hbW.cell (p := ⟨bn, 0, none⟩) (cell_lt hm1.num)).trans hm1.num
  have hca := (hbW.cell (p := ⟨ba, 0, none⟩) (cell_lt hm1.tab)).trans hm1.tab
  have hn0 : (((d + 1 : Nat) : Int) == 0) = false := by rw [beq_eq_false_iff_ne]; omega
  refine callsIn_wide_any (n := 9) (callsIn_of_wp_marks Try.func66 rfl trivial ?_ rfl)
  simp only [Try.ntmps66, List.size_toArray, List.length_cons, List.length_nil, Nat.reduceAdd, Nat.reduceSub, Array.replicate_succ, Array.replicate_zero, List.push_toArray, List.append_toArray, List.nil_append, List.cons_append]
  gi_wp2_with (refine ⟨trivial, ?_⟩; gi_at_call 49; refine (callsIn_wide.2 (each_func _ _ _ _ _)).mono ?_; rintro e w' ⟨rfl, rfl⟩)
  obtain ⟨W3, hW3⟩ : ∃ W3, ((W.alloc (.cells #[.func (.yield l) #[] #[]] 66)).alloc (.cells #[.slice A arcs.length c] 24)).alloc (.cells #[.int .i64 (d : Int)] 3) = W3 := ⟨_, rfl⟩
  have hs3 : W3.heap.size = W.heap.size + 3 := by rw [← hW3]; simp only [World.size_alloc]
  have hb3 : Below W.heap.size W W3 := by rw [← hW3]; exact (hbW.alloc (by rw [World.size_alloc]; omega) _).alloc (by rw [World.size_alloc, World.size_alloc]; omega) _
  have k1 : W3.cell? ⟨W.heap.size, 0, none⟩ = some (.func (.yield l) #[] #[]) := by
    rw [← hW3]
    exact cell_older _ (cell_older _ (cell_newest W (.func (.yield l) #[] #[]) 66))
  have k2 : W3.cell? ⟨W.heap.size + 1, 0, none⟩ = some (.slice A arcs.length c) := by
    have h := cell_newest (W.alloc (.cells #[.func (.yield l) #[] #[]] 66)) (.slice A arcs.length c) 24
    rw [World.size_alloc] at h
    rw [← hW3]
    exact cell_older _ h
  have k3 : W3.cell? ⟨W.heap.size + 1 + 1, 0, none⟩ = some (.int .i64 (d : Int)) := by
    have h := cell_newest ((W.alloc (.cells #[.func (.yield l) #[] #[]] 66)).alloc (.cells #[.slice A arcs.length c] 24)) (.int .i64 (d : Int)) 3
    rw [World.size_alloc, World.size_alloc] at h
    rw [← hW3]
    exact h
  have hYO : ¬ O W.heap.size := fun e => by have := hOW _ e; omega
  rw [hW3]
  clear hW3
  have hmI : EachMem (fun k => O k ∨ W3.heap.size ≤ k) W3 bn ba ((d + 1 : Nat) : Int) A c arcs := (hm1.grow fun k hk e => e.resolve_right (by omega)).turn (Turn.of_below _ hb3)
  have hmN : EachMem O W3 (W.heap.size + 1 + 1) (W.heap.size + 1) (d : Int) A c arcs := ⟨k3, fun e => by have := hOW _ e; omega, k2, fun e => by have := hOW _ e; omega, hm1.grid.turn (Turn.of_below O hb3)⟩
  have steadyTurn : ∀ (O' : Nat → Prop) (Wa Wb : World), Turn (fun k => ¬ O' k ∧ W3.heap.size ≤ k) Wa Wb → Turn (fun k => ¬ O' k ∧ W.heap.size ≤ k) Wa Wb := fun O' Wa Wb h => h.mono fun j _ hj => ⟨hj.1, by have := hj.2; omega⟩
  have keepTurn : ∀ (O' : Nat → Prop) (Wa Wb : World), Turn O W Wa → Turn (fun k => ¬ O' k ∧ W3.heap.size ≤ k) Wa Wb → Turn O W Wb := fun O' Wa Wb h1 h => h1.trans h fun j hj hn => by have := hn.2; omega
  refine wpIn_rangeFunc_foot (n := 9) rfl rfl (enters_of Try.func66 (by kernel_rfl) rfl) (rowO_like 0) (ih O W3 (W.heap.size + 1 + 1) (W.heap.size + 1) c A hmN)
    (fun O' pre Wc => J O' (pre.flatMap (extM arcs)) Wc ∧ (∀ k, O' k → O k ∨ W3.heap.size ≤ k) ∧ EachMem (fun k => O k ∨ W3.heap.size ≤ k) Wc bn ba ((d + 1 : Nat) : Int) A c arcs ∧ Wc.cell? ⟨W.heap.size, 0, none⟩ = some (.func (.yield l) #[] #[]) ∧ Turn O W Wc ∧ W3.heap.size ≤ Wc.heap.size)
    (fun cd O' _ Wc => cd = .ret ∧ (∃ q, q <+: fillM arcs (d + 1) [] ∧ Jx O' q Wc) ∧ (∀ k, O' k → O k ∨ W3.heap.size ≤ k) ∧ Turn O W Wc)
    ?steady ?steadyx ?bound ?start
    (fun v => { tmps := #[.func (.yield l) #[] #[], .pointer (some ⟨bn, 0, none⟩), .pointer (some ⟨ba, 0, none⟩), .pointer (some ⟨W.heap.size, 0, none⟩), v, undef, .int .i64 ((d : Int) + 1), .bool false, undef, undef, .slice A arcs.length c, .int .i64 ((d : Int) + 1), .int .i64 (d : Int), .func (.func 66) #[] #[.pointer (some ⟨W.heap.size + 1 + 1, 0, none⟩), .pointer (some ⟨W.heap.size + 1, 0, none⟩)], v, undef, undef, undef, undef, undef, undef, undef, undef, undef, undef, undef, undef, undef, undef, undef, undef, undef, undef, undef, undef], defers := [] })
    ?assign ?body ?done ?stop
  case steady =>
    rintro O' pre Wa Wb ⟨a1, a2, a3, a4, a5, a6⟩ ht
    refine ⟨hJ _ _ _ _ a1 (steadyTurn _ _ _ ht), a2, a3.turn (ht.mono fun j _ hj => Or.inr hj.2), ?_, keepTurn _ _ _ a5 ht, Nat.le_trans a6 ht.size⟩
    exact (ht.cell (p := ⟨W.heap.size, 0, none⟩) (fun e => by have := e.2; dsimp only at this; omega) (cell_lt a4)).trans a4
  case steadyx =>
    rintro cd O' pre Wa Wb ⟨a1, ⟨q, a2, a3⟩, a4, a5⟩ ht
    exact ⟨a1, ⟨q, a2, hJx _ _ _ _ a3 (steadyTurn _ _ _ ht)⟩, a4, keepTurn _ _ _ a5 ht⟩
  case bound =>
    rintro O' pre Wa ⟨a1, _⟩
    exact hJb _ _ _ a1
  case start => exact ⟨hJ _ _ _ _ h0 (Turn.of_below _ hb3), fun k hk => Or.inl hk, hmI, k1, Turn.of_below _ hb3, Nat.le_refl _⟩
  case assign =>
    intro l' v Wa K hK
    gi_wp2
    exact hK
  case done =>
    rintro D O' Wa hD hOD hsub htu ⟨a1, a2, a3, a4, a5, a6⟩ hK
    gi_wp2
    refine ⟨by simp, .inl ⟨_, _, rfl, run_takeDeferred hK, ?_⟩⟩
    refine ⟨_, results_none rfl _ _ _, ⟨_, rfl⟩, O', fun k hk => (a2 k hk).imp id fun h => by omega, keepTurn O' _ _ a5 (Turn.put _ _ ⟨hOD, hD⟩), Or.inl ?_⟩
    rw [← come_all]
    exact hJ _ _ _ _ a1 (Turn.put _ _ ⟨hOD, by omega⟩)
  case stop =>
    rintro D cd O' pre Wa hD hOD hsub htu hpre ⟨rfl, ⟨q, a2, a3⟩, a4, a5⟩ hK
    gi_wp2
    refine ⟨by simp, .inl ⟨_, _, rfl, run_takeDeferred hK, ?_⟩⟩
    exact ⟨_, results_none rfl _ _ _, ⟨_, rfl⟩, O', fun k hk => (a4 k hk).imp id fun h => by omega, keepTurn O' _ _ a5 (Turn.put _ _ ⟨hOD, hD⟩), Or.inr ⟨q, a2, hJx _ _ _ _ a3 (Turn.put _ _ ⟨hOD, by omega⟩)⟩⟩
  case body =>
    rintro l' O' pre x v Wb ⟨a1, a2, a3, a4, a5, a6⟩ hrow hpre
    obtain ⟨hxl, hxv⟩ := fill_in d x (hpre.mem (by simp))
    have HXL := Lib.hid hxl
    have HXV := Lib.hid (show 0 < x.length → 0 ≤ x.getD (x.length - 1) 0 ∧ x.getD (x.length - 1) 0 < (arcs.length : Int) from fun h => hxv (x.length - 1) (by omega))
    have hx6 : x.length ≤ 6 := by omega
    clear hxl hxv
    obtain ⟨A2, c2, rfl, _⟩ := rowS_of_owns hrow.1
    have ca := a3.tab
    obtain ⟨i0, hi, hz0, hz1, hz2⟩ := info_parts infoInt
    have hmx : Try.prog.follows .mixedOrders = true := by kernel_rfl
    gi_wp2
    gi_loopw [17] (fun i wr => ∃ (k : Nat) (O1 : Nat → Prop), k ≤ arcs.length ∧ i = .int .i64 (k : Int) ∧ J O1 (pre.flatMap (extM arcs) ++ extTo arcs x k) wr ∧ (∀ j, O1 j → O' j ∨ Wb.heap.size ≤ j) ∧ Turn O' Wb wr) (fun i _ => arcs.length - (intOf i).toNat)
    case atStart => exact ⟨0, O', Nat.zero_le _, rfl, by rw [show extTo arcs x 0 = [] from rfl, List.append_nil]; exact a1, fun j hj => Or.inl hj, Turn.refl _ _⟩
    case round =>
      obtain ⟨k, O1, hk, rfl, b1, b2, b3⟩ := hrel
      by_cases hkl : k < arcs.length
      · gi_wp2
        refine wpIn_region_round hmx (by kernel_rfl) ?_
        have hbd : Below wr.heap.size wr wr.drew := (Below.refl _ _).drew
        have b4 : Turn O' Wb wr.drew := b3.trans (Turn.of_below O' hbd) fun _ _ h => h
        have b5 := hJ _ _ _ _ b1 (Turn.of_below _ hbd)
        obtain ⟨Wd, hWd⟩ : ∃ Wd, wr.drew = Wd := ⟨_, rfl⟩
        rw [hWd] at b4 b5 ⊢
        clear hbd b1 b3 hWd
        have e1 := a3.turn (b4.mono fun j _ hj => a2 j hj)
        have cy : Wd.cell? ⟨W.heap.size, 0, none⟩ = some (.func (.yield l) #[] #[]) := (b4.cell (p := ⟨W.heap.size, 0, none⟩) (fun e => (a2 _ e).elim hYO fun h => by dsimp only at h; omega) (cell_lt a4)).trans a4
        have ho := b4.row hrow.1 hrow.2
        have HGO := Lib.hid (impl_goesOn A c arcs h2 A2 c2 x (by omega) HXV.out k hkl Wd e1.grid.gridS (by
          obtain ⟨A3, c3, he, hs⟩ := rowS_of_owns ho
          obtain ⟨rfl, _, _⟩ := Value.slice.inj he
          exact hs))
        have ct := e1.tab
        have HO := Lib.hid ho
        have HE := Lib.hid e1
        clear ho e1
        refine wpAnyIn_take (i := 1) (v := ?v1) rfl rfl (by kernel_rfl) (by kernel_rfl) (by kernel_rfl) (fun _ _ _ h => h) ⟨Or.inl ⟨by rfl, ?hy1⟩, fun _ => rfl⟩ ?_
        case hy1 => (intro w; go_simp; try with_reducible rfl)
        refine wpAnyIn_take (i := 2) (v := ?v2) rfl rfl (by kernel_rfl) (by kernel_rfl) (by kernel_rfl) (fun _ _ _ h => h) ⟨Or.inl ⟨by rfl, ?hy2⟩, fun _ => rfl⟩ ?_
        case hy2 => (intro w; go_simp; try with_reducible rfl)
        refine wpAnyIn_ready (rs := [0]) (by kernel_rfl) (by simp) ?_
        refine AllReadyIn.cons rfl (fun K hK => ?_) AllReadyIn.nil
        go_simp
        refine hK _ _ ?_
        clear hK K
        refine wpAnyIn_ready (rs := [3]) (by kernel_rfl) (by simp) ?_
        refine AllReadyIn.cons rfl (fun K hK => ?_) AllReadyIn.nil
        cases hg : goesOnM arcs x k with
        | false =>
          rw [hg] at HGO
          go_simp
          gi_wp2_with (refine ⟨trivial, ?_⟩; gi_at_call 58; refine (callsIn_wide.2 HGO.out).mono ?_; rintro e w' ⟨rfl, hb⟩)
          refine wpAnyIn_take (i := 4) (v := ?v4f) rfl rfl (by kernel_rfl) (by kernel_rfl) (by kernel_rfl) (fun _ _ _ h => h) ⟨Or.inl ⟨by rfl, ?hy4f⟩, fun _ => rfl⟩ ?_
          case hy4f => (intro w; go_simp; try with_reducible rfl)
          refine wpAnyIn_take (i := 5) (v := undef) rfl rfl (by kernel_rfl) (by kernel_rfl) (by kernel_rfl) (fun _ _ _ h => h) ⟨Or.inr ⟨by rfl, rfl⟩, fun _ => rfl⟩ ?_
          refine wpAnyIn_take (i := 6) (v := undef) rfl rfl (by kernel_rfl) (by kernel_rfl) (by kernel_rfl) (fun _ _ _ h => h) ⟨Or.inr ⟨by rfl, rfl⟩, fun _ => rfl⟩ ?_
          refine wpAnyIn_take (i := 8) (v := undef) rfl rfl (by kernel_rfl) (by kernel_rfl) (by kernel_rfl) (fun _ _ _ h => h) ⟨Or.inr ⟨by rfl, rfl⟩, fun _ => rfl⟩ ?_
          refine wpAnyIn_take (i := 9) (v := undef) rfl rfl (by kernel_rfl) (by kernel_rfl) (by kernel_rfl) (fun _ _ _ h => h) ⟨Or.inr ⟨by rfl, rfl⟩, fun _ => rfl⟩ ?_
          refine wpAnyIn_ready (rs := [7]) (by kernel_rfl) (by simp) ?_
          refine AllReadyIn.cons rfl (fun K hK => ?_) AllReadyIn.nil
          go_simp
          first | refine hK _ _ ?_ | (refine ⟨trivial, ?_⟩; refine hK _ _ ?_) | (refine ⟨fun _ _ => trivial, ?_⟩; refine hK _ _ ?_)
          clear hK K
          refine wpAnyIn_ready (rs := [10]) (by kernel_rfl) (by simp) ?_
          refine AllReadyIn.cons rfl (fun K hK => ?_) AllReadyIn.nil
          go_simp
          first | refine hK _ _ ?_ | (refine ⟨trivial, ?_⟩; refine hK _ _ ?_) | (refine ⟨fun _ _ => trivial, ?_⟩; refine hK _ _ ?_)
          clear hK K
          refine wpAnyIn_ready (rs := [11]) (by kernel_rfl) (by simp) ?_
          refine AllReadyIn.cons rfl (fun K hK => ?_) AllReadyIn.nil
          go_simp
          first | refine hK _ _ ?_ | (refine ⟨trivial, ?_⟩; refine hK _ _ ?_) | (refine ⟨fun _ _ => trivial, ?_⟩; refine hK _ _ ?_)
          clear hK K
          refine wpAnyIn_take (i := 12) (v := undef) rfl rfl (by kernel_rfl) (by kernel_rfl) (by kernel_rfl) (fun _ _ _ h => h) ⟨Or.inr ⟨by rfl, rfl⟩, fun _ => rfl⟩ ?_
          refine wpAnyIn_take (i := 13) (v := ?v13f) rfl rfl (by kernel_rfl) (by kernel_rfl) (by kernel_rfl) (fun _ _ _ h => h) ⟨Or.inl ⟨by rfl, ?hy13f⟩, fun _ => rfl⟩ ?_
          case hy13f => (intro w; go_simp; try with_reducible rfl)
          refine wpAnyIn_done (by kernel_rfl) ?_ _
          gi_wp2
          refine ⟨⟨k + 1, O1, by omega, by go_num, ?_, b2, b4.trans (Turn.of_below O' hb) fun _ _ h => h⟩, ?_⟩
          · rw [extTo_next, if_neg (by rw [hg]; decide), List.append_nil]
            exact hJ _ _ _ _ b5 (Turn.of_below _ hb)
          · simp [intOf]; omega
        | true =>
          rw [hg] at HGO
          go_simp
          gi_wp2_with (refine ⟨trivial, ?_⟩; gi_at_call 58; refine (callsIn_wide.2 HGO.out).mono ?_; rintro e w1 ⟨rfl, hb1⟩)
          have hYl := cell_lt cy
          have HY : Hid (∀ W', Below w1.heap.size w1 W' → W'.cell? ⟨W.heap.size, 0, none⟩ = some (.func (.yield l) #[] #[])) := Lib.hid fun W' h => (h.cell (p := ⟨W.heap.size, 0, none⟩) (Nat.lt_of_lt_of_le hYl hb1.size)).trans ((hb1.cell (p := ⟨W.heap.size, 0, none⟩) hYl).trans cy)
          have HCL : Hid (∀ W', Below w1.heap.size w1 W' → Calls Try.prog 67 #[.slice A2 x.length c2] W' (NewA x W')) := Lib.hid fun W' h => clone_ints 0 (.slice A2 x.length c2) x (by omega) W' (OwnA.below HO.out (below_behind hb1 h))
          have HB0 : Hid (Below w1.heap.size w1 w1) := Lib.hid (Below.refl _ _)
          have HFIN := fun gg cap w9 (ho : OwnA w9 w1.heap.size (.slice (some ⟨gg, 0, none⟩) (x.length + 1) cap) (x ++ [(k : Int)])) (hb : Below w1.heap.size w1 w9) => hY O1 (pre.flatMap (extM arcs) ++ extTo arcs x k) (x ++ [(k : Int)]) (.slice (some ⟨gg, 0, none⟩) (x.length + 1) cap) w9
            (hJ _ _ _ _ b5 (Turn.of_below _ (below_behind hb1 hb))) ⟨OwnA.mono ho (by have := hW.size; have := b4.size; have := hb1.size; omega), fun q hq e => by have h1 := hJb _ _ _ b5 q e; have h2 := (World.ownsRow.lt ho q hq).1; have h3 := hb1.size; omega⟩ (come_prefix hpre hkl hg)
          have HALL : ∀ (w9 W' : World) (gg cap : Nat) (O2 : Nat → Prop), OwnA w9 w1.heap.size (.slice (some ⟨gg, 0, none⟩) (x.length + 1) cap) (x ++ [(k : Int)]) → Below w1.heap.size w1 w9 → Grow O1 w9.heap.size (.slice (some ⟨gg, 0, none⟩) (x.length + 1) cap) O2 → Turn O1 w9 W' → (∀ j, O2 j → O' j ∨ Wb.heap.size ≤ j) ∧ Turn O' Wb W' := by
            intro w9 W' gg cap O2 ho hb hgr htu
            have hs9 : Wb.heap.size ≤ w1.heap.size := Nat.le_trans b4.size hb1.size
            refine ⟨fun j hj => ?_, (b4.trans (Turn.of_below O' (below_behind hb1 hb)) fun _ _ h => h).trans htu fun j hjl h => (b2 j h).resolve_right (by omega)⟩
            rcases hgr j hj with h | h | h
            · exact b2 j h
            · right; have := hb.size; omega
            · right; have := (World.ownsRow.lt ho j h).1; omega
          have HNEXT : ∀ (w9 W' : World) (gg cap : Nat), OwnA w9 w1.heap.size (.slice (some ⟨gg, 0, none⟩) (x.length + 1) cap) (x ++ [(k : Int)]) → Below w1.heap.size w1 w9 →
              (∃ O2, Grow O1 w9.heap.size (.slice (some ⟨gg, 0, none⟩) (x.length + 1) cap) O2 ∧ Turn O1 w9 W' ∧ J O2 (pre.flatMap (extM arcs) ++ extTo arcs x k ++ [x ++ [(k : Int)]]) W') →
              (∃ (k1 : Nat) (O1 : Nat → Prop), k1 ≤ arcs.length ∧ Value.int .i64 ((k : Int) + 1) = .int .i64 (k1 : Int) ∧ J O1 (pre.flatMap (extM arcs) ++ extTo arcs x k1) W' ∧ (∀ j, O1 j → O' j ∨ Wb.heap.size ≤ j) ∧ Turn O' Wb W') ∧ arcs.length - (intOf (.int .i64 ((k : Int) + 1))).toNat < arcs.length - (intOf (.int .i64 (k : Int))).toNat := by
            rintro w9 W' gg cap ho hb ⟨O2, hgr, htu, hj⟩
            obtain ⟨g1, g2⟩ := HALL w9 W' gg cap O2 ho hb hgr htu
            refine ⟨⟨k + 1, O2, by omega, by go_num, ?_, g1, g2⟩, ?_⟩
            · rw [extTo_next, if_pos hg, ← List.append_assoc]; exact hj
            · simp [intOf]; omega
          have HRET : ∀ (w9 W' : World) (gg cap : Nat), OwnA w9 w1.heap.size (.slice (some ⟨gg, 0, none⟩) (x.length + 1) cap) (x ++ [(k : Int)]) → Below w1.heap.size w1 w9 →
              (∃ O2, Grow O1 w9.heap.size (.slice (some ⟨gg, 0, none⟩) (x.length + 1) cap) O2 ∧ Turn O1 w9 W' ∧ Jx O2 (pre.flatMap (extM arcs) ++ extTo arcs x k ++ [x ++ [(k : Int)]]) W') →
              ∃ O2, Grow O' Wb.heap.size (.slice A2 x.length c2) O2 ∧ Turn O' Wb W' ∧ (∃ q, q <+: fillM arcs (d + 1) [] ∧ Jx O2 q W') ∧ (∀ k, O2 k → O k ∨ W3.heap.size ≤ k) ∧ Turn O W W' := by
            rintro w9 W' gg cap ho hb ⟨O2, hgr, htu, hj⟩
            obtain ⟨g1, g2⟩ := HALL w9 W' gg cap O2 ho hb hgr htu
            refine ⟨O2, fun j hj => (g1 j hj).imp id Or.inl, g2, ⟨_, come_prefix hpre hkl hg, hj⟩, fun j hj => ?_, a5.trans g2 fun j hjl h => (a2 j h).resolve_right (by omega)⟩
            rcases g1 j hj with h | h
            · exact a2 j h
            · right; omega
          clear HALL hYl cy ct
          replace HFIN := Lib.hid HFIN
          replace HNEXT := Lib.hid HNEXT
          replace HRET := Lib.hid HRET
          refine wpAnyIn_take (i := 4) (v := ?v4t) rfl rfl (by kernel_rfl) (by kernel_rfl) (by kernel_rfl) (fun _ _ _ h => h) ⟨Or.inl ⟨by rfl, ?hy4t⟩, fun _ => rfl⟩ ?_
          case hy4t => (intro w; go_simp; try with_reducible rfl)
          refine wpAnyIn_take (i := 6) (v := ?v6t) rfl rfl (by kernel_rfl) (by kernel_rfl) (by kernel_rfl) (fun _ _ _ h => h) ⟨Or.inl ⟨by rfl, ?hy6t⟩, fun _ => rfl⟩ ?_
          case hy6t => (intro w; go_simp; try with_reducible rfl)
          refine wpAnyIn_take (i := 8) (v := ?v8t) rfl rfl (by kernel_rfl) (by kernel_rfl) (by kernel_rfl) (fun _ _ _ h => h) ⟨Or.inl ⟨by rfl, ?hy8t⟩, fun _ => rfl⟩ ?_
          case hy8t => (intro w; go_simp; try with_reducible rfl)
          refine wpAnyIn_ready (rs := [5, 7, 9]) (by kernel_rfl) (by simp) ?_
          refine AllReadyIn.cons rfl (fun K hK => ?_) (AllReadyIn.cons rfl (fun K hK => ?_) (AllReadyIn.cons rfl (fun K hK => ?_) AllReadyIn.nil))
          · have y5 := HY.out _ HB0.out
            go_simp
            refine hK _ _ ?_
            clear hK K
            refine wpAnyIn_ready (rs := [7, 9]) (by kernel_rfl) (by simp) ?_
            refine AllReadyIn.cons rfl (fun K hK => ?_) (AllReadyIn.cons rfl (fun K hK => ?_) AllReadyIn.nil)
            · have HC57 := Lib.hid (HCL.out _ HB0.out)
              go_simp
              gi_wp2_with (refine ⟨trivial, ?_⟩; gi_at_call 67; refine (callsIn_wide.2 HC57.out).mono ?_; rintro e w57 ⟨v57, rfl, ho57, hb57⟩)
              have HB57 := Lib.hid (HB0.out.trans (hb57.mono HB0.out.size))
              have HV57 : Hid (OwnA w57 w1.heap.size v57 x) := Lib.hid (OwnA.mono ho57 HB0.out.size)
              clear ho57 hb57 HC57
              refine wpAnyIn_ready (rs := [9]) (by kernel_rfl) (by simp) ?_
              refine AllReadyIn.cons rfl (fun K hK => ?_) AllReadyIn.nil
              go_simp
              refine hK _ _ ?_
              clear hK K
              obtain ⟨w579, hw579⟩ : ∃ w', w57.alloc (.cells #[.int .i64 (k : Int)] 3) = w' := ⟨_, rfl⟩
              have hb579 : Below w57.heap.size w57 w579 := by rw [← hw579]; exact below_new
              have HB579 := Lib.hid (HB57.out.trans (hb579.mono HB57.out.size))
              have HN579 : Hid (w579.cell? ⟨w57.heap.size, 0, none⟩ = some (.int .i64 (k : Int))) := Lib.hid (by rw [← hw579]; exact cell_newest _ _ _)
              have HV579 := Lib.hid (HV57.out.below hb579)
              rw [hw579]
              clear hb579 hw579
              refine wpAnyIn_ready (rs := [10]) (by kernel_rfl) (by simp) ?_
              refine AllReadyIn.cons rfl (fun K hK => ?_) AllReadyIn.nil
              refine stepIn_append_lies (by rfl) (.tmp 27) (.tmp 29) 28 rfl w1.heap.size 3 i0 (.int .i64 0) 1 8 Try.underlying28 hi hz0 hz1 hz2 rfl (by decide) _ _ _ rfl HV579.out ⟨w57.heap.size, 0, none⟩ 1 1 [.int .i64 (k : Int)] rfl rfl (news_one HN579.out) (ints_one [(k : Int)]) (by omega) (by unfold maxLen; omega) (by omega) HB579.out.size _ rfl ?_
              intro gg cap w9 ho57910 hg57910 _ _
              have HFO : Hid (OwnA w9 w1.heap.size (.slice (some ⟨gg, 0, none⟩) (x.length + 1) cap) (x ++ [(k : Int)])) := Lib.hid (by unfold OwnA; rw [List.length_append, List.map_append]; exact ho57910)
              have HFB := Lib.hid (HB579.out.grown hg57910 HB579.out.size fun q hq => (HV579.out.lt q hq).1)
              clear ho57910 hg57910
              refine hK _ _ ?_
              clear hK K
              have HYD := HFIN.out gg cap w9 HFO.out HFB.out
              refine wpAnyIn_ready (rs := [11]) (by kernel_rfl) (by simp) ?_
              refine AllReadyIn.cons rfl (fun K hK => ?_) AllReadyIn.nil
              refine stepIn_yield (by rfl) (.tmp 25) (.tmp 30) 28 rfl rfl _ rfl HYD ?yes57910 (by rintro e W' ⟨_, _, _, ⟨rfl, _⟩ | ⟨rfl, _⟩⟩ <;> exact ⟨_, rfl⟩)
              rintro bb W' hend
              refine hK _ _ ?_
              clear hK K HYD
              cases bb with
              | false =>
                refine wpAnyIn_take (i := 12) (v := ?v1257910n) rfl rfl (by kernel_rfl) (by kernel_rfl) (by kernel_rfl) (fun _ _ _ h => h) ⟨Or.inl ⟨by rfl, ?hy1257910n⟩, fun _ => rfl⟩ ?_
                case hy1257910n => (intro w; go_simp; try with_reducible rfl)
                refine wpAnyIn_take (i := 13) (v := ?v1357910n) rfl rfl (by kernel_rfl) (by kernel_rfl) (by kernel_rfl) (fun _ _ _ h => h) ⟨Or.inl ⟨by rfl, ?hy1357910n⟩, fun _ => rfl⟩ ?_
                case hy1357910n => (intro w; go_simp; try with_reducible rfl)
                refine wpAnyIn_done (by kernel_rfl) ?_ _
                have hres := Lib.hid (HRET.out w9 W' gg cap HFO.out HFB.out (hend.elim fun O2 h => ⟨O2, h.1, h.2.1, h.2.2.elim (fun e => by cases e.1) fun e => e.2⟩))
                clear hend HFO HFB HFIN HRET HNEXT
                gi_wp2
                obtain ⟨O2, c1, c2, c3, c4, c5⟩ := hres.out
                exact ⟨O2, c1, c2, rfl, c3, c4, c5⟩
              | true =>
                refine wpAnyIn_take (i := 12) (v := ?v1257910y) rfl rfl (by kernel_rfl) (by kernel_rfl) (by kernel_rfl) (fun _ _ _ h => h) ⟨Or.inl ⟨by rfl, ?hy1257910y⟩, fun _ => rfl⟩ ?_
                case hy1257910y => (intro w; go_simp; try with_reducible rfl)
                refine wpAnyIn_take (i := 13) (v := ?v1357910y) rfl rfl (by kernel_rfl) (by kernel_rfl) (by kernel_rfl) (fun _ _ _ h => h) ⟨Or.inl ⟨by rfl, ?hy1357910y⟩, fun _ => rfl⟩ ?_
                case hy1357910y => (intro w; go_simp; try with_reducible rfl)
                refine wpAnyIn_done (by kernel_rfl) ?_ _
                have hres := Lib.hid (HNEXT.out w9 W' gg cap HFO.out HFB.out (hend.elim fun O2 h => ⟨O2, h.1, h.2.1, h.2.2.elim (fun e => e.2) fun e => by cases e.1⟩))
                clear hend HFO HFB HFIN HRET HNEXT
                gi_wp2
                exact hres.out
            · go_simp
              refine hK _ _ ?_
              clear hK K
              obtain ⟨w59, hw59⟩ : ∃ w', w1.alloc (.cells #[.int .i64 (k : Int)] 3) = w' := ⟨_, rfl⟩
              have hb59 : Below w1.heap.size w1 w59 := by rw [← hw59]; exact below_new
              have HB59 := Lib.hid (HB0.out.trans (hb59.mono HB0.out.size))
              have HN59 : Hid (w59.cell? ⟨w1.heap.size, 0, none⟩ = some (.int .i64 (k : Int))) := Lib.hid (by rw [← hw59]; exact cell_newest _ _ _)
              rw [hw59]
              clear hb59 hw59
              refine wpAnyIn_ready (rs := [7]) (by kernel_rfl) (by simp) ?_
              refine AllReadyIn.cons rfl (fun K hK => ?_) AllReadyIn.nil
              have HC597 := Lib.hid (HCL.out _ HB59.out)
              go_simp
              gi_wp2_with (refine ⟨trivial, ?_⟩; gi_at_call 67; refine (callsIn_wide.2 HC597.out).mono ?_; rintro e w597 ⟨v597, rfl, ho597, hb597⟩)
              have HB597 := Lib.hid (HB59.out.trans (hb597.mono HB59.out.size))
              have HV597 : Hid (OwnA w597 w1.heap.size v597 x) := Lib.hid (OwnA.mono ho597 HB59.out.size)
              have HN597 := Lib.hid ((hb597.cell (p := ⟨w1.heap.size, 0, none⟩) (cell_lt HN59.out)).trans HN59.out)
              clear ho597 hb597 HC597
              refine wpAnyIn_ready (rs := [10]) (by kernel_rfl) (by simp) ?_
              refine AllReadyIn.cons rfl (fun K hK => ?_) AllReadyIn.nil
              refine stepIn_append_lies (by rfl) (.tmp 27) (.tmp 29) 28 rfl w1.heap.size 3 i0 (.int .i64 0) 1 8 Try.underlying28 hi hz0 hz1 hz2 rfl (by decide) _ _ _ rfl HV597.out ⟨w1.heap.size, 0, none⟩ 1 1 [.int .i64 (k : Int)] rfl rfl (news_one HN597.out) (ints_one [(k : Int)]) (by omega) (by unfold maxLen; omega) (by omega) HB597.out.size _ rfl ?_
              intro gg cap w9 ho59710 hg59710 _ _
              have HFO : Hid (OwnA w9 w1.heap.size (.slice (some ⟨gg, 0, none⟩) (x.length + 1) cap) (x ++ [(k : Int)])) := Lib.hid (by unfold OwnA; rw [List.length_append, List.map_append]; exact ho59710)
              have HFB := Lib.hid (HB597.out.grown hg59710 HB597.out.size fun q hq => (HV597.out.lt q hq).1)
              clear ho59710 hg59710
              refine hK _ _ ?_
              clear hK K
              have HYD := HFIN.out gg cap w9 HFO.out HFB.out
              refine wpAnyIn_ready (rs := [11]) (by kernel_rfl) (by simp) ?_
              refine AllReadyIn.cons rfl (fun K hK => ?_) AllReadyIn.nil
              refine stepIn_yield (by rfl) (.tmp 25) (.tmp 30) 28 rfl rfl _ rfl HYD ?yes59710 (by rintro e W' ⟨_, _, _, ⟨rfl, _⟩ | ⟨rfl, _⟩⟩ <;> exact ⟨_, rfl⟩)
              rintro bb W' hend
              refine hK _ _ ?_
              clear hK K HYD
              cases bb with
              | false =>
                refine wpAnyIn_take (i := 12) (v := ?v1259710n) rfl rfl (by kernel_rfl) (by kernel_rfl) (by kernel_rfl) (fun _ _ _ h => h) ⟨Or.inl ⟨by rfl, ?hy1259710n⟩, fun _ => rfl⟩ ?_
                case hy1259710n => (intro w; go_simp; try with_reducible rfl)
                refine wpAnyIn_take (i := 13) (v := ?v1359710n) rfl rfl (by kernel_rfl) (by kernel_rfl) (by kernel_rfl) (fun _ _ _ h => h) ⟨Or.inl ⟨by rfl, ?hy1359710n⟩, fun _ => rfl⟩ ?_
                case hy1359710n => (intro w; go_simp; try with_reducible rfl)
                refine wpAnyIn_done (by kernel_rfl) ?_ _
                have hres := Lib.hid (HRET.out w9 W' gg cap HFO.out HFB.out (hend.elim fun O2 h => ⟨O2, h.1, h.2.1, h.2.2.elim (fun e => by cases e.1) fun e => e.2⟩))
                clear hend HFO HFB HFIN HRET HNEXT
                gi_wp2
                obtain ⟨O2, c1, c2, c3, c4, c5⟩ := hres.out
                exact ⟨O2, c1, c2, rfl, c3, c4, c5⟩
              | true =>
                refine wpAnyIn_take (i := 12) (v := ?v1259710y) rfl rfl (by kernel_rfl) (by kernel_rfl) (by kernel_rfl) (fun _ _ _ h => h) ⟨Or.inl ⟨by rfl, ?hy1259710y⟩, fun _ => rfl⟩ ?_
                case hy1259710y => (intro w; go_simp; try with_reducible rfl)
                refine wpAnyIn_take (i := 13) (v := ?v1359710y) rfl rfl (by kernel_rfl) (by kernel_rfl) (by kernel_rfl) (fun _ _ _ h => h) ⟨Or.inl ⟨by rfl, ?hy1359710y⟩, fun _ => rfl⟩ ?_
                case hy1359710y => (intro w; go_simp; try with_reducible rfl)
                refine wpAnyIn_done (by kernel_rfl) ?_ _
                have hres := Lib.hid (HNEXT.out w9 W' gg cap HFO.out HFB.out (hend.elim fun O2 h => ⟨O2, h.1, h.2.1, h.2.2.elim (fun e => e.2) fun e => by cases e.1⟩))
                clear hend HFO HFB HFIN HRET HNEXT
                gi_wp2
                exact hres.out
          · have HC7 := Lib.hid (HCL.out _ HB0.out)
            go_simp
            gi_wp2_with (refine ⟨trivial, ?_⟩; gi_at_call 67; refine (callsIn_wide.2 HC7.out).mono ?_; rintro e w7 ⟨v7, rfl, ho7, hb7⟩)
            have HB7 := Lib.hid (HB0.out.trans (hb7.mono HB0.out.size))
            have HV7 : Hid (OwnA w7 w1.heap.size v7 x) := Lib.hid (OwnA.mono ho7 HB0.out.size)
            clear ho7 hb7 HC7
            refine wpAnyIn_ready (rs := [5, 9]) (by kernel_rfl) (by simp) ?_
            refine AllReadyIn.cons rfl (fun K hK => ?_) (AllReadyIn.cons rfl (fun K hK => ?_) AllReadyIn.nil)
            · have y75 := HY.out _ HB7.out
              go_simp
              refine hK _ _ ?_
              clear hK K
              refine wpAnyIn_ready (rs := [9]) (by kernel_rfl) (by simp) ?_
              refine AllReadyIn.cons rfl (fun K hK => ?_) AllReadyIn.nil
              go_simp
              refine hK _ _ ?_
              clear hK K
              obtain ⟨w759, hw759⟩ : ∃ w', w7.alloc (.cells #[.int .i64 (k : Int)] 3) = w' := ⟨_, rfl⟩
              have hb759 : Below w7.heap.size w7 w759 := by rw [← hw759]; exact below_new
              have HB759 := Lib.hid (HB7.out.trans (hb759.mono HB7.out.size))
              have HN759 : Hid (w759.cell? ⟨w7.heap.size, 0, none⟩ = some (.int .i64 (k : Int))) := Lib.hid (by rw [← hw759]; exact cell_newest _ _ _)
              have HV759 := Lib.hid (HV7.out.below hb759)
              rw [hw759]
              clear hb759 hw759
              refine wpAnyIn_ready (rs := [10]) (by kernel_rfl) (by simp) ?_
              refine AllReadyIn.cons rfl (fun K hK => ?_) AllReadyIn.nil
              refine stepIn_append_lies (by rfl) (.tmp 27) (.tmp 29) 28 rfl w1.heap.size 3 i0 (.int .i64 0) 1 8 Try.underlying28 hi hz0 hz1 hz2 rfl (by decide) _ _ _ rfl HV759.out ⟨w7.heap.size, 0, none⟩ 1 1 [.int .i64 (k : Int)] rfl rfl (news_one HN759.out) (ints_one [(k : Int)]) (by omega) (by unfold maxLen; omega) (by omega) HB759.out.size _ rfl ?_
              intro gg cap w9 ho75910 hg75910 _ _
              have HFO : Hid (OwnA w9 w1.heap.size (.slice (some ⟨gg, 0, none⟩) (x.length + 1) cap) (x ++ [(k : Int)])) := Lib.hid (by unfold OwnA; rw [List.length_append, List.map_append]; exact ho75910)
              have HFB := Lib.hid (HB759.out.grown hg75910 HB759.out.size fun q hq => (HV759.out.lt q hq).1)
              clear ho75910 hg75910
              refine hK _ _ ?_
              clear hK K
              have HYD := HFIN.out gg cap w9 HFO.out HFB.out
              refine wpAnyIn_ready (rs := [11]) (by kernel_rfl) (by simp) ?_
              refine AllReadyIn.cons rfl (fun K hK => ?_) AllReadyIn.nil
              refine stepIn_yield (by rfl) (.tmp 25) (.tmp 30) 28 rfl rfl _ rfl HYD ?yes75910 (by rintro e W' ⟨_, _, _, ⟨rfl, _⟩ | ⟨rfl, _⟩⟩ <;> exact ⟨_, rfl⟩)
              rintro bb W' hend
              refine hK _ _ ?_
              clear hK K HYD
              cases bb with
              | false =>
                refine wpAnyIn_take (i := 12) (v := ?v1275910n) rfl rfl (by kernel_rfl) (by kernel_rfl) (by kernel_rfl) (fun _ _ _ h => h) ⟨Or.inl ⟨by rfl, ?hy1275910n⟩, fun _ => rfl⟩ ?_
                case hy1275910n => (intro w; go_simp; try with_reducible rfl)
                refine wpAnyIn_take (i := 13) (v := ?v1375910n) rfl rfl (by kernel_rfl) (by kernel_rfl) (by kernel_rfl) (fun _ _ _ h => h) ⟨Or.inl ⟨by rfl, ?hy1375910n⟩, fun _ => rfl⟩ ?_
                case hy1375910n => (intro w; go_simp; try with_reducible rfl)
                refine wpAnyIn_done (by kernel_rfl) ?_ _
                have hres := Lib.hid (HRET.out w9 W' gg cap HFO.out HFB.out (hend.elim fun O2 h => ⟨O2, h.1, h.2.1, h.2.2.elim (fun e => by cases e.1) fun e => e.2⟩))
                clear hend HFO HFB HFIN HRET HNEXT
                gi_wp2
                obtain ⟨O2, c1, c2, c3, c4, c5⟩ := hres.out
                exact ⟨O2, c1, c2, rfl, c3, c4, c5⟩
              | true =>
                refine wpAnyIn_take (i := 12) (v := ?v1275910y) rfl rfl (by kernel_rfl) (by kernel_rfl) (by kernel_rfl) (fun _ _ _ h => h) ⟨Or.inl ⟨by rfl, ?hy1275910y⟩, fun _ => rfl⟩ ?_
                case hy1275910y => (intro w; go_simp; try with_reducible rfl)
                refine wpAnyIn_take (i := 13) (v := ?v1375910y) rfl rfl (by kernel_rfl) (by kernel_rfl) (by kernel_rfl) (fun _ _ _ h => h) ⟨Or.inl ⟨by rfl, ?hy1375910y⟩, fun _ => rfl⟩ ?_
                case hy1375910y => (intro w; go_simp; try with_reducible rfl)
                refine wpAnyIn_done (by kernel_rfl) ?_ _
                have hres := Lib.hid (HNEXT.out w9 W' gg cap HFO.out HFB.out (hend.elim fun O2 h => ⟨O2, h.1, h.2.1, h.2.2.elim (fun e => e.2) fun e => by cases e.1⟩))
                clear hend HFO HFB HFIN HRET HNEXT
                gi_wp2
                exact hres.out
            · go_simp
              refine hK _ _ ?_
              clear hK K
              obtain ⟨w79, hw79⟩ : ∃ w', w7.alloc (.cells #[.int .i64 (k : Int)] 3) = w' := ⟨_, rfl⟩
              have hb79 : Below w7.heap.size w7 w79 := by rw [← hw79]; exact below_new
              have HB79 := Lib.hid (HB7.out.trans (hb79.mono HB7.out.size))
              have HN79 : Hid (w79.cell? ⟨w7.heap.size, 0, none⟩ = some (.int .i64 (k : Int))) := Lib.hid (by rw [← hw79]; exact cell_newest _ _ _)
              have HV79 := Lib.hid (HV7.out.below hb79)
              rw [hw79]
              clear hb79 hw79
              refine wpAnyIn_ready (rs := [5, 10]) (by kernel_rfl) (by simp) ?_
              refine AllReadyIn.cons rfl (fun K hK => ?_) (AllReadyIn.cons rfl (fun K hK => ?_) AllReadyIn.nil)
              · have y795 := HY.out _ HB79.out
                go_simp
                refine hK _ _ ?_
                clear hK K
                refine wpAnyIn_ready (rs := [10]) (by kernel_rfl) (by simp) ?_
                refine AllReadyIn.cons rfl (fun K hK => ?_) AllReadyIn.nil
                refine stepIn_append_lies (by rfl) (.tmp 27) (.tmp 29) 28 rfl w1.heap.size 3 i0 (.int .i64 0) 1 8 Try.underlying28 hi hz0 hz1 hz2 rfl (by decide) _ _ _ rfl HV79.out ⟨w7.heap.size, 0, none⟩ 1 1 [.int .i64 (k : Int)] rfl rfl (news_one HN79.out) (ints_one [(k : Int)]) (by omega) (by unfold maxLen; omega) (by omega) HB79.out.size _ rfl ?_
                intro gg cap w9 ho79510 hg79510 _ _
                have HFO : Hid (OwnA w9 w1.heap.size (.slice (some ⟨gg, 0, none⟩) (x.length + 1) cap) (x ++ [(k : Int)])) := Lib.hid (by unfold OwnA; rw [List.length_append, List.map_append]; exact ho79510)
                have HFB := Lib.hid (HB79.out.grown hg79510 HB79.out.size fun q hq => (HV79.out.lt q hq).1)
                clear ho79510 hg79510
                refine hK _ _ ?_
                clear hK K
                have HYD := HFIN.out gg cap w9 HFO.out HFB.out
                refine wpAnyIn_ready (rs := [11]) (by kernel_rfl) (by simp) ?_
                refine AllReadyIn.cons rfl (fun K hK => ?_) AllReadyIn.nil
                refine stepIn_yield (by rfl) (.tmp 25) (.tmp 30) 28 rfl rfl _ rfl HYD ?yes79510 (by rintro e W' ⟨_, _, _, ⟨rfl, _⟩ | ⟨rfl, _⟩⟩ <;> exact ⟨_, rfl⟩)
                rintro bb W' hend
                refine hK _ _ ?_
                clear hK K HYD
                cases bb with
                | false =>
                  refine wpAnyIn_take (i := 12) (v := ?v1279510n) rfl rfl (by kernel_rfl) (by kernel_rfl) (by kernel_rfl) (fun _ _ _ h => h) ⟨Or.inl ⟨by rfl, ?hy1279510n⟩, fun _ => rfl⟩ ?_
                  case hy1279510n => (intro w; go_simp; try with_reducible rfl)
                  refine wpAnyIn_take (i := 13) (v := ?v1379510n) rfl rfl (by kernel_rfl) (by kernel_rfl) (by kernel_rfl) (fun _ _ _ h => h) ⟨Or.inl ⟨by rfl, ?hy1379510n⟩, fun _ => rfl⟩ ?_
                  case hy1379510n => (intro w; go_simp; try with_reducible rfl)
                  refine wpAnyIn_done (by kernel_rfl) ?_ _
                  have hres := Lib.hid (HRET.out w9 W' gg cap HFO.out HFB.out (hend.elim fun O2 h => ⟨O2, h.1, h.2.1, h.2.2.elim (fun e => by cases e.1) fun e => e.2⟩))
                  clear hend HFO HFB HFIN HRET HNEXT
                  gi_wp2
                  obtain ⟨O2, c1, c2, c3, c4, c5⟩ := hres.out
                  exact ⟨O2, c1, c2, rfl, c3, c4, c5⟩
                | true =>
                  refine wpAnyIn_take (i := 12) (v := ?v1279510y) rfl rfl (by kernel_rfl) (by kernel_rfl) (by kernel_rfl) (fun _ _ _ h => h) ⟨Or.inl ⟨by rfl, ?hy1279510y⟩, fun _ => rfl⟩ ?_
                  case hy1279510y => (intro w; go_simp; try with_reducible rfl)
                  refine wpAnyIn_take (i := 13) (v := ?v1379510y) rfl rfl (by kernel_rfl) (by kernel_rfl) (by kernel_rfl) (fun _ _ _ h => h) ⟨Or.inl ⟨by rfl, ?hy1379510y⟩, fun _ => rfl⟩ ?_
                  case hy1379510y => (intro w; go_simp; try with_reducible rfl)
                  refine wpAnyIn_done (by kernel_rfl) ?_ _
                  have hres := Lib.hid (HNEXT.out w9 W' gg cap HFO.out HFB.out (hend.elim fun O2 h => ⟨O2, h.1, h.2.1, h.2.2.elim (fun e => e.2) fun e => by cases e.1⟩))
                  clear hend HFO HFB HFIN HRET HNEXT
                  gi_wp2
                  exact hres.out
              · refine stepIn_append_lies (by rfl) (.tmp 27) (.tmp 29) 28 rfl w1.heap.size 3 i0 (.int .i64 0) 1 8 Try.underlying28 hi hz0 hz1 hz2 rfl (by decide) _ _ _ rfl HV79.out ⟨w7.heap.size, 0, none⟩ 1 1 [.int .i64 (k : Int)] rfl rfl (news_one HN79.out) (ints_one [(k : Int)]) (by omega) (by unfold maxLen; omega) (by omega) HB79.out.size _ rfl ?_
                intro gg cap w9 ho7910 hg7910 _ _
                have HFO : Hid (OwnA w9 w1.heap.size (.slice (some ⟨gg, 0, none⟩) (x.length + 1) cap) (x ++ [(k : Int)])) := Lib.hid (by unfold OwnA; rw [List.length_append, List.map_append]; exact ho7910)
                have HFB := Lib.hid (HB79.out.grown hg7910 HB79.out.size fun q hq => (HV79.out.lt q hq).1)
                clear ho7910 hg7910
                refine hK _ _ ?_
                clear hK K
                refine wpAnyIn_ready (rs := [5]) (by kernel_rfl) (by simp) ?_
                refine AllReadyIn.cons rfl (fun K hK => ?_) AllReadyIn.nil
                have y79105 := HY.out _ HFB.out
                go_simp
                refine hK _ _ ?_
                clear hK K
                have HYD := HFIN.out gg cap w9 HFO.out HFB.out
                refine wpAnyIn_ready (rs := [11]) (by kernel_rfl) (by simp) ?_
                refine AllReadyIn.cons rfl (fun K hK => ?_) AllReadyIn.nil
                refine stepIn_yield (by rfl) (.tmp 25) (.tmp 30) 28 rfl rfl _ rfl HYD ?yes79105 (by rintro e W' ⟨_, _, _, ⟨rfl, _⟩ | ⟨rfl, _⟩⟩ <;> exact ⟨_, rfl⟩)
                rintro bb W' hend
                refine hK _ _ ?_
                clear hK K HYD
                cases bb with
                | false =>
                  refine wpAnyIn_take (i := 12) (v := ?v1279105n) rfl rfl (by kernel_rfl) (by kernel_rfl) (by kernel_rfl) (fun _ _ _ h => h) ⟨Or.inl ⟨by rfl, ?hy1279105n⟩, fun _ => rfl⟩ ?_
                  case hy1279105n => (intro w; go_simp; try with_reducible rfl)
                  refine wpAnyIn_take (i := 13) (v := ?v1379105n) rfl rfl (by kernel_rfl) (by kernel_rfl) (by kernel_rfl) (fun _ _ _ h => h) ⟨Or.inl ⟨by rfl, ?hy1379105n⟩, fun _ => rfl⟩ ?_
                  case hy1379105n => (intro w; go_simp; try with_reducible rfl)
                  refine wpAnyIn_done (by kernel_rfl) ?_ _
                  have hres := Lib.hid (HRET.out w9 W' gg cap HFO.out HFB.out (hend.elim fun O2 h => ⟨O2, h.1, h.2.1, h.2.2.elim (fun e => by cases e.1) fun e => e.2⟩))
                  clear hend HFO HFB HFIN HRET HNEXT
                  gi_wp2
                  obtain ⟨O2, c1, c2, c3, c4, c5⟩ := hres.out
                  exact ⟨O2, c1, c2, rfl, c3, c4, c5⟩
                | true =>
                  refine wpAnyIn_take (i := 12) (v := ?v1279105y) rfl rfl (by kernel_rfl) (by kernel_rfl) (by kernel_rfl) (fun _ _ _ h => h) ⟨Or.inl ⟨by rfl, ?hy1279105y⟩, fun _ => rfl⟩ ?_
                  case hy1279105y => (intro w; go_simp; try with_reducible rfl)
                  refine wpAnyIn_take (i := 13) (v := ?v1379105y) rfl rfl (by kernel_rfl) (by kernel_rfl) (by kernel_rfl) (fun _ _ _ h => h) ⟨Or.inl ⟨by rfl, ?hy1379105y⟩, fun _ => rfl⟩ ?_
                  case hy1379105y => (intro w; go_simp; try with_reducible rfl)
                  refine wpAnyIn_done (by kernel_rfl) ?_ _
                  have hres := Lib.hid (HNEXT.out w9 W' gg cap HFO.out HFB.out (hend.elim fun O2 h => ⟨O2, h.1, h.2.1, h.2.2.elim (fun e => e.2) fun e => by cases e.1⟩))
                  clear hend HFO HFB HFIN HRET HNEXT
                  gi_wp2
                  exact hres.out
          · go_simp
            refine hK _ _ ?_
            clear hK K
            obtain ⟨w9, hw9⟩ : ∃ w', w1.alloc (.cells #[.int .i64 (k : Int)] 3) = w' := ⟨_, rfl⟩
            have hb9 : Below w1.heap.size w1 w9 := by rw [← hw9]; exact below_new
            have HB9 := Lib.hid (HB0.out.trans (hb9.mono HB0.out.size))
            have HN9 : Hid (w9.cell? ⟨w1.heap.size, 0, none⟩ = some (.int .i64 (k : Int))) := Lib.hid (by rw [← hw9]; exact cell_newest _ _ _)
            rw [hw9]
            clear hb9 hw9
            refine wpAnyIn_ready (rs := [5, 7]) (by kernel_rfl) (by simp) ?_
            refine AllReadyIn.cons rfl (fun K hK => ?_) (AllReadyIn.cons rfl (fun K hK => ?_) AllReadyIn.nil)
            · have y95 := HY.out _ HB9.out
              go_simp
              refine hK _ _ ?_
              clear hK K
              refine wpAnyIn_ready (rs := [7]) (by kernel_rfl) (by simp) ?_
              refine AllReadyIn.cons rfl (fun K hK => ?_) AllReadyIn.nil
              have HC957 := Lib.hid (HCL.out _ HB9.out)
              go_simp
              gi_wp2_with (refine ⟨trivial, ?_⟩; gi_at_call 67; refine (callsIn_wide.2 HC957.out).mono ?_; rintro e w957 ⟨v957, rfl, ho957, hb957⟩)
              have HB957 := Lib.hid (HB9.out.trans (hb957.mono HB9.out.size))
              have HV957 : Hid (OwnA w957 w1.heap.size v957 x) := Lib.hid (OwnA.mono ho957 HB9.out.size)
              have HN957 := Lib.hid ((hb957.cell (p := ⟨w1.heap.size, 0, none⟩) (cell_lt HN9.out)).trans HN9.out)
              clear ho957 hb957 HC957
              refine wpAnyIn_ready (rs := [10]) (by kernel_rfl) (by simp) ?_
              refine AllReadyIn.cons rfl (fun K hK => ?_) AllReadyIn.nil
              refine stepIn_append_lies (by rfl) (.tmp 27) (.tmp 29) 28 rfl w1.heap.size 3 i0 (.int .i64 0) 1 8 Try.underlying28 hi hz0 hz1 hz2 rfl (by decide) _ _ _ rfl HV957.out ⟨w1.heap.size, 0, none⟩ 1 1 [.int .i64 (k : Int)] rfl rfl (news_one HN957.out) (ints_one [(k : Int)]) (by omega) (by unfold maxLen; omega) (by omega) HB957.out.size _ rfl ?_
              intro gg cap w9 ho95710 hg95710 _ _
              have HFO : Hid (OwnA w9 w1.heap.size (.slice (some ⟨gg, 0, none⟩) (x.length + 1) cap) (x ++ [(k : Int)])) := Lib.hid (by unfold OwnA; rw [List.length_append, List.map_append]; exact ho95710)
              have HFB := Lib.hid (HB957.out.grown hg95710 HB957.out.size fun q hq => (HV957.out.lt q hq).1)
              clear ho95710 hg95710
              refine hK _ _ ?_
              clear hK K
              have HYD := HFIN.out gg cap w9 HFO.out HFB.out
              refine wpAnyIn_ready (rs := [11]) (by kernel_rfl) (by simp) ?_
              refine AllReadyIn.cons rfl (fun K hK => ?_) AllReadyIn.nil
              refine stepIn_yield (by rfl) (.tmp 25) (.tmp 30) 28 rfl rfl _ rfl HYD ?yes95710 (by rintro e W' ⟨_, _, _, ⟨rfl, _⟩ | ⟨rfl, _⟩⟩ <;> exact ⟨_, rfl⟩)
              rintro bb W' hend
              refine hK _ _ ?_
              clear hK K HYD
              cases bb with
              | false =>
                refine wpAnyIn_take (i := 12) (v := ?v1295710n) rfl rfl (by kernel_rfl) (by kernel_rfl) (by kernel_rfl) (fun _ _ _ h => h) ⟨Or.inl ⟨by rfl, ?hy1295710n⟩, fun _ => rfl⟩ ?_
                case hy1295710n => (intro w; go_simp; try with_reducible rfl)
                refine wpAnyIn_take (i := 13) (v := ?v1395710n) rfl rfl (by kernel_rfl) (by kernel_rfl) (by kernel_rfl) (fun _ _ _ h => h) ⟨Or.inl ⟨by rfl, ?hy1395710n⟩, fun _ => rfl⟩ ?_
                case hy1395710n => (intro w; go_simp; try with_reducible rfl)
                refine wpAnyIn_done (by kernel_rfl) ?_ _
                have hres := Lib.hid (HRET.out w9 W' gg cap HFO.out HFB.out (hend.elim fun O2 h => ⟨O2, h.1, h.2.1, h.2.2.elim (fun e => by cases e.1) fun e => e.2⟩))
                clear hend HFO HFB HFIN HRET HNEXT
                gi_wp2
                obtain ⟨O2, c1, c2, c3, c4, c5⟩ := hres.out
                exact ⟨O2, c1, c2, rfl, c3, c4, c5⟩
              | true =>
                refine wpAnyIn_take (i := 12) (v := ?v1295710y) rfl rfl (by kernel_rfl) (by kernel_rfl) (by kernel_rfl) (fun _ _ _ h => h) ⟨Or.inl ⟨by rfl, ?hy1295710y⟩, fun _ => rfl⟩ ?_
                case hy1295710y => (intro w; go_simp; try with_reducible rfl)
                refine wpAnyIn_take (i := 13) (v := ?v1395710y) rfl rfl (by kernel_rfl) (by kernel_rfl) (by kernel_rfl) (fun _ _ _ h => h) ⟨Or.inl ⟨by rfl, ?hy1395710y⟩, fun _ => rfl⟩ ?_
                case hy1395710y => (intro w; go_simp; try with_reducible rfl)
                refine wpAnyIn_done (by kernel_rfl) ?_ _
                have hres := Lib.hid (HNEXT.out w9 W' gg cap HFO.out HFB.out (hend.elim fun O2 h => ⟨O2, h.1, h.2.1, h.2.2.elim (fun e => e.2) fun e => by cases e.1⟩))
                clear hend HFO HFB HFIN HRET HNEXT
                gi_wp2
                exact hres.out
            · have HC97 := Lib.hid (HCL.out _ HB9.out)
              go_simp
              gi_wp2_with (refine ⟨trivial, ?_⟩; gi_at_call 67; refine (callsIn_wide.2 HC97.out).mono ?_; rintro e w97 ⟨v97, rfl, ho97, hb97⟩)
              have HB97 := Lib.hid (HB9.out.trans (hb97.mono HB9.out.size))
              have HV97 : Hid (OwnA w97 w1.heap.size v97 x) := Lib.hid (OwnA.mono ho97 HB9.out.size)
              have HN97 := Lib.hid ((hb97.cell (p := ⟨w1.heap.size, 0, none⟩) (cell_lt HN9.out)).trans HN9.out)
              clear ho97 hb97 HC97
              refine wpAnyIn_ready (rs := [5, 10]) (by kernel_rfl) (by simp) ?_
              refine AllReadyIn.cons rfl (fun K hK => ?_) (AllReadyIn.cons rfl (fun K hK => ?_) AllReadyIn.nil)
              · have y975 := HY.out _ HB97.out
                go_simp
                refine hK _ _ ?_
                clear hK K
                refine wpAnyIn_ready (rs := [10]) (by kernel_rfl) (by simp) ?_
                refine AllReadyIn.cons rfl (fun K hK => ?_) AllReadyIn.nil
                refine stepIn_append_lies (by rfl) (.tmp 27) (.tmp 29) 28 rfl w1.heap.size 3 i0 (.int .i64 0) 1 8 Try.underlying28 hi hz0 hz1 hz2 rfl (by decide) _ _ _ rfl HV97.out ⟨w1.heap.size, 0, none⟩ 1 1 [.int .i64 (k : Int)] rfl rfl (news_one HN97.out) (ints_one [(k : Int)]) (by omega) (by unfold maxLen; omega) (by omega) HB97.out.size _ rfl ?_
                intro gg cap w9 ho97510 hg97510 _ _
                have HFO : Hid (OwnA w9 w1.heap.size (.slice (some ⟨gg, 0, none⟩) (x.length + 1) cap) (x ++ [(k : Int)])) := Lib.hid (by unfold OwnA; rw [List.length_append, List.map_append]; exact ho97510)
                have HFB := Lib.hid (HB97.out.grown hg97510 HB97.out.size fun q hq => (HV97.out.lt q hq).1)
                clear ho97510 hg97510
                refine hK _ _ ?_
                clear hK K
                have HYD := HFIN.out gg cap w9 HFO.out HFB.out
                refine wpAnyIn_ready (rs := [11]) (by kernel_rfl) (by simp) ?_
                refine AllReadyIn.cons rfl (fun K hK => ?_) AllReadyIn.nil
                refine stepIn_yield (by rfl) (.tmp 25) (.tmp 30) 28 rfl rfl _ rfl HYD ?yes97510 (by rintro e W' ⟨_, _, _, ⟨rfl, _⟩ | ⟨rfl, _⟩⟩ <;> exact ⟨_, rfl⟩)
                rintro bb W' hend
                refine hK _ _ ?_
                clear hK K HYD
                cases bb with
                | false =>
                  refine wpAnyIn_take (i := 12) (v := ?v1297510n) rfl rfl (by kernel_rfl) (by kernel_rfl) (by kernel_rfl) (fun _ _ _ h => h) ⟨Or.inl ⟨by rfl, ?hy1297510n⟩, fun _ => rfl⟩ ?_
                  case hy1297510n => (intro w; go_simp; try with_reducible rfl)
                  refine wpAnyIn_take (i := 13) (v := ?v1397510n) rfl rfl (by kernel_rfl) (by kernel_rfl) (by kernel_rfl) (fun _ _ _ h => h) ⟨Or.inl ⟨by rfl, ?hy1397510n⟩, fun _ => rfl⟩ ?_
                  case hy1397510n => (intro w; go_simp; try with_reducible rfl)
                  refine wpAnyIn_done (by kernel_rfl) ?_ _
                  have hres := Lib.hid (HRET.out w9 W' gg cap HFO.out HFB.out (hend.elim fun O2 h => ⟨O2, h.1, h.2.1, h.2.2.elim (fun e => by cases e.1) fun e => e.2⟩))
                  clear hend HFO HFB HFIN HRET HNEXT
                  gi_wp2
                  obtain ⟨O2, c1, c2, c3, c4, c5⟩ := hres.out
                  exact ⟨O2, c1, c2, rfl, c3, c4, c5⟩
                | true =>
                  refine wpAnyIn_take (i := 12) (v := ?v1297510y) rfl rfl (by kernel_rfl) (by kernel_rfl) (by kernel_rfl) (fun _ _ _ h => h) ⟨Or.inl ⟨by rfl, ?hy1297510y⟩, fun _ => rfl⟩ ?_
                  case hy1297510y => (intro w; go_simp; try with_reducible rfl)
                  refine wpAnyIn_take (i := 13) (v := ?v1397510y) rfl rfl (by kernel_rfl) (by kernel_rfl) (by kernel_rfl) (fun _ _ _ h => h) ⟨Or.inl ⟨by rfl, ?hy1397510y⟩, fun _ => rfl⟩ ?_
                  case hy1397510y => (intro w; go_simp; try with_reducible rfl)
                  refine wpAnyIn_done (by kernel_rfl) ?_ _
                  have hres := Lib.hid (HNEXT.out w9 W' gg cap HFO.out HFB.out (hend.elim fun O2 h => ⟨O2, h.1, h.2.1, h.2.2.elim (fun e => e.2) fun e => by cases e.1⟩))
                  clear hend HFO HFB HFIN HRET HNEXT
                  gi_wp2
                  exact hres.out
              · refine stepIn_append_lies (by rfl) (.tmp 27) (.tmp 29) 28 rfl w1.heap.size 3 i0 (.int .i64 0) 1 8 Try.underlying28 hi hz0 hz1 hz2 rfl (by decide) _ _ _ rfl HV97.out ⟨w1.heap.size, 0, none⟩ 1 1 [.int .i64 (k : Int)] rfl rfl (news_one HN97.out) (ints_one [(k : Int)]) (by omega) (by unfold maxLen; omega) (by omega) HB97.out.size _ rfl ?_
                intro gg cap w9 ho9710 hg9710 _ _
                have HFO : Hid (OwnA w9 w1.heap.size (.slice (some ⟨gg, 0, none⟩) (x.length + 1) cap) (x ++ [(k : Int)])) := Lib.hid (by unfold OwnA; rw [List.length_append, List.map_append]; exact ho9710)
                have HFB := Lib.hid (HB97.out.grown hg9710 HB97.out.size fun q hq => (HV97.out.lt q hq).1)
                clear ho9710 hg9710
                refine hK _ _ ?_
                clear hK K
                refine wpAnyIn_ready (rs := [5]) (by kernel_rfl) (by simp) ?_
                refine AllReadyIn.cons rfl (fun K hK => ?_) AllReadyIn.nil
                have y97105 := HY.out _ HFB.out
                go_simp
                refine hK _ _ ?_
                clear hK K
                have HYD := HFIN.out gg cap w9 HFO.out HFB.out
                refine wpAnyIn_ready (rs := [11]) (by kernel_rfl) (by simp) ?_
                refine AllReadyIn.cons rfl (fun K hK => ?_) AllReadyIn.nil
                refine stepIn_yield (by rfl) (.tmp 25) (.tmp 30) 28 rfl rfl _ rfl HYD ?yes97105 (by rintro e W' ⟨_, _, _, ⟨rfl, _⟩ | ⟨rfl, _⟩⟩ <;> exact ⟨_, rfl⟩)
                rintro bb W' hend
                refine hK _ _ ?_
                clear hK K HYD
                cases bb with
                | false =>
                  refine wpAnyIn_take (i := 12) (v := ?v1297105n) rfl rfl (by kernel_rfl) (by kernel_rfl) (by kernel_rfl) (fun _ _ _ h => h) ⟨Or.inl ⟨by rfl, ?hy1297105n⟩, fun _ => rfl⟩ ?_
                  case hy1297105n => (intro w; go_simp; try with_reducible rfl)
                  refine wpAnyIn_take (i := 13) (v := ?v1397105n) rfl rfl (by kernel_rfl) (by kernel_rfl) (by kernel_rfl) (fun _ _ _ h => h) ⟨Or.inl ⟨by rfl, ?hy1397105n⟩, fun _ => rfl⟩ ?_
                  case hy1397105n => (intro w; go_simp; try with_reducible rfl)
                  refine wpAnyIn_done (by kernel_rfl) ?_ _
                  have hres := Lib.hid (HRET.out w9 W' gg cap HFO.out HFB.out (hend.elim fun O2 h => ⟨O2, h.1, h.2.1, h.2.2.elim (fun e => by cases e.1) fun e => e.2⟩))
                  clear hend HFO HFB HFIN HRET HNEXT
                  gi_wp2
                  obtain ⟨O2, c1, c2, c3, c4, c5⟩ := hres.out
                  exact ⟨O2, c1, c2, rfl, c3, c4, c5⟩
                | true =>
                  refine wpAnyIn_take (i := 12) (v := ?v1297105y) rfl rfl (by kernel_rfl) (by kernel_rfl) (by kernel_rfl) (fun _ _ _ h => h) ⟨Or.inl ⟨by rfl, ?hy1297105y⟩, fun _ => rfl⟩ ?_
                  case hy1297105y => (intro w; go_simp; try with_reducible rfl)
                  refine wpAnyIn_take (i := 13) (v := ?v1397105y) rfl rfl (by kernel_rfl) (by kernel_rfl) (by kernel_rfl) (fun _ _ _ h => h) ⟨Or.inl ⟨by rfl, ?hy1397105y⟩, fun _ => rfl⟩ ?_
                  case hy1397105y => (intro w; go_simp; try with_reducible rfl)
                  refine wpAnyIn_done (by kernel_rfl) ?_ _
                  have hres := Lib.hid (HNEXT.out w9 W' gg cap HFO.out HFB.out (hend.elim fun O2 h => ⟨O2, h.1, h.2.1, h.2.2.elim (fun e => e.2) fun e => by cases e.1⟩))
                  clear hend HFO HFB HFIN HRET HNEXT
                  gi_wp2
                  exact hres.out
      · obtain rfl : k = arcs.length := by omega
        have hres : ∃ O2, Grow O' Wb.heap.size (.slice A2 x.length c2) O2 ∧ Turn O' Wb wr ∧ (J O2 ((pre ++ [x]).flatMap (extM arcs)) wr ∧ (∀ k, O2 k → O k ∨ W3.heap.size ≤ k) ∧ EachMem (fun k => O k ∨ W3.heap.size ≤ k) wr bn ba ((d + 1 : Nat) : Int) A c arcs ∧ wr.cell? ⟨W.heap.size, 0, none⟩ = some (.func (.yield l) #[] #[]) ∧ Turn O W wr ∧ W3.heap.size ≤ wr.heap.size) := by
          refine ⟨O1, fun j hj => (b2 j hj).imp id Or.inl, b3, by rw [come_next]; exact b1, fun j hj => ?_, a3.turn (b3.mono fun j _ hj => a2 j hj), ?_, a5.trans b3 fun j hjl h => (a2 j h).resolve_right (by omega), Nat.le_trans a6 b3.size⟩
          · rcases b2 j hj with h | h
            · exact a2 j h
            · right; omega
          · exact (b3.cell (p := ⟨W.heap.size, 0, none⟩) (fun e => (a2 _ e).elim hYO fun h => by dsimp only at h; omega) (cell_lt a4)).trans a4
        replace hres := Lib.hid hres
        clear a1 a2 a3 a4 a5 b1 b2 b3
        gi_wp2
        exact hres.out

/-- **The iterator over the paths of d of the arcs.** -/
theorem each_runs (arcs : List (List Int)) (h2 : ∀ r ∈ arcs, r.length = 2) (hal : arcs.length ≤ 60) : ∀ (d : Nat), d ≤ 6 → ∀ (O0 : Nat → Prop) (B : Nat) (w : World), B ≤ w.heap.size → ∀ (bn ba c : Nat) (A : Option Addr), EachMem O0 w bn ba (d : Int) A c arcs →
    RunsF Try.prog 66 #[.pointer (some ⟨bn, 0, none⟩), .pointer (some ⟨ba, 0, none⟩)] (RowO B) (fillM arcs d []) O0 w
  | 0, _, O0, B, w, _, bn, ba, c, A, hm => each_none arcs O0 B w bn ba c A hm
  | d + 1, hd, O0, B, w, hB, bn, ba, c, A, hm => each_next arcs h2 hal d (by omega) (fun O0 w bn ba c A hm => each_runs arcs h2 hal d (by omega) O0 0 w (Nat.zero_le _) bn ba c A hm) O0 B w hB bn ba c A hm
end Go.Proofs.Ythljogoggiejmaa
