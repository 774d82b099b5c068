/-
  The program's PathsOf: the paths that the plain words say, in new memory; nothing that was there before is changed.
-/
import Derived.Test.YthljogoggiejmaaEachPath
import Derived.Test.YthljogoggiejmaaGraphBound
namespace Go.Proofs.Ythljogoggiejmaa
open Go Go.RowKit
attribute [local go_sem] Oper.semAt_some

theorem Turn.rows {O : Nat → Prop} {w w' : World} {B : Nat} {ob : Option Nat} {vs : List Value} {m : List (List Int)} (ht : Turn O w w') (h : RowsOwn w B ob vs m) (hO : ∀ (k : Nat) (r : Value) (g : Nat), vs[k]? = some r → r.ownBlock = some g → ¬ O g) : RowsOwn w' B ob vs m :=
  ⟨h.len, fun k r hk => ⟨ht.row (h.row k r hk).1 fun g hg => hO k r g hk hg, (h.row k r hk).2⟩, h.two⟩

/-- A table of one's own, in blocks of O. -/
def OwnIO (O : Nat → Prop) (w : World) (B : Nat) (v : Value) (m : List (List Int)) : Prop :=
  ∃ vs, w.ownsRow B 28 1 v m.length vs ∧ RowsOwn w B v.ownBlock vs m ∧ (∀ g, v.ownBlock = some g → O g) ∧ ∀ (k : Nat) (r : Value) (g : Nat), vs[k]? = some r → r.ownBlock = some g → O g
theorem OwnIO.turn {O O1 : Nat → Prop} {w w' : World} {B : Nat} {v : Value} {m : List (List Int)} (h : OwnIO O w B v m) (ht : Turn O1 w w') (hO : ∀ k, O k → ¬ O1 k) : OwnIO O w' B v m := by
  obtain ⟨vs, h1, h2, h3, h4⟩ := h
  exact ⟨vs, ht.row h1 fun k hk => hO k (h3 k hk), ht.rows h2 fun k r g hk hg => hO g (h4 k r g hk hg), h3, h4⟩
theorem OwnIO.ownG {O : Nat → Prop} {w : World} {B : Nat} {v : Value} {m : List (List Int)} (h : OwnIO O w B v m) : OwnG w B v m := by
  obtain ⟨vs, h1, h2, _, _⟩ := h
  exact ⟨vs, h1, h2⟩
theorem OwnIO.slice {O : Nat → Prop} {w : World} {B : Nat} {v : Value} {m : List (List Int)} (h : OwnIO O w B v m) : ∃ A c, v = .slice A m.length c := by
  obtain ⟨vs, h1, _⟩ := h
  exact slice_of_owns h1
theorem OwnIO.mono {O O' : Nat → Prop} {w : World} {B : Nat} {v : Value} {m : List (List Int)} (h : OwnIO O w B v m) (hO : ∀ k, O k → O' k) : OwnIO O' w B v m := by
  obtain ⟨vs, h1, h2, h3, h4⟩ := h
  exact ⟨vs, h1, h2, fun g hg => hO g (h3 g hg), fun k r g hk hg => hO g (h4 k r g hk hg)⟩
theorem OwnIO.high {O : Nat → Prop} {w : World} {B : Nat} {v : Value} {m : List (List Int)} (h : OwnIO O w B v m) : OwnIO (fun k => O k ∧ B ≤ k) w B v m := by
  obtain ⟨vs, h1, h2, h3, h4⟩ := h
  exact ⟨vs, h1, h2, fun g hg => ⟨h3 g hg, (World.ownsRow.lt h1 g hg).1⟩, fun k r g hk hg => ⟨h4 k r g hk hg, (h2.lt hk g hg).1⟩⟩
/-- One row more, from a block that is not in O. -/
theorem OwnIO.append {O : Nat → Prop} {wb w w3 : World} {B : Nat} {v u : Value} {m : List (List Int)} {x : List Int} {gg cap : Nat} {vs : List Value}
    (h2 : RowsOwn wb B v.ownBlock vs m) (h3 : ∀ g, v.ownBlock = some g → O g) (h4 : ∀ (k : Nat) (r : Value) (g : Nat), vs[k]? = some r → r.ownBlock = some g → O g)
    (hu : OwnA wb B u x) (huO : ∀ g, u.ownBlock = some g → ¬ O g) (hb : Below wb.heap.size wb w)
    (ho3 : w3.ownsRow B 28 1 (.slice (some ⟨gg, 0, none⟩) (m.length + 1) cap) (m.length + 1) (vs ++ [u])) (hg3 : w.grownBy w3 v.ownBlock) (hat : v.ownBlock = some gg ∨ gg = w.heap.size) :
    OwnIO (fun k => O k ∨ k = gg ∨ u.ownBlock = some k) w3 B (.slice (some ⟨gg, 0, none⟩) (m.length + 1) cap) (m ++ [x]) := by
  have hR1 := h2.below hb
  have hR2 : RowsOwn w B (some gg) vs m := hR1.moved (by
    rcases hat with h | h
    · exact Or.inl h.symm
    · exact Or.inr fun g e => by cases e; omega)
  have hR3 := hR2.kept hg3 fun k r hk => (hR1.row k r hk).2
  have hu1 : OwnA w B u x := OwnA.below hu hb
  have huv : u.ownBlock = none ∨ u.ownBlock ≠ v.ownBlock := by
    cases e : u.ownBlock with
    | none => exact Or.inl rfl
    | some g => exact Or.inr fun e2 => huO g e (h3 g e2.symm)
  have hu3 : w3.ownsRow B 3 1 u x.length (x.map (Value.int .i64)) := World.ownsRow.kept hu1 hg3 huv
  refine ⟨vs ++ [u], by rw [List.length_append]; exact ho3, hR3.push hu3 ?_ ?_, fun g e => by cases e; exact Or.inr (Or.inl rfl), fun k r g hk hg => ?_⟩
  · cases e : u.ownBlock with
    | none => exact Or.inl rfl
    | some g =>
      refine Or.inr fun e2 => ?_
      obtain rfl : g = gg := Option.some.inj e2
      rcases hat with h | h
      · exact huO g e (h3 g h)
      · have := (World.ownsRow.lt hu1 g e).2; omega
  · intro k s hk
    cases e : s.ownBlock with
    | none => exact Or.inl rfl
    | some g => exact Or.inr fun e2 => huO g e2.symm (h4 k s g hk e)
  · by_cases hkl : k < vs.length
    · rw [List.getElem?_append_left hkl] at hk
      exact Or.inl (h4 k r g hk hg)
    · have hk2 := (List.getElem?_eq_some_iff.1 hk).1
      simp at hk2
      obtain rfl : k = vs.length := by omega
      rw [List.getElem?_append_right (Nat.le_refl _), Nat.sub_self] at hk
      obtain rfl : u = r := by simpa using hk
      exact Or.inr (Or.inr hg)

theorem frozen_newest (W : World) (v : Value) (t : TypeId) : (W.alloc (.cells #[v] t)).frozen? ⟨W.heap.size, 0, none⟩ = false := by
  simp
theorem Turn.store {O : Nat → Prop} (w : World) {b : Nat} (v : Value) (h : O b) : Turn O w (w.setCell ⟨b, 0, none⟩ v) := Turn.grown (grownBy_setCell' w b v) h
theorem Turn.none_below {w w' : World} (h : Below w.heap.size w w') : Turn (fun _ => False) w w' := Turn.of_below _ h

theorem hrow_lt {w : World} {B : Nat} {v : Value} {x : List Int} (h : OwnA w B v x) : ∀ g, v.ownBlock = some g → B ≤ g ∧ g < w.heap.size := World.ownsRow.lt h

section
variable {n l : Nat} {P : Program} {ops : Array Oper} {Q : Exit → Act → World → Prop}
theorem wpListIn_append_lies {rest : List Oper} {o : Oper} {a : Act} {w : World} (hgd : o.guard = none) (s x : Operand) (t : TypeId)
    (ho : o.op = .call { callee := .builtin .append, args := #[s, x], argTypes := #[t, t] })
    (base : Nat) (e : TypeId) (i : TypeInfo) (z : Value) (size bytes : Nat) (ht : P.underlying t = some (.slice e)) (hi : P.info? e = some i) (hz : i.zero = some z)
    (hsize : i.size = size) (hby : i.bytes = bytes) (hzs : z.cells.size = size) (hsz : 0 < size)
    (v : Value) (n' : Nat) (xs : List Value) (hs : a.eval s = v) (hown : w.ownsRow base e size v n' xs)
    (ad : Addr) (m c : Nat) (news : List Value) (hx : a.eval x = .slice (some ad) m c) (hl : news.length = m * size) (hnews : ∀ j u, news[j]? = some u → w.cell? (ad.add j) = some u) (h1 : ∀ u ∈ news, u.oneCell' = true)
    (hm : 0 < m) (h63 : n' + m ≤ maxLen) (hbytes : (n' + m) * bytes ≤ 140737488355328) (hbase : base ≤ w.heap.size) (H : Nat) (hH : w.heap.size = H)
    (h : ∀ g cap w', w'.ownsRow base e size (.slice (some ⟨g, 0, none⟩) (n' + m) cap) (n' + m) (xs ++ news) → w.grownBy w' v.ownBlock → (v.ownBlock = some g ∨ g = H) → g < w'.heap.size → wpListIn (Fence.wide.inRound l) n P ops Q rest (a.put o.dst (.slice (some ⟨g, 0, none⟩) (n' + m) cap)) w') :
    wpListIn (Fence.wide.inRound l) n P ops Q (o :: rest) a w := by
  have hd : ∀ c, o.op ≠ .defer c := fun c e => by rw [ho] at e; cases e
  refine wpListIn_plain hgd fun K hK => wpIn_inRound hd ?_
  obtain ⟨g, cap, w', hr, h2, h3, h4, h5⟩ := run_append_lies (P := P) w t o.type base e i z size bytes ht hi hz hsize hby hzs hsz v n' xs hown ad m c news hl hnews h1 hm h63 hbytes hbase H hH
  refine wpIn_of_value (v := .slice (some ⟨g, 0, none⟩) (n' + m) cap) (w' := w') hd ?_ (hK _ _ (h g cap w' h2 h3 h4 h5))
  unfold execOp
  simp only [ho, resolve, invoke, builtin, Sem.run_bind, Sem.run_pure, Result.andThen_ok, List.map_toArray, List.map_cons, List.map_nil, hs, hx, hr]
end

set_option maxRecDepth 100000 in
set_option maxHeartbeats 3200000 in
theorem impl_pathsOf (A : Option Addr) (c : Nat) (m : List (List Int)) (n : Int) (hn : m.length ≤ 1099511627776) (ht : ∀ k, k < m.length → (m.getD k []).length ≤ 1099511627776) (w : World) (hg : GridS w A m) :
    Calls Try.prog 14 #[.slice A m.length c, .int .i64 n] w (NewG (pathsM m n) w) := by
  have hb1 : Below w.heap.size w (w.alloc (.cells #[.slice none 0 0] 24)) := below_new
  have HI := Lib.hid (impl_isGraph A c m hn ht (w.alloc (.cells #[.slice none 0 0] 24)) (hg.below hb1))
  have hc0 : (w.alloc (.cells #[.slice none 0 0] 24)).cell? ⟨w.heap.size, 0, none⟩ = some (.slice none 0 0) := cell_newest _ _ _
  have HNIL : pathsM m n = [] → NewG (pathsM m n) w (.returned (.slice none 0 0)) (w.alloc (.cells #[.slice none 0 0] 24)) := fun e => by
    rw [e]
    exact ⟨_, rfl, ⟨[], World.ownsRow_nil _ _ _ _, RowsOwn.nil _ _ _⟩, hb1⟩
  by_cases hok : isGraphM m = true ∧ 1 ≤ n ∧ n ≤ 6
  · obtain ⟨hm, hn1, hn6⟩ := hok
    obtain ⟨d, rfl⟩ : ∃ d : Nat, n = (d : Int) := ⟨n.toNat, by omega⟩
    rw [hm] at HI
    have HA := Lib.hid (impl_arcsOf A c m hn ht ((w.alloc (.cells #[.slice none 0 0] 24)).alloc (.cells #[.slice none 0 0] 24)) ((hg.below hb1).below below_new))
    have hP := pathsM_by hm (n := d) (by omega) (by omega)
    have h2 := arcsM_two m
    have hal := arcsM_le hm
    unfold arcsOfM at HA
    rw [if_pos hm] at HA
    rw [hP]
    clear hP HNIL hg ht hm
    generalize arcsM m = arcs at *
    obtain ⟨res, hres⟩ : ∃ res, (if (fillM arcs d []).length ≤ 500 then fillM arcs d [] else []) = res := ⟨_, rfl⟩
    rw [hres]
    have hd1 : decide ((d : Int) < 1) = false := decide_eq_false (by omega)
    have hd2 : decide (6 < (d : Int)) = false := decide_eq_false (by omega)
    replace hres := Lib.hid hres
    refine callsIn_wide.1 (callsIn_of_wp_marks (n := 9) Try.func14 rfl trivial ?_ rfl)
    simp only [Try.ntmps14, List.size_toArray, List.length_cons, List.length_nil, Nat.reduceAdd, Nat.reduceSub, Array.replicate_succ, Array.replicate_zero, List.push_toArray, List.append_toArray, List.nil_append, List.cons_append]
    gi_wp2_with (first | (refine ⟨trivial, ?_⟩; gi_at_call 30; refine (callsIn_wide.2 HI.out).mono ?_; rintro e w' ⟨rfl, rfl⟩) | (refine ⟨trivial, ?_⟩; gi_at_call 20; refine (callsIn_wide.2 HA.out).mono ?_; rintro e w2 ⟨va, rfl, ho2, hb2⟩; obtain ⟨Aa, ca, rfl, hga⟩ := OwnG.gridOut (O := fun k => k = w.heap.size ∨ k = w.heap.size + 1) ho2 (fun k hk => by rw [World.size_alloc, World.size_alloc]; omega); have HGA := Lib.hid hga; have HB2 := Lib.hid hb2; clear ho2 hga hb2) | (refine ⟨trivial, ?_⟩; gi_at_call 49; refine (callsIn_wide.2 (each_func _ _ _ _ _)).mono ?_; rintro e w' ⟨rfl, rfl⟩))
    clear hd1 hd2 HI HA
    have hs2 : w.heap.size + 2 ≤ w2.heap.size := by have := HB2.out.size; rw [World.size_alloc, World.size_alloc] at this; omega
    obtain ⟨W3, hW3⟩ : ∃ W3, (w2.alloc (.cells #[.slice Aa arcs.length ca] 24)).alloc (.cells #[.int .i64 (d : Int)] 3) = W3 := ⟨_, rfl⟩
    have hs3 : W3.heap.size = w2.heap.size + 2 := by rw [← hW3]; simp only [World.size_alloc]
    have hb3 : Below w2.heap.size w2 W3 := by rw [← hW3]; exact below_new.alloc (by rw [World.size_alloc]; omega) _
    have k2 : W3.cell? ⟨w2.heap.size, 0, none⟩ = some (.slice Aa arcs.length ca) := by
      rw [← hW3]
      exact cell_older _ (cell_newest _ _ _)
    have k3 : W3.cell? ⟨w2.heap.size + 1, 0, none⟩ = some (.int .i64 (d : Int)) := by
      have h := cell_newest (w2.alloc (.cells #[.slice Aa arcs.length ca] 24)) (.int .i64 (d : Int)) 3
      rw [World.size_alloc] at h
      rw [← hW3]
      exact h
    rw [hW3]
    clear hW3
    have hR0 : (w.alloc (.cells #[.slice none 0 0] 24)).frozen? ⟨w.heap.size, 0, none⟩ = false := frozen_newest _ _ _
    have t1 : Turn (fun _ => False) (w.alloc (.cells #[.slice none 0 0] 24)) ((w.alloc (.cells #[.slice none 0 0] 24)).alloc (.cells #[.slice none 0 0] 24)) := Turn.none_below below_new
    have t2 := Turn.none_below HB2.out
    have t3 := Turn.none_below hb3
    have p1 : ((w.alloc (.cells #[.slice none 0 0] 24)).alloc (.cells #[.slice none 0 0] 24)).cell? ⟨w.heap.size + 1, 0, none⟩ = some (.slice none 0 0) := by
      have h := cell_newest (w.alloc (.cells #[.slice none 0 0] 24)) (.slice none 0 0) 24
      rwa [World.size_alloc] at h
    have p2 : ((w.alloc (.cells #[.slice none 0 0] 24)).alloc (.cells #[.slice none 0 0] 24)).frozen? ⟨w.heap.size + 1, 0, none⟩ = false := by
      have h := frozen_newest (w.alloc (.cells #[.slice none 0 0] 24)) (.slice none 0 0) 24
      rwa [World.size_alloc] at h
    have u1 := t1.trans (t2.trans t3 fun _ _ h => h) fun _ _ h => h
    have u2 := t2.trans t3 fun _ _ h => h
    have r1 : W3.cell? ⟨w.heap.size, 0, none⟩ = some (.slice none 0 0) := (u1.cell (p := ⟨w.heap.size, 0, none⟩) (fun h => h) (cell_lt hc0)).trans hc0
    have r2 : W3.frozen? ⟨w.heap.size, 0, none⟩ = false := (u1.frozen (p := ⟨w.heap.size, 0, none⟩) (fun h => h) (cell_lt hc0)).trans hR0
    have r3 : W3.cell? ⟨w.heap.size + 1, 0, none⟩ = some (.slice none 0 0) := (u2.cell (p := ⟨w.heap.size + 1, 0, none⟩) (fun h => h) (cell_lt p1)).trans p1
    have r4 : W3.frozen? ⟨w.heap.size + 1, 0, none⟩ = false := (u2.frozen (p := ⟨w.heap.size + 1, 0, none⟩) (fun h => h) (cell_lt p1)).trans p2
    have hm3 : EachMem (fun k => k = w.heap.size ∨ k = w.heap.size + 1) W3 (w2.heap.size + 1) w2.heap.size (d : Int) Aa ca arcs := ⟨k3, by intro e; omega, k2, by intro e; omega, HGA.out.turn (Turn.of_below _ hb3)⟩
    have hBW : Below w.heap.size w W3 := by
      have h1 : Below w.heap.size w ((w.alloc (.cells #[.slice none 0 0] 24)).alloc (.cells #[.slice none 0 0] 24)) := hb1.alloc (by rw [World.size_alloc]; omega) _
      exact h1.trans ((below_behind HB2.out hb3).mono h1.size)
    clear u1 u2 t1 t2 t3 p1 p2 hR0 hc0 k2 k3 hb3 HGA HB2 hb1
    obtain ⟨i0, hi, hz0, hz1, hz2⟩ := info_parts infoSl
    refine wpIn_rangeFunc_foot (n := 9) rfl rfl (enters_of Try.func66 (by kernel_rfl) rfl) (rowO_like (w.heap.size + 2))
      (each_runs arcs h2 hal d (by omega) (fun k => k = w.heap.size ∨ k = w.heap.size + 1) (w.heap.size + 2) W3 (by omega) (w2.heap.size + 1) w2.heap.size ca Aa hm3)
      (fun O pre Wc => ∃ pv, Wc.cell? ⟨w.heap.size + 1, 0, none⟩ = some pv ∧ Wc.frozen? ⟨w.heap.size + 1, 0, none⟩ = false ∧ Wc.cell? ⟨w.heap.size, 0, none⟩ = some (.slice none 0 0) ∧ Wc.frozen? ⟨w.heap.size, 0, none⟩ = false ∧ OwnIO O Wc (w.heap.size + 2) pv pre ∧ pre.length ≤ 500 ∧ (O w.heap.size ∧ O (w.heap.size + 1)) ∧ ∀ k, O k → k < Wc.heap.size)
      (fun cd O pre Wc => cd = .ret ∧ 500 < pre.length ∧ Wc.cell? ⟨w.heap.size, 0, none⟩ = some (.slice none 0 0) ∧ O w.heap.size)
      ?steady ?steadyx ?bound ?start
      (fun v => { tmps := #[.slice A m.length c, .int .i64 (d : Int), undef, undef, .pointer (some ⟨w.heap.size, 0, none⟩), .pointer (some ⟨w.heap.size + 1, 0, none⟩), v, .slice A m.length c, .bool true, .bool false, .bool false, .int .i64 (d : Int), .bool false, .bool false, .bool false, .int .i64 (d : Int), .bool false, .bool false, .slice A m.length c, .slice Aa arcs.length ca, .int .i64 (d : Int), .func (.func 66) #[] #[.pointer (some ⟨w2.heap.size + 1, 0, none⟩), .pointer (some ⟨w2.heap.size, 0, none⟩)], v, undef, undef, undef, undef, undef, undef, undef, undef], defers := [] })
      ?assign ?body ?done ?stop
    case steady =>
      rintro O pre Wa Wb ⟨pv, c1, c2, c3, c4, c5, c6, ⟨c7, c8⟩, c9⟩ ht
      refine ⟨pv, (ht.cell (p := ⟨w.heap.size + 1, 0, none⟩) (fun e => e.1 c8) (cell_lt c1)).trans c1, (ht.frozen (p := ⟨w.heap.size + 1, 0, none⟩) (fun e => e.1 c8) (cell_lt c1)).trans c2, (ht.cell (p := ⟨w.heap.size, 0, none⟩) (fun e => e.1 c7) (cell_lt c3)).trans c3, (ht.frozen (p := ⟨w.heap.size, 0, none⟩) (fun e => e.1 c7) (cell_lt c3)).trans c4, c5.turn ht fun k hk e => e.1 hk, c6, ⟨c7, c8⟩, fun k hk => Nat.lt_of_lt_of_le (c9 k hk) ht.size⟩
    case steadyx =>
      rintro cd O pre Wa Wb ⟨c1, c2, c3, c4⟩ ht
      exact ⟨c1, c2, (ht.cell (p := ⟨w.heap.size, 0, none⟩) (fun e => e.1 c4) (cell_lt c3)).trans c3, c4⟩
    case bound =>
      rintro O pre Wa ⟨pv, c1, c2, c3, c4, c5, c6, c7, c9⟩
      exact c9
    case start =>
      exact ⟨_, r3, r4, r1, r2, ⟨[], World.ownsRow_nil _ _ _ _, RowsOwn.nil _ _ _, fun g h => by (cases h), fun k r g h => by simp at h⟩, Nat.zero_le _, ⟨Or.inl rfl, Or.inr rfl⟩, fun k hk => by rcases hk with rfl | rfl <;> omega⟩
    case assign =>
      intro l' v Wa K hK
      gi_wp2
      exact hK
    case body =>
      rintro l' O pre x v Wb ⟨pv, c1, c2, c3, c4, c5, c6, c7, c9⟩ hrow hpre
      obtain ⟨Ap, cp, rfl⟩ := c5.slice
      have HSZ : Hid (w.heap.size + 2 ≤ Wb.heap.size + 1) := Lib.hid (by have := cell_lt c1; dsimp only at this; omega)
      have HC := Lib.hid (And.intro c5 (And.intro c7 c9))
      have HR := Lib.hid hrow
      have HP := Lib.hid (And.intro c1 (And.intro c3 c6))
      clear c5 c7 c9 hrow
      by_cases hl : pre.length = 500
      · have hres2 : Hid (∃ O' : Nat → Prop, Grow O Wb.heap.size v O' ∧ Turn O Wb (Wb.setCell ⟨w.heap.size, 0, none⟩ (.slice none 0 0)) ∧ 500 < (pre ++ [x]).length ∧ (Wb.setCell ⟨w.heap.size, 0, none⟩ (.slice none 0 0)).cell? ⟨w.heap.size, 0, none⟩ = some (.slice none 0 0) ∧ O' w.heap.size) := Lib.hid
          ⟨O, fun k hk => Or.inl hk, Turn.store _ _ HC.out.2.1.1, by rw [List.length_append]; simp; omega, World.cell?_setCell_same' _ _ _ (by rw [c3]; rfl), HC.out.2.1.1⟩
        rw [hl] at c1
        clear HC HR
        gi_wp2
        obtain ⟨O', z1, z2, z3, z4, z5⟩ := hres2.out
        exact ⟨O', z1, z2, rfl, z3, z4, z5⟩
      · obtain ⟨vs, h1, h2, h3, h4⟩ := HC.out.1
        have H1 := Lib.hid h1
        have hl5 : pre.length < 500 := by omega
        have hl6 : ((pre.length : Int) == 500) = false := by rw [beq_eq_false_iff_ne]; omega
        have HVL := Lib.hid (hrow_lt HR.out.1)
        obtain ⟨Ax, cx, rfl, _⟩ := rowS_of_owns HR.out.1
        have HALL : Hid (∀ (gg cap : Nat) (w4 : World), w4.ownsRow (w.heap.size + 2) 28 1 (.slice (some ⟨gg, 0, none⟩) (pre.length + 1) cap) (pre.length + 1) (vs ++ [.slice Ax x.length cx]) → (Wb.alloc (.cells #[.slice Ax x.length cx] 28)).grownBy w4 (Value.slice Ap pre.length cp).ownBlock → ((Value.slice Ap pre.length cp).ownBlock = some gg ∨ gg = Wb.heap.size + 1) → gg < w4.heap.size →
            w4.cell? ⟨w.heap.size + 1, 0, none⟩ = some (.slice Ap pre.length cp) ∧ w4.frozen? ⟨w.heap.size + 1, 0, none⟩ = false ∧
            ∃ O' : Nat → Prop, Grow O Wb.heap.size (.slice Ax x.length cx) O' ∧ Turn O Wb (w4.setCell ⟨w.heap.size + 1, 0, none⟩ (.slice (some ⟨gg, 0, none⟩) (pre.length + 1) cap)) ∧ ∃ pv, (w4.setCell ⟨w.heap.size + 1, 0, none⟩ (.slice (some ⟨gg, 0, none⟩) (pre.length + 1) cap)).cell? ⟨w.heap.size + 1, 0, none⟩ = some pv ∧ (w4.setCell ⟨w.heap.size + 1, 0, none⟩ (.slice (some ⟨gg, 0, none⟩) (pre.length + 1) cap)).frozen? ⟨w.heap.size + 1, 0, none⟩ = false ∧ (w4.setCell ⟨w.heap.size + 1, 0, none⟩ (.slice (some ⟨gg, 0, none⟩) (pre.length + 1) cap)).cell? ⟨w.heap.size, 0, none⟩ = some (.slice none 0 0) ∧ (w4.setCell ⟨w.heap.size + 1, 0, none⟩ (.slice (some ⟨gg, 0, none⟩) (pre.length + 1) cap)).frozen? ⟨w.heap.size, 0, none⟩ = false ∧ OwnIO O' (w4.setCell ⟨w.heap.size + 1, 0, none⟩ (.slice (some ⟨gg, 0, none⟩) (pre.length + 1) cap)) (w.heap.size + 2) pv (pre ++ [x]) ∧ (pre ++ [x]).length ≤ 500 ∧ (O' w.heap.size ∧ O' (w.heap.size + 1)) ∧ ∀ k, O' k → k < (w4.setCell ⟨w.heap.size + 1, 0, none⟩ (.slice (some ⟨gg, 0, none⟩) (pre.length + 1) cap)).heap.size) := by
          intro gg cap w4 ho4 hg4 hat hlt
          have hTa : Turn (fun k => (Value.slice Ap pre.length cp).ownBlock = some k) (Wb.alloc (.cells #[.slice Ax x.length cx] 28)) w4 := ⟨hg4.os, hg4.tape, hg4.output, hg4.size, fun k hk hn => hg4.block k hk fun e => hn e.symm⟩
          have hT : Turn (fun k => (Value.slice Ap pre.length cp).ownBlock = some k) Wb w4 := (Turn.of_below _ below_new).trans hTa fun _ _ h => h
          have hnb : ∀ k, (Value.slice Ap pre.length cp).ownBlock = some k → w.heap.size + 2 ≤ k := fun k e => (World.ownsRow.lt h1 k e).1
          have d1 := (hT.cell (p := ⟨w.heap.size + 1, 0, none⟩) (fun e => by have := hnb _ e; dsimp only at this; omega) (cell_lt c1)).trans c1
          have d2 := (hT.frozen (p := ⟨w.heap.size + 1, 0, none⟩) (fun e => by have := hnb _ e; dsimp only at this; omega) (cell_lt c1)).trans c2
          have d3 := (hT.cell (p := ⟨w.heap.size, 0, none⟩) (fun e => by have := hnb _ e; dsimp only at this; omega) (cell_lt c3)).trans c3
          have d4 := (hT.frozen (p := ⟨w.heap.size, 0, none⟩) (fun e => by have := hnb _ e; dsimp only at this; omega) (cell_lt c3)).trans c4
          have happ := OwnIO.append (wb := Wb) h2 h3 h4 HR.out.1 HR.out.2 below_new ho4 hg4 (by rw [World.size_alloc]; exact hat)
          have tS : Turn (fun k => k = w.heap.size + 1) w4 (w4.setCell ⟨w.heap.size + 1, 0, none⟩ (.slice (some ⟨gg, 0, none⟩) (pre.length + 1) cap)) := Turn.store _ _ rfl
          refine ⟨d1, d2, fun k => O k ∨ k = gg ∨ (Value.slice Ax x.length cx).ownBlock = some k, ?_, (hT.mono fun k _ e => h3 k e).trans (Turn.store (O := O) w4 _ HC.out.2.1.2) fun _ _ h => h, _, World.cell?_setCell_same' _ _ _ (by rw [d1]; rfl), by rw [World.frozen?_setCell]; exact d2, (tS.cell (p := ⟨w.heap.size, 0, none⟩) (by dsimp only; omega) (cell_lt d3)).trans d3, by rw [World.frozen?_setCell]; exact d4, ?_, by rw [List.length_append]; simp; omega, ⟨Or.inl HC.out.2.1.1, Or.inl HC.out.2.1.2⟩, ?_⟩
          · intro k hk
            rcases hk with h | rfl | h
            · exact Or.inl h
            · rcases hat with h | h
              · exact Or.inl (h3 _ h)
              · exact Or.inr (Or.inl (by omega))
            · exact Or.inr (Or.inr h)
          · exact (happ.high.turn tS fun k hk e => by have := hk.2; omega).mono fun k hk => hk.1
          · intro k hk
            have hsz := tS.size
            have hsz2 := hT.size
            rcases hk with h | rfl | h
            · have := HC.out.2.2 k h; omega
            · omega
            · have := (HVL.out k h).2; omega
        clear h1 h2 h3 h4 HC c2 c3 c4 hl HVL
        gi_wp2_with (gi_at_builtin; refine wpListIn_append_lies rfl (.tmp 26) (.tmp 28) 24 rfl (w.heap.size + 2) 28 i0 (.slice none 0 0) 1 24 Try.underlying24 hi hz0 hz1 hz2 rfl (by decide) _ _ _ rfl (kept_below H1.out below_new) ⟨Wb.heap.size, 0, none⟩ 1 1 [.slice Ax x.length cx] rfl rfl (news_one (cell_newest _ _ _)) (by intro u hu; cases List.mem_singleton.1 hu; rfl) (by omega) (by unfold maxLen; omega) (by omega) (by rw [World.size_alloc]; have := (World.ownsRow.lt H1.out); have := HSZ.out; omega) (Wb.heap.size + 1) (by simp) ?_; intro gg cap w4 ho4 hg4 hat hlt; obtain ⟨k1, k2, hF⟩ := HALL.out gg cap w4 ho4 hg4 hat hlt; have HF := Lib.hid hF; clear ho4 hg4 hat hlt hF HALL H1)
        exact HF.out
    case done =>
      rintro D O Wa hD hOD hsub htu ⟨pv, c1, c2, c3, c4, c5, c6, c7, c9⟩ hK
      have e : fillM arcs d [] = res := by
        have h := hres.out
        rwa [if_pos c6] at h
      rw [e] at c5
      obtain ⟨Ap, cp, rfl⟩ := c5.slice
      have HC := Lib.hid c5
      have HO := Lib.hid (And.intro c7 (And.intro hOD hsub))
      clear c5 c7 c9 hsub hOD c6 e
      gi_wp2
      have t4 : Turn O Wa (Wa.setCell ⟨w.heap.size, 0, none⟩ (.slice Ap res.length cp)) := Turn.store _ _ HO.out.1.1
      have hK2 := (t4.block D (Array.getElem?_eq_some_iff.1 hK).1 HO.out.2.1).trans hK
      refine ⟨by simp, .inl ⟨_, _, rfl, run_takeDeferred hK2, ?_⟩⟩
      have t5 : Turn (fun k => k = D) (Wa.setCell ⟨w.heap.size, 0, none⟩ (.slice Ap res.length cp)) ((Wa.setCell ⟨w.heap.size, 0, none⟩ (.slice Ap res.length cp)).putObj D (.deferred none)) := Turn.put _ _ rfl
      have q1 := World.cell?_setCell_same' Wa ⟨w.heap.size, 0, none⟩ (.slice Ap res.length cp) (by rw [c3]; rfl)
      have q2 := (t5.cell (p := ⟨w.heap.size, 0, none⟩) (by dsimp only; omega) (cell_lt q1)).trans q1
      refine ⟨.slice Ap res.length cp, by simp [results, Try.f14, go_sem, q2], _, rfl, ?_, ?_⟩
      · have z1 := HC.out.high.turn (Turn.store (O := fun k => k = w.heap.size) Wa (.slice Ap res.length cp) rfl) (fun k hk e => by have := hk.2; omega)
        have z2 := z1.turn t5 (fun k hk e => HO.out.2.1 (e ▸ hk.1))
        exact z2.ownG.mono (by omega)
      · have hWw := hBW.size
        have z1 := htu.below (B := w.heap.size) hWw (fun j hj => by omega)
        have z2 : Below w.heap.size Wa (Wa.setCell ⟨w.heap.size, 0, none⟩ (.slice Ap res.length cp)) := (Below.refl _ _).setCell (p := ⟨w.heap.size, 0, none⟩) (Nat.le_refl _) _
        exact ((hBW.trans z1).trans z2).trans (t5.below (by have := z1.size; have := z2.size; omega) (fun j hj => by omega))
    case stop =>
      rintro D cd O pre Wa hD hOD hsub htu hpre ⟨rfl, c2, c3, c4⟩ hK
      have e : res = [] := by
        have h := hres.out
        rw [if_neg (by have := hpre.length_le; omega)] at h
        exact h.symm
      subst e
      clear hpre c2 hsub
      gi_wp2
      refine ⟨by simp, .inl ⟨_, _, rfl, run_takeDeferred hK, ?_⟩⟩
      have t5 : Turn (fun k => k = D) Wa (Wa.putObj D (.deferred none)) := Turn.put _ _ rfl
      have q2 := (t5.cell (p := ⟨w.heap.size, 0, none⟩) (by dsimp only; omega) (cell_lt c3)).trans c3
      refine ⟨.slice none 0 0, by simp [results, Try.f14, go_sem, q2], _, rfl, ⟨[], World.ownsRow_nil _ _ _ _, RowsOwn.nil _ _ _⟩, ?_⟩
      have hWw := hBW.size
      have z1 := htu.below (B := w.heap.size) hWw (fun j hj => by omega)
      exact (hBW.trans z1).trans (t5.below (by have := z1.size; omega) (fun j hj => by omega))
  · have hp : pathsM m n = [] := by
      unfold pathsM
      rw [if_neg]
      intro h
      unfold pathsOkM at h
      rw [Bool.and_eq_true, Bool.and_eq_true, Bool.and_eq_true, decide_eq_true_iff, decide_eq_true_iff] at h
      exact hok ⟨h.1, h.2.1.1, h.2.1.2⟩
    replace HNIL := Lib.hid (HNIL hp)
    generalize pathsM m n = res at *
    clear hp hg ht
    refine callsIn_wide.1 (callsIn_of_wp_marks (n := 9) Try.func14 rfl trivial ?_ rfl)
    simp only [Try.ntmps14, List.size_toArray, List.length_cons, List.length_nil, Nat.reduceAdd, Nat.reduceSub, Array.replicate_succ, Array.replicate_zero, List.push_toArray, List.append_toArray, List.nil_append, List.cons_append]
    cases hm : isGraphM m with
    | false =>
      rw [hm] at HI
      clear hok
      gi_wp2_with (refine ⟨trivial, ?_⟩; gi_at_call 30; refine (callsIn_wide.2 HI.out).mono ?_; rintro e w' ⟨rfl, rfl⟩)
      refine ⟨.slice none 0 0, ?_, HNIL.out⟩
      simp [results, Try.f14, go_sem, hc0]
    | true =>
      rw [hm] at HI
      by_cases h1 : n < 1
      · clear hok
        gi_wp2_with (refine ⟨trivial, ?_⟩; gi_at_call 30; refine (callsIn_wide.2 HI.out).mono ?_; rintro e w' ⟨rfl, rfl⟩)
        refine ⟨.slice none 0 0, ?_, HNIL.out⟩
        simp [results, Try.f14, go_sem, hc0]
      · have h6 : 6 < n := by
          refine Int.not_le.1 fun h => hok ⟨hm, by omega, h⟩
        clear hok
        gi_wp2_with (refine ⟨trivial, ?_⟩; gi_at_call 30; refine (callsIn_wide.2 HI.out).mono ?_; rintro e w' ⟨rfl, rfl⟩)
        refine ⟨.slice none 0 0, ?_, HNIL.out⟩
        simp [results, Try.f14, go_sem, hc0]
end Go.Proofs.Ythljogoggiejmaa
