/-
  The laws' helpers on slices of slices of numbers: a whole copy in new memory; two tables that hold the same are found equal; a table that the call owns is marked, and a marked one is found marked.
-/
import Derived.Test.YtfgjlpnmjfekhaaGridOps
import Derived.Test.YtfgjlpnmjfekhaaGridOwn
import Derived.Deep.RegionHeld3
namespace Go.Proofs.Ytfgjlpnmjfekhaa
open Go Go.RowKit

/-- A copy of a table in new memory, at the heap's end. -/
def CopyGPost (m : List (List Int)) (w : World) (e : Ending) (w' : World) : Prop :=
  e = .returned (.slice (some ⟨w.heap.size, 0, none⟩) m.length m.length) ∧ OwnG w' w.heap.size (.slice (some ⟨w.heap.size, 0, none⟩) m.length m.length) m ∧ Below w.heap.size w w'

set_option maxRecDepth 100000 in
set_option maxHeartbeats 800000 in
theorem copy_grid (A : Option Addr) (c : Nat) (m : List (List Int)) (hn : m.length ≤ 1048576) (ht : tot m ≤ 1048576) (w : World) (hc : GridS w A m) :
    Calls Try.prog 10 #[.slice A m.length c] w (CopyGPost m w) := by
  obtain ⟨i0, hi, hz0, hz1, hz2⟩ := info_parts infoSl
  have HC := Lib.hid hc
  clear hc
  go_enter Try.func10, Try.ntmps10
  go_wp2_with (at_make; refine wpList_make_full _ rfl _ _ 22 rfl w.heap.size 33 i0 (.slice none 0 0) 1 Try.underlying22 hi hz0 hz1 .i64 .i64 _ _ m.length rfl rfl rfl rfl (by rw [hz2]; omega) (by unfold maxLen; omega) (Nat.le_refl _) ?_; intro w1 hown hgrow)
  have hown0 : w1.ownsRow w.heap.size 33 1 (.slice (some ⟨w.heap.size, 0, none⟩) m.length m.length) m.length ([] ++ List.replicate (m.length - 0) (.slice none 0 0)) := by
    have e : (madeCells (Value.slice none 0 0).cells (m.length * 1)).toList = List.replicate m.length (.slice none 0 0) := by rw [Nat.mul_one]; exact toList_madeCells_one _ _
    rw [List.nil_append, Nat.sub_zero, ← e]; exact hown
  have hbel : Below w.heap.size w w1 := (Below.refl _ _).grown hgrow (Nat.le_refl _) (fun k hk => by cases hk)
  clear hown hgrow
  go_loopw [4] (fun i wr => ∃ (k : Nat) (vs : List Value), k ≤ m.length ∧ i = .int .i64 k ∧ vs.length = k ∧ wr.ownsRow w.heap.size 33 1 (.slice (some ⟨w.heap.size, 0, none⟩) m.length m.length) m.length (vs ++ List.replicate (m.length - k) (.slice none 0 0)) ∧ RowsOwn wr w.heap.size (some w.heap.size) vs (m.take k) ∧ Below w.heap.size w wr) (fun i _ => m.length - (intOf i).toNat)
  case atStart => exact ⟨0, [], Nat.zero_le _, rfl, rfl, hown0, RowsOwn.nil _ _ _, hbel⟩
  case round =>
    obtain ⟨k, vs, hk, rfl, hvs, ho, hr, hbl⟩ := hrel
    by_cases hlt : k < m.length
    · obtain ⟨b, off, A', c', rfl, hc1, hrow, hb⟩ := (HC.out.below hbl).row hlt
      have hx : (m.getD k []).length ≤ 1048576 := Nat.le_trans (row_le_tot hlt) ht
      have HT := Lib.hid (rows_take_next m k hlt)
      generalize m.getD k [] = x at hc1 hrow hx HT
      have HCP := Lib.hid (copy_ints A' c' x (by omega) wr hrow)
      have hgs := (ho.lt w.heap.size rfl).2
      have HO := Lib.hid ho
      have HR := Lib.hid hr
      have HB := Lib.hid hbl
      clear ho hr hbl hrow
      go_wp2_with fail
      refine HCP.out.mono ?_
      rintro e w2 ⟨rfl, hr2, b2, hlt2⟩
      have hold : (vs ++ List.replicate (m.length - k) (Value.slice none 0 0))[k]? = some (.slice none 0 0) := by
        rw [List.getElem?_append_right (by omega), hvs, Nat.sub_self, List.getElem?_replicate, if_pos (by omega)]
      have ho2 := HO.out.kept (row := none) (w' := w2) ⟨b2.os, b2.tape, b2.output, b2.size, fun j hj _ => b2.block j hj⟩ (Or.inr (by intro h; cases h))
      have hc2 := (ho2.cellAt k (by omega)).trans hold
      have hf2 := ho2.frozenAt k
      have hst := ho2.stored k (.slice (some ⟨wr.heap.size, 0, none⟩) x.length x.length)
      have hset : (vs ++ List.replicate (m.length - k) (Value.slice none 0 0)).set k (.slice (some ⟨wr.heap.size, 0, none⟩) x.length x.length) = (vs ++ [.slice (some ⟨wr.heap.size, 0, none⟩) x.length x.length]) ++ List.replicate (m.length - (k + 1)) (.slice none 0 0) := by
        rw [List.set_append_right _ _ (by omega), hvs, Nat.sub_self, show m.length - k = (m.length - (k + 1)) + 1 by omega, List.replicate_succ]
        simp
      rw [hset] at hst
      have HS := Lib.hid hst.1
      have HP : Hid (RowsOwn (w2.setCell ⟨w.heap.size, k, none⟩ (.slice (some ⟨wr.heap.size, 0, none⟩) x.length x.length)) w.heap.size (some w.heap.size) (vs ++ [.slice (some ⟨wr.heap.size, 0, none⟩) x.length x.length]) (m.take k ++ [x])) := Lib.hid (by
        refine ((HR.out.below b2).push (World.ownsRow.mono hr2 (by omega)) (Or.inr (by show some wr.heap.size ≠ some w.heap.size; intro h; have := Option.some.inj h; omega)) (fun j s hj => ?_)).keptOuter hst.2
        cases e : s.ownBlock with
        | none => exact Or.inl rfl
        | some g => exact Or.inr (by show some g ≠ some wr.heap.size; intro h; have := Option.some.inj h; have := (HR.out.lt hj g e).2; omega))
      clear hst hr2 ho2
      go_wp2
      go_roundw
      case rel => exact ⟨k + 1, _, by omega, by go_num, by simp [hvs], HS.out, by rw [HT.out]; exact HP.out, (HB.out.trans (b2.mono HB.out.size)).setCell (Nat.le_refl _) _⟩
      case measure => simp [intOf]; omega
    · obtain rfl : k = m.length := by omega
      rw [Nat.sub_self, List.replicate_zero, List.append_nil] at ho
      rw [List.take_length] at hr
      have HO := Lib.hid ho
      have HR := Lib.hid hr
      clear ho hr
      go_wp2
      go_ret
      exact ⟨rfl, ⟨vs, HO.out, HR.out⟩, hbl⟩

set_option maxRecDepth 100000 in
set_option maxHeartbeats 1600000 in
theorem same_grids (A1 A2 : Option Addr) (c1 c2 : Nat) (m : List (List Int)) (hn : m.length ≤ 1048576) (ht : tot m ≤ 1048576) (w : World) (h1 : GridS w A1 m) (h2 : GridS w A2 m) :
    Calls Try.prog 12 #[.slice A1 m.length c1, .slice A2 m.length c2] w (TrueBelowG w) := by
  have H1 := Lib.hid h1
  have H2 := Lib.hid h2
  clear h1 h2
  go_enter Try.func12, Try.ntmps12
  go_wp2
  go_loopw [5] (fun i wr => ∃ k : Nat, k ≤ m.length ∧ i = .int .i64 k ∧ Below w.heap.size w wr) (fun i _ => m.length - (intOf i).toNat)
  case atStart => exact ⟨0, Nat.zero_le _, rfl, Below.refl _ _⟩
  case round =>
    obtain ⟨k, hk, rfl, hbl⟩ := hrel
    by_cases hlt : k < m.length
    · obtain ⟨b1, o1, R1, d1, rfl, k1, hr1, hb1⟩ := (H1.out.below hbl).row hlt
      obtain ⟨b2, o2, R2, d2, rfl, k2, hr2, hb2⟩ := (H2.out.below hbl).row hlt
      have hx : (m.getD k []).length ≤ 1048576 := Nat.le_trans (row_le_tot hlt) ht
      generalize m.getD k [] = x at k1 k2 hr1 hr2 hx
      have HE : Hid (∀ w', Below wr.heap.size wr w' → Calls Try.prog 31 #[.slice R1 x.length d1, .slice R2 x.length d2] w' (TrueBelowG w')) := Lib.hid fun w' hb => same_ints R1 R2 d1 d2 x (by omega) w' (hr1.below hb) (hr2.below hb)
      have HB := Lib.hid hbl
      clear hbl hr1 hr2
      have g0 : (0 : Int) ≤ (k : Int) := by omega
      have g1 : (k : Int) < (m.length : Int) := by omega
      go_wp2
      go_region_held3 (fun w' => w'.cell? ⟨b1, o1 + k, none⟩ = some (.slice R1 x.length d1) ∧ w'.cell? ⟨b2, o2 + k, none⟩ = some (.slice R2 x.length d2)) (first | exact ⟨y0, y1⟩ | go_keep) (first | (go_at_call 31; refine (HE.out _ (by first | exact Below.refl _ _ | exact (Below.refl _ _).drew)).mono ?_; rintro e w2 ⟨rfl, hb3⟩; have y0 := (hb3.cell (p := ⟨b1, o1 + k, none⟩) hb1).trans k1; have y1 := (hb3.cell (p := ⟨b2, o2 + k, none⟩) hb2).trans k2))
      go_wp2
      go_roundw
      case rel => exact ⟨k + 1, by omega, by go_num, HB.out.drew.trans (hb3.mono HB.out.size)⟩
      case measure => simp [intOf]; omega
    · obtain rfl : k = m.length := by omega
      go_wp2
      go_ret
      exact ⟨rfl, hbl⟩

/-! ### Marks -/

/-- The numbers from q on. -/
def marksI (q : Nat) : Nat → List Int
  | 0 => []
  | n + 1 => (q : Int) :: marksI (q + 1) n
theorem marksI_length : ∀ (n q : Nat), (marksI q n).length = n
  | 0, _ => rfl
  | n + 1, q => by rw [marksI, List.length_cons, marksI_length n]
theorem marksI_get : ∀ (n q j : Nat), j < n → (marksI q n).getD j 0 = ((q + j : Nat) : Int)
  | 0, _, j, h => by omega
  | n + 1, q, 0, _ => by simp [marksI]
  | n + 1, q, j + 1, h => by
    rw [marksI, List.getD_cons_succ, marksI_get n (q + 1) j (by omega)]
    congr 1; omega
theorem marksI_next : ∀ (n q : Nat), marksI q (n + 1) = marksI q n ++ [((q + n : Nat) : Int)]
  | 0, q => rfl
  | n + 1, q => by
    rw [marksI, marksI_next n (q + 1), marksI, List.cons_append]
    congr 4; omega
/-- A row that is being marked from the front. -/
def markedI (xs : List Int) (q k : Nat) : List Value := ((marksI q k) ++ xs.drop k).map (Value.int .i64)
theorem markedI_set (xs : List Int) (q k : Nat) (h : k < xs.length) : (markedI xs q k).set k (.int .i64 ((q + k : Nat) : Int)) = markedI xs q (k + 1) := by
  have hl : ((marksI q k).map (Value.int .i64)).length = k := by rw [List.length_map, marksI_length]
  have hd : xs.drop k = xs[k] :: xs.drop (k + 1) := List.drop_eq_getElem_cons h
  unfold markedI
  rw [marksI_next, List.map_append, List.map_append, List.map_append, hd, List.map_cons]
  rw [List.set_append_right _ _ (by omega), hl, Nat.sub_self]
  simp
theorem markedI_at (xs : List Int) (q k : Nat) (h : k < xs.length) : ∃ y, (markedI xs q k)[k]? = some (.int .i64 y) := by
  have hl : (marksI q k).length = k := marksI_length k q
  refine ⟨xs[k], ?_⟩
  unfold markedI
  rw [List.getElem?_map, List.getElem?_append_right (by omega), hl, Nat.sub_self, List.getElem?_drop, Nat.add_zero, List.getElem?_eq_getElem h]
  rfl
theorem markedI_none (xs : List Int) (q : Nat) : markedI xs q 0 = xs.map (Value.int .i64) := by simp [markedI, marksI]
theorem markedI_all (xs : List Int) (q : Nat) : markedI xs q xs.length = (marksI q xs.length).map (Value.int .i64) := by simp [markedI]

/-- The row holds the marks from q on; of what was there no other block has turned. -/
def MarkIPost (B q : Nat) (r : Value) (n : Nat) (w : World) (e : Ending) (w' : World) : Prop :=
  e = .returned (.int .i64 ((q + n : Nat) : Int)) ∧ w'.ownsRow B 3 1 r n ((marksI q n).map (Value.int .i64)) ∧ w.grownBy w' r.ownBlock

set_option maxRecDepth 100000 in
set_option maxHeartbeats 800000 in
theorem mark_ints_some (B q g cap : Nat) (xs : List Int) (hq : q ≤ 1000000000000) (hn : xs.length ≤ 1099511627776) (w : World) (ho : w.ownsRow B 3 1 (.slice (some ⟨g, 0, none⟩) xs.length cap) xs.length (xs.map (Value.int .i64))) :
    Calls Try.prog 32 #[.slice (some ⟨g, 0, none⟩) xs.length cap, .int .i64 (q : Int)] w (MarkIPost B q (.slice (some ⟨g, 0, none⟩) xs.length cap) xs.length w) := by
  have HO0 := Lib.hid ho
  clear ho
  go_enter Try.func32, Try.ntmps32
  go_wp2
  go_loopw [1, 5] (fun p i wr => ∃ k : Nat, k ≤ xs.length ∧ p = .int .i64 ((q + k : Nat) : Int) ∧ i = .int .i64 k ∧ wr.ownsRow B 3 1 (.slice (some ⟨g, 0, none⟩) xs.length cap) xs.length (markedI xs q k) ∧ w.grownBy wr (some g)) (fun _ i _ => xs.length - (intOf i).toNat)
  case atStart => exact ⟨0, Nat.zero_le _, rfl, rfl, by rw [markedI_none]; exact HO0.out, World.grownBy.refl _ _⟩
  case round =>
    obtain ⟨k, hk, rfl, rfl, ho, hgr⟩ := hrel
    by_cases hlt : k < xs.length
    · obtain ⟨y, hy⟩ := markedI_at xs q k hlt
      have hc := (ho.cellAt k (by omega)).trans hy
      have hf := ho.frozenAt k
      have hst := ho.stored k (.int .i64 ((q + k : Nat) : Int))
      rw [markedI_set xs q k hlt] at hst
      have HS := Lib.hid hst.1
      have HG : Hid (w.grownBy (wr.setCell ⟨g, k, none⟩ (.int .i64 ((q + k : Nat) : Int))) (some g)) :=
        Lib.hid ⟨hst.2.os.trans hgr.os, hst.2.tape.trans hgr.tape, hst.2.output.trans hgr.output, Nat.le_trans hgr.size hst.2.size, fun j hj hne => (hst.2.block j (Nat.lt_of_lt_of_le hj hgr.size) hne).trans (hgr.block j hj hne)⟩
      clear hst ho hgr hy
      go_wp2
      go_roundw
      case rel => exact ⟨k + 1, by omega, by go_num, by go_num, HS.out, HG.out⟩
      case measure => simp [intOf]; omega
    · obtain rfl : k = xs.length := by omega
      rw [markedI_all] at ho
      have HO := Lib.hid ho
      clear ho
      go_wp2
      go_ret
      exact ⟨rfl, HO.out, hgr⟩
theorem mark_ints_none (A : Option Addr) (c : Nat) (q : Int) (w : World) :
    Calls Try.prog 32 #[.slice A 0 c, .int .i64 q] w fun e w' => e = .returned (.int .i64 q) ∧ w' = w := by
  go_enter Try.func32, Try.ntmps32
  go_wp2
  go_loop [1, 5] (fun p i => p = .int .i64 q ∧ i = .int .i64 0) (fun _ _ => 0)
  case atStart => exact ⟨rfl, rfl⟩
  case round =>
    obtain ⟨rfl, rfl⟩ := hrel
    go_wp2
    go_ret
    exact ⟨rfl, rfl⟩
theorem mark_ints (B q : Nat) (r : Value) (xs : List Int) (hq : q ≤ 1000000000000) (hn : xs.length ≤ 1099511627776) (w : World) (ho : w.ownsRow B 3 1 r xs.length (xs.map (Value.int .i64))) :
    Calls Try.prog 32 #[r, .int .i64 (q : Int)] w (MarkIPost B q r xs.length w) := by
  have ho' := ho
  rcases ho.2 with ⟨rfl, h0⟩ | ⟨g, cap, cur, rfl, _⟩
  · refine (mark_ints_none none 0 q w).mono ?_
    rintro e w' ⟨rfl, rfl⟩
    rw [h0]
    refine ⟨rfl, ?_, World.grownBy.refl _ _⟩
    obtain rfl : xs = [] := List.eq_nil_of_length_eq_zero h0
    exact ho'
  · exact mark_ints_some B q g cap xs hq hn w ho'

/-- The tables of marks: each row goes on where the one before it ended. -/
def marksG : Nat → List (List Int) → List (List Int)
  | _, [] => []
  | q, r :: m => marksI q r.length :: marksG (q + r.length) m
theorem marksG_length : ∀ (m : List (List Int)) (q : Nat), (marksG q m).length = m.length
  | [], _ => rfl
  | r :: m, q => by rw [marksG, List.length_cons, marksG_length m, List.length_cons]
theorem tot_cons (r : List Int) (m : List (List Int)) : tot (r :: m) = r.length + tot m := by simp [tot]
theorem marksG_get : ∀ (m : List (List Int)) (q k : Nat), k < m.length → (marksG q m).getD k [] = marksI (q + tot (m.take k)) (m.getD k []).length
  | [], _, k, h => by simp at h
  | r :: m, q, 0, _ => by simp [marksG, tot]
  | r :: m, q, k + 1, h => by
    rw [marksG, List.getD_cons_succ, marksG_get m (q + r.length) k (by simpa using h), List.getD_cons_succ, List.take_succ_cons, tot_cons]
    congr 1; omega
theorem tot_marksG : ∀ (m : List (List Int)) (q : Nat), tot (marksG q m) = tot m
  | [], _ => rfl
  | r :: m, q => by rw [marksG, tot_cons, tot_cons, marksI_length, tot_marksG m]
/-- A table that is being marked from the front. -/
def markedG (m : List (List Int)) (q k : Nat) : List (List Int) := (marksG q m).take k ++ m.drop k
theorem markedG_length (m : List (List Int)) (q k : Nat) (hk : k ≤ m.length) : (markedG m q k).length = m.length := by
  unfold markedG; simp [marksG_length]; omega
theorem markedG_none (m : List (List Int)) (q : Nat) : markedG m q 0 = m := by simp [markedG]
theorem markedG_all (m : List (List Int)) (q : Nat) : markedG m q m.length = marksG q m := by
  unfold markedG
  rw [List.drop_length, List.append_nil, List.take_of_length_le (by rw [marksG_length]; exact Nat.le_refl _)]
theorem markedG_get (m : List (List Int)) (q k : Nat) (hk : k < m.length) : (markedG m q k).getD k [] = m.getD k [] := by
  unfold markedG
  have hl : ((marksG q m).take k).length = k := by rw [List.length_take, marksG_length]; omega
  simp only [List.getD]
  rw [List.getElem?_append_right (by omega), hl, Nat.sub_self, List.getElem?_drop, Nat.add_zero]
theorem markedG_set (m : List (List Int)) (q k : Nat) (hk : k < m.length) : (markedG m q k).set k (marksI (q + tot (m.take k)) (m.getD k []).length) = markedG m q (k + 1) := by
  unfold markedG
  have hl : ((marksG q m).take k).length = k := by rw [List.length_take, marksG_length]; omega
  have hm : k < (marksG q m).length := by rw [marksG_length]; exact hk
  have hd : m.drop k = m[k] :: m.drop (k + 1) := List.drop_eq_getElem_cons hk
  have hg := marksG_get m q k hk
  rw [List.set_append_right _ _ (by omega), hl, Nat.sub_self, hd, List.set_cons_zero, List.take_succ_eq_append_getElem hm, List.append_assoc, List.singleton_append]
  congr 2
  rw [← hg]
  simp [List.getD, hm]

/-- The table holds the marks; of what was there only blocks from B on and below S have turned. -/
def MarkGPost (B S q : Nat) (v : Value) (m : List (List Int)) (w : World) (e : Ending) (w' : World) : Prop :=
  e = .returned (.int .i64 ((q + tot m : Nat) : Int)) ∧ OwnIn w' B S v (marksG q m) ∧ Within B S w w'

set_option maxRecDepth 100000 in
set_option maxHeartbeats 800000 in
theorem mark_grid (B S q : Nat) (v : Value) (m : List (List Int)) (hq : q ≤ 100000000000) (hn : m.length ≤ 1048576) (ht : tot m ≤ 1048576) (w : World) (ho : OwnIn w B S v m) :
    Calls Try.prog 13 #[v, .int .i64 (q : Int)] w (MarkGPost B S q v m w) := by
  obtain ⟨A, c, rfl, -⟩ := ho.ownG.gridS
  obtain ⟨vs, hov0, hrv0, hin⟩ := ho
  have HO0 := Lib.hid hov0
  have HR0 := Lib.hid hrv0
  have HIN := Lib.hid hin
  clear hov0 hrv0 hin
  go_enter Try.func13, Try.ntmps13
  go_wp2
  go_loopw [1, 5] (fun p i wr => ∃ k : Nat, k ≤ m.length ∧ p = .int .i64 ((q + tot (m.take k) : Nat) : Int) ∧ i = .int .i64 k ∧ wr.ownsRow B 33 1 (.slice A m.length c) m.length vs ∧ RowsOwn wr B (Value.slice A m.length c).ownBlock vs (markedG m q k) ∧ Within B S w wr) (fun _ i _ => m.length - (intOf i).toNat)
  case atStart => exact ⟨0, Nat.zero_le _, rfl, rfl, HO0.out, by rw [markedG_none]; exact HR0.out, Within.refl _ _ _⟩
  case round =>
    obtain ⟨k, hk, rfl, rfl, hov, hrv, hw⟩ := hrel
    have hlen := markedG_length m q k hk
    by_cases hlt : k < m.length
    · rcases hov.2 with ⟨e0, h0⟩ | ⟨g, cap, cur, e0, _⟩
      · omega
      simp only [Value.slice.injEq, true_and] at e0
      obtain ⟨rfl, rfl⟩ := e0
      have hvl := hrv.len
      have hvk : vs[k]? = some vs[k] := List.getElem?_eq_getElem (by omega)
      obtain ⟨hrk, hrb⟩ := hrv.row k _ hvk
      rw [markedG_get m q k hlt] at hrk
      have hc1 : wr.cell? ⟨g, k, none⟩ = some vs[k] := (hov.cellAt k (by omega)).trans hvk
      have hx : (m.getD k []).length ≤ 1048576 := Nat.le_trans (row_le_tot hlt) ht
      have hq2 : tot (m.take k) ≤ 1048576 := Nat.le_trans (tot_take_le m k) ht
      have HNX := Lib.hid (tot_next m k hlt)
      have HST := Lib.hid (markedG_set m q k hlt)
      have HGT : Hid (((markedG m q k).getD k []).length = (m.getD k []).length) := Lib.hid (by rw [markedG_get m q k hlt])
      have HM := Lib.hid (mark_ints B (q + tot (m.take k)) vs[k] (m.getD k []) (by omega) (by omega) wr hrk)
      have HOV := Lib.hid hov
      have HRV := Lib.hid hrv
      have HVK := Lib.hid hvk
      have HB : Hid (∀ h, vs[k].ownBlock = some h → B ≤ h ∧ h < S) := Lib.hid fun h hh => ⟨(hrk.lt h hh).1, HIN.out k _ h hvk hh⟩
      obtain ⟨A', c', hr'⟩ := slice_of_owns hrk
      have HW := Lib.hid hw
      clear hov hrv hrk hvk hw
      generalize vs[k] = r at hc1 HM HB HVK hrb hr'
      subst hr'
      generalize hqq : q + tot (m.take k) = q' at *
      generalize (m.getD k []).length = n at *
      go_wp2_with fail
      refine HM.out.mono ?_
      rintro e w1 ⟨rfl, ho1, hg1⟩
      have h2 := OwnG.setRow (xs := marksI q' n) HOV.out HRV.out HVK.out (by rw [marksI_length]; exact HGT.out.symm) (by rw [marksI_length]; exact ho1) hg1
      rw [HST.out] at h2
      have H2 := Lib.hid h2
      have HW2 := Lib.hid (HW.out.trans (Within.of_grown hg1 HB.out))
      clear h2 ho1 hg1
      go_wp2
      go_roundw
      case rel => exact ⟨k + 1, by omega, by rw [HNX.out, ← Nat.add_assoc, hqq]; go_num, by go_num, H2.out.1, H2.out.2, HW2.out⟩
      case measure => simp [intOf]; omega
    · obtain rfl : k = m.length := by omega
      rw [markedG_all] at hrv
      have HO := Lib.hid hov
      have HR := Lib.hid hrv
      clear hov hrv
      go_wp2
      go_ret
      exact ⟨by rw [tot_all (Nat.le_refl _)]; rfl, ⟨vs, by rw [marksG_length]; exact HO.out, HR.out, HIN.out⟩, hw⟩

/-! ### Looking at marks -/

set_option maxRecDepth 100000 in
set_option maxHeartbeats 400000 in
theorem held_ints (q n : Nat) (A : Option Addr) (c : Nat) (hq : q ≤ 1000000000000) (hn : n ≤ 1099511627776) (w : World) (h : RowS w A (marksI q n)) :
    Calls Try.prog 33 #[.slice A n c, .int .i64 (q : Int)] w fun e w' => e = .returned (.int .i64 ((q + n : Nat) : Int)) ∧ w' = w := by
  have HT := Lib.hid h
  clear h
  go_enter Try.func33, Try.ntmps33
  go_wp2
  go_loop [1, 5] (fun p i => ∃ k : Nat, k ≤ n ∧ p = .int .i64 ((q + k : Nat) : Int) ∧ i = .int .i64 k) (fun _ i => n - (intOf i).toNat)
  case atStart => exact ⟨0, Nat.zero_le _, rfl, rfl⟩
  case round =>
    obtain ⟨k, hk, rfl, rfl⟩ := hrel
    by_cases hlt : k < n
    · obtain ⟨b, off, rfl, hat, hb⟩ := HT.out (by rw [marksI_length]; omega)
      have hc := hat k (by rw [marksI_length]; exact hlt)
      rw [marksI_get n q k hlt] at hc
      clear hat
      go_wp2
      go_round
      case rel => exact ⟨k + 1, by omega, by go_num, by go_num⟩
      case measure => simp [intOf]; omega
    · obtain rfl : k = n := by omega
      go_wp2
      go_ret
      exact ⟨rfl, rfl⟩

set_option maxRecDepth 100000 in
set_option maxHeartbeats 400000 in
theorem held_grid (q : Nat) (m : List (List Int)) (A : Option Addr) (c : Nat) (hq : q ≤ 100000000000) (hn : m.length ≤ 1048576) (ht : tot m ≤ 1048576) (w : World) (h : GridS w A (marksG q m)) :
    Calls Try.prog 14 #[.slice A m.length c, .int .i64 (q : Int)] w fun e w' => e = .returned (.int .i64 ((q + tot m : Nat) : Int)) ∧ w' = w := by
  have HT := Lib.hid h
  clear h
  go_enter Try.func14, Try.ntmps14
  go_wp2
  go_loop [1, 5] (fun p i => ∃ k : Nat, k ≤ m.length ∧ p = .int .i64 ((q + tot (m.take k) : Nat) : Int) ∧ i = .int .i64 k) (fun _ i => m.length - (intOf i).toNat)
  case atStart => exact ⟨0, Nat.zero_le _, rfl, rfl⟩
  case round =>
    obtain ⟨k, hk, rfl, rfl⟩ := hrel
    by_cases hlt : k < m.length
    · obtain ⟨b, off, A', c', rfl, hc, hrow, hb⟩ := HT.out.row (k := k) (by rw [marksG_length]; exact hlt)
      rw [marksG_get m q k hlt, marksI_length] at hc
      rw [marksG_get m q k hlt] at hrow
      have hx : (m.getD k []).length ≤ 1048576 := Nat.le_trans (row_le_tot hlt) ht
      have hq2 : tot (m.take k) ≤ 1048576 := Nat.le_trans (tot_take_le m k) ht
      have HNX := Lib.hid (tot_next m k hlt)
      have HH := Lib.hid (held_ints (q + tot (m.take k)) (m.getD k []).length A' c' (by omega) (by omega) w hrow)
      clear hrow
      generalize (m.getD k []).length = n at hc hx HNX HH
      generalize hqq : q + tot (m.take k) = q' at *
      go_wp2_with fail
      refine HH.out.mono ?_
      rintro e w1 ⟨rfl, rfl⟩
      go_wp2
      go_round
      case rel => exact ⟨k + 1, by omega, by rw [HNX.out, ← Nat.add_assoc, hqq]; go_num, by go_num⟩
      case measure => simp [intOf]; omega
    · obtain rfl : k = m.length := by omega
      go_wp2
      go_ret
      exact ⟨rfl, rfl⟩
end Go.Proofs.Ytfgjlpnmjfekhaa
