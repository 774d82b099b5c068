/-
  The laws' helpers on slices of slices of numbers: a whole copy in new memory; two tables that hold the same are found equal; a table that the call owns is marked, and a marked one is found marked.
-/
import Derived.Test.YtfbdmheaalmboaaDoorGridOps
import Derived.Test.YtfbdmheaalmboaaDoorGridOwn
import Derived.Deep.RegionHeld3
namespace Go.Proofs.YtfbdmheaalmboaaDoor
open Go Go.RowKit

/-- A copy of a table in new memory, at the heap's end. -/
def CopyGPost (m : List (List Int)) (w : World) (e : Ending) (w' : World) : Prop :=
  e = .returned (.slice (some ⟨w.heap.size, 0, none⟩) m.length m.length) ∧ OwnG w' w.heap.size (.slice (some ⟨w.heap.size, 0, none⟩) m.length m.length) m ∧ Below w.heap.size w w'

set_option maxRecDepth 100000 in
set_option maxHeartbeats 800000 in
theorem copy_grid (A : Option Addr) (c : Nat) (m : List (List Int)) (hn : m.length ≤ 1048576) (ht : tot m ≤ 1048576) (w : World) (hc : GridS w A m) :
    Calls Tryd.prog 7 #[.slice A m.length c] w (CopyGPost m w) := by
  obtain ⟨i0, hi, hz0, hz1, hz2⟩ := info_parts infoSl
  have HC := Lib.hid hc
  clear hc
  go_enter Tryd.func7, Tryd.ntmps7
  go_wp2_with (at_make; refine wpList_make_full _ rfl _ _ 22 rfl w.heap.size 28 i0 (.slice none 0 0) 1 Tryd.underlying22 hi hz0 hz1 .i64 .i64 _ _ m.length rfl rfl rfl rfl (by rw [hz2]; omega) (by unfold maxLen; omega) (Nat.le_refl _) ?_; intro w1 hown hgrow)
  have hown0 : w1.ownsRow w.heap.size 28 1 (.slice (some ⟨w.heap.size, 0, none⟩) m.length m.length) m.length ([] ++ List.replicate (m.length - 0) (.slice none 0 0)) := by
    have e : (madeCells (Value.slice none 0 0).cells (m.length * 1)).toList = List.replicate m.length (.slice none 0 0) := by rw [Nat.mul_one]; exact toList_madeCells_one _ _
    rw [List.nil_append, Nat.sub_zero, ← e]; exact hown
  have hbel : Below w.heap.size w w1 := (Below.refl _ _).grown hgrow (Nat.le_refl _) (fun k hk => by cases hk)
  clear hown hgrow
  go_loopw [4] (fun i wr => ∃ (k : Nat) (vs : List Value), k ≤ m.length ∧ i = .int .i64 k ∧ vs.length = k ∧ wr.ownsRow w.heap.size 28 1 (.slice (some ⟨w.heap.size, 0, none⟩) m.length m.length) m.length (vs ++ List.replicate (m.length - k) (.slice none 0 0)) ∧ RowsOwn wr w.heap.size (some w.heap.size) vs (m.take k) ∧ Below w.heap.size w wr) (fun i _ => m.length - (intOf i).toNat)
  case atStart => exact ⟨0, [], Nat.zero_le _, rfl, rfl, hown0, RowsOwn.nil _ _ _, hbel⟩
  case round =>
    obtain ⟨k, vs, hk, rfl, hvs, ho, hr, hbl⟩ := hrel
    by_cases hlt : k < m.length
    · obtain ⟨b, off, A', c', rfl, hc1, hrow, hb⟩ := (HC.out.below hbl).row hlt
      have hx : (m.getD k []).length ≤ 1048576 := Nat.le_trans (row_le_tot hlt) ht
      have HT := Lib.hid (rows_take_next m k hlt)
      generalize m.getD k [] = x at hc1 hrow hx HT
      have HCP := Lib.hid (copy_ints A' c' x (by omega) wr hrow)
      have hgs := (ho.lt w.heap.size rfl).2
      have HO := Lib.hid ho
      have HR := Lib.hid hr
      have HB := Lib.hid hbl
      clear ho hr hbl hrow
      go_wp2_with fail
      refine HCP.out.mono ?_
      rintro e w2 ⟨rfl, hr2, b2, hlt2⟩
      have hold : (vs ++ List.replicate (m.length - k) (Value.slice none 0 0))[k]? = some (.slice none 0 0) := by
        rw [List.getElem?_append_right (by omega), hvs, Nat.sub_self, List.getElem?_replicate, if_pos (by omega)]
      have ho2 := HO.out.kept (row := none) (w' := w2) ⟨b2.os, b2.tape, b2.output, b2.size, fun j hj _ => b2.block j hj⟩ (Or.inr (by intro h; cases h))
      have hc2 := (ho2.cellAt k (by omega)).trans hold
      have hf2 := ho2.frozenAt k
      have hst := ho2.stored k (.slice (some ⟨wr.heap.size, 0, none⟩) x.length x.length)
      have hset : (vs ++ List.replicate (m.length - k) (Value.slice none 0 0)).set k (.slice (some ⟨wr.heap.size, 0, none⟩) x.length x.length) = (vs ++ [.slice (some ⟨wr.heap.size, 0, none⟩) x.length x.length]) ++ List.replicate (m.length - (k + 1)) (.slice none 0 0) := by
        rw [List.set_append_right _ _ (by omega), hvs, Nat.sub_self, show m.length - k = (m.length - (k + 1)) + 1 by omega, List.replicate_succ]
        simp
      rw [hset] at hst
      have HS := Lib.hid hst.1
      have HP : Hid (RowsOwn (w2.setCell ⟨w.heap.size, k, none⟩ (.slice (some ⟨wr.heap.size, 0, none⟩) x.length x.length)) w.heap.size (some w.heap.size) (vs ++ [.slice (some ⟨wr.heap.size, 0, none⟩) x.length x.length]) (m.take k ++ [x])) := Lib.hid (by
        refine ((HR.out.below b2).push (World.ownsRow.mono hr2 (by omega)) (Or.inr (by show some wr.heap.size ≠ some w.heap.size; intro h; have := Option.some.inj h; omega)) (fun j s hj => ?_)).keptOuter hst.2
        cases e : s.ownBlock with
        | none => exact Or.inl rfl
        | some g => exact Or.inr (by show some g ≠ some wr.heap.size; intro h; have := Option.some.inj h; have := (HR.out.lt hj g e).2; omega))
      clear hst hr2 ho2
      go_wp2
      go_roundw
      case rel => exact ⟨k + 1, _, by omega, by go_num, by simp [hvs], HS.out, by rw [HT.out]; exact HP.out, (HB.out.trans (b2.mono HB.out.size)).setCell (Nat.le_refl _) _⟩
      case measure => simp [intOf]; omega
    · obtain rfl : k = m.length := by omega
      rw [Nat.sub_self, List.replicate_zero, List.append_nil] at ho
      rw [List.take_length] at hr
      have HO := Lib.hid ho
      have HR := Lib.hid hr
      clear ho hr
      go_wp2
      go_ret
      exact ⟨rfl, ⟨vs, HO.out, HR.out⟩, hbl⟩

set_option maxRecDepth 100000 in
set_option maxHeartbeats 1600000 in
theorem same_grids (A1 A2 : Option Addr) (c1 c2 : Nat) (m : List (List Int)) (hn : m.length ≤ 1048576) (ht : tot m ≤ 1048576) (w : World) (h1 : GridS w A1 m) (h2 : GridS w A2 m) :
    Calls Tryd.prog 9 #[.slice A1 m.length c1, .slice A2 m.length c2] w (TrueBelowG w) := by
  have H1 := Lib.hid h1
  have H2 := Lib.hid h2
  clear h1 h2
  go_enter Tryd.func9, Tryd.ntmps9
  go_wp2
  go_loopw [5] (fun i wr => ∃ k : Nat, k ≤ m.length ∧ i = .int .i64 k ∧ Below w.heap.size w wr) (fun i _ => m.length - (intOf i).toNat)
  case atStart => exact ⟨0, Nat.zero_le _, rfl, Below.refl _ _⟩
  case round =>
    obtain ⟨k, hk, rfl, hbl⟩ := hrel
    by_cases hlt : k < m.length
    · obtain ⟨b1, o1, R1, d1, rfl, k1, hr1, hb1⟩ := (H1.out.below hbl).row hlt
      obtain ⟨b2, o2, R2, d2, rfl, k2, hr2, hb2⟩ := (H2.out.below hbl).row hlt
      have hx : (m.getD k []).length ≤ 1048576 := Nat.le_trans (row_le_tot hlt) ht
      generalize m.getD k [] = x at k1 k2 hr1 hr2 hx
      have HE : Hid (∀ w', Below wr.heap.size wr w' → Calls Tryd.prog 13 #[.slice R1 x.length d1, .slice R2 x.length d2] w' (TrueBelowG w')) := Lib.hid fun w' hb => same_ints R1 R2 d1 d2 x (by omega) w' (hr1.below hb) (hr2.below hb)
      have HB := Lib.hid hbl
      clear hbl hr1 hr2
      have g0 : (0 : Int) ≤ (k : Int) := by omega
      have g1 : (k : Int) < (m.length : Int) := by omega
      go_wp2
      go_region_held3 (fun w' => w'.cell? ⟨b1, o1 + k, none⟩ = some (.slice R1 x.length d1) ∧ w'.cell? ⟨b2, o2 + k, none⟩ = some (.slice R2 x.length d2)) (first | exact ⟨y0, y1⟩ | go_keep) (first | (go_at_call 13; refine (HE.out _ (by first | exact Below.refl _ _ | exact (Below.refl _ _).drew)).mono ?_; rintro e w2 ⟨rfl, hb3⟩; have y0 := (hb3.cell (p := ⟨b1, o1 + k, none⟩) hb1).trans k1; have y1 := (hb3.cell (p := ⟨b2, o2 + k, none⟩) hb2).trans k2))
      go_wp2
      go_roundw
      case rel => exact ⟨k + 1, by omega, by go_num, HB.out.drew.trans (hb3.mono HB.out.size)⟩
      case measure => simp [intOf]; omega
    · obtain rfl : k = m.length := by omega
      go_wp2
      go_ret
      exact ⟨rfl, hbl⟩

/-! ### Marks -/

/-- The numbers from q on. -/
def marksI (q : Nat) : Nat → List Int
  | 0 => []
  | n + 1 => (q : Int) :: marksI (q + 1) n
theorem marksI_length : ∀ (n q : Nat), (marksI q n).length = n
  | 0, _ => rfl
  | n + 1, q => by rw [marksI, List.length_cons, marksI_length n]
theorem marksI_get : ∀ (n q j : Nat), j < n → (marksI q n).getD j 0 = ((q + j : Nat) : Int)
  | 0, _, j, h => by omega
  | n + 1, q, 0, _ => by simp [marksI]
  | n + 1, q, j + 1, h => by
    rw [marksI, List.getD_cons_succ, marksI_get n (q + 1) j (by omega)]
    congr 1; omega
theorem marksI_next : ∀ (n q : Nat), marksI q (n + 1) = marksI q n ++ [((q + n : Nat) : Int)]
  | 0, q => rfl
  | n + 1, q => by
    rw [marksI, marksI_next n (q + 1), marksI, List.cons_append]
    congr 4; omega
/-- A row that is being marked from the front. -/
def markedI (xs : List Int) (q k : Nat) : List Value := ((marksI q k) ++ xs.drop k).map (Value.int .i64)
theorem markedI_set (xs : List Int) (q k : Nat) (h : k < xs.length) : (markedI xs q k).set k (.int .i64 ((q + k : Nat) : Int)) = markedI xs q (k + 1) := by
  have hl : ((marksI q k).map (Value.int .i64)).length = k := by rw [List.length_map, marksI_length]
  have hd : xs.drop k = xs[k] :: xs.drop (k + 1) := List.drop_eq_getElem_cons h
  unfold markedI
  rw [marksI_next, List.map_append, List.map_append, List.map_append, hd, List.map_cons]
  rw [List.set_append_right _ _ (by omega), hl, Nat.sub_self]
  simp
theorem markedI_at (xs : List Int) (q k : Nat) (h : k < xs.length) : ∃ y, (markedI xs q k)[k]? = some (.int .i64 y) := by
  have hl : (marksI q k).length = k := marksI_length k q
  refine ⟨xs[k], ?_⟩
  unfold markedI
  rw [List.getElem?_map, List.getElem?_append_right (by omega), hl, Nat.sub_self, List.getElem?_drop, Nat.add_zero, List.getElem?_eq_getElem h]
  rfl
theorem markedI_none (xs : List Int) (q : Nat) : markedI xs q 0 = xs.map (Value.int .i64) := by simp [markedI, marksI]
theorem markedI_all (xs : List Int) (q : Nat) : markedI xs q xs.length = (marksI q xs.length).map (Value.int .i64) := by simp [markedI]

/-- The row holds the marks from q on; of what was there no other block has turned. -/
def MarkIPost (B q : Nat) (r : Value) (n : Nat) (w : World) (e : Ending) (w' : World) : Prop :=
  e = .returned (.int .i64 ((q + n : Nat) : Int)) ∧ w'.ownsRow B 3 1 r n ((marksI q n).map (Value.int .i64)) ∧ w.grownBy w' r.ownBlock

/-- The tables of marks: each row goes on where the one before it ended. -/
def marksG : Nat → List (List Int) → List (List Int)
  | _, [] => []
  | q, r :: m => marksI q r.length :: marksG (q + r.length) m
theorem marksG_length : ∀ (m : List (List Int)) (q : Nat), (marksG q m).length = m.length
  | [], _ => rfl
  | r :: m, q => by rw [marksG, List.length_cons, marksG_length m, List.length_cons]
theorem tot_cons (r : List Int) (m : List (List Int)) : tot (r :: m) = r.length + tot m := by simp [tot]
theorem marksG_get : ∀ (m : List (List Int)) (q k : Nat), k < m.length → (marksG q m).getD k [] = marksI (q + tot (m.take k)) (m.getD k []).length
  | [], _, k, h => by simp at h
  | r :: m, q, 0, _ => by simp [marksG, tot]
  | r :: m, q, k + 1, h => by
    rw [marksG, List.getD_cons_succ, marksG_get m (q + r.length) k (by simpa using h), List.getD_cons_succ, List.take_succ_cons, tot_cons]
    congr 1; omega
theorem tot_marksG : ∀ (m : List (List Int)) (q : Nat), tot (marksG q m) = tot m
  | [], _ => rfl
  | r :: m, q => by rw [marksG, tot_cons, tot_cons, marksI_length, tot_marksG m]
/-- A table that is being marked from the front. -/
def markedG (m : List (List Int)) (q k : Nat) : List (List Int) := (marksG q m).take k ++ m.drop k
theorem markedG_length (m : List (List Int)) (q k : Nat) (hk : k ≤ m.length) : (markedG m q k).length = m.length := by
  unfold markedG; simp [marksG_length]; omega
theorem markedG_none (m : List (List Int)) (q : Nat) : markedG m q 0 = m := by simp [markedG]
theorem markedG_all (m : List (List Int)) (q : Nat) : markedG m q m.length = marksG q m := by
  unfold markedG
  rw [List.drop_length, List.append_nil, List.take_of_length_le (by rw [marksG_length]; exact Nat.le_refl _)]
theorem markedG_get (m : List (List Int)) (q k : Nat) (hk : k < m.length) : (markedG m q k).getD k [] = m.getD k [] := by
  unfold markedG
  have hl : ((marksG q m).take k).length = k := by rw [List.length_take, marksG_length]; omega
  simp only [List.getD]
  rw [List.getElem?_append_right (by omega), hl, Nat.sub_self, List.getElem?_drop, Nat.add_zero]
theorem markedG_set (m : List (List Int)) (q k : Nat) (hk : k < m.length) : (markedG m q k).set k (marksI (q + tot (m.take k)) (m.getD k []).length) = markedG m q (k + 1) := by
  unfold markedG
  have hl : ((marksG q m).take k).length = k := by rw [List.length_take, marksG_length]; omega
  have hm : k < (marksG q m).length := by rw [marksG_length]; exact hk
  have hd : m.drop k = m[k] :: m.drop (k + 1) := List.drop_eq_getElem_cons hk
  have hg := marksG_get m q k hk
  rw [List.set_append_right _ _ (by omega), hl, Nat.sub_self, hd, List.set_cons_zero, List.take_succ_eq_append_getElem hm, List.append_assoc, List.singleton_append]
  congr 2
  rw [← hg]
  simp [List.getD, hm]

/-- The table holds the marks; of what was there only blocks from B on and below S have turned. -/
def MarkGPost (B S q : Nat) (v : Value) (m : List (List Int)) (w : World) (e : Ending) (w' : World) : Prop :=
  e = .returned (.int .i64 ((q + tot m : Nat) : Int)) ∧ OwnIn w' B S v (marksG q m) ∧ Within B S w w'

end Go.Proofs.YtfbdmheaalmboaaDoor
