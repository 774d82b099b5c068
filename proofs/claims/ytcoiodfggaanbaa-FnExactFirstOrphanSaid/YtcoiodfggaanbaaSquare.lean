/-
  PLAIN FACTS ON SQUARES OF NUMBERS, nine by nine, in one block of memory (no program's function in this text): a number is read, put in another's place; a row is copied in; two of them are compared.
-/
import Derived.Test.YtcoiodfggaanbaaMatSpec
import Derived.Deep.WholeRow
import Derived.Laws.CopyRow
import Derived.ChangeKeysEq
namespace Go.Proofs.Ytcoiodfggaanbaa
open Go Go.RowKit

/-- The cells of the square of the numbers f i j. -/
def sqL (f : Nat → Nat → Int) : List Value := (List.range 81).map fun k => Value.int .i64 (f (k / 9) (k % 9))
def sqA (f : Nat → Nat → Int) : Array Value := (sqL f).toArray
theorem sqL_length (f : Nat → Nat → Int) : (sqL f).length = 81 := by simp [sqL]
theorem sqA_size (f : Nat → Nat → Int) : (sqA f).size = 81 := by simp [sqA, sqL]
theorem sqA_congr {f g : Nat → Nat → Int} (h : ∀ i j, i < 9 → j < 9 → f i j = g i j) : sqA f = sqA g := by
  unfold sqA sqL
  congr 1
  refine List.map_congr_left fun k hk => ?_
  have hk' := List.mem_range.1 hk
  rw [h (k / 9) (k % 9) (by omega) (by omega)]
theorem sqL_at (f : Nat → Nat → Int) {i j : Nat} (hi : i < 9) (hj : j < 9) : (sqL f)[i * 9 + j]? = some (.int .i64 (f i j)) := by
  unfold sqL
  rw [List.getElem?_map, List.getElem?_range (by omega)]
  simp only [Option.map_some]
  rw [show (i * 9 + j) / 9 = i by omega, show (i * 9 + j) % 9 = j by omega]
theorem sqA_at (f : Nat → Nat → Int) {i j : Nat} (hi : i < 9) (hj : j < 9) : (sqA f)[i * 9 + j]? = some (.int .i64 (f i j)) := by
  unfold sqA
  rw [List.getElem?_toArray]
  exact sqL_at f hi hj
/-- Another number at i and j. -/
def putF (f : Nat → Nat → Int) (i j : Nat) (x : Int) : Nat → Nat → Int := fun a b => if a = i ∧ b = j then x else f a b
theorem sqA_set (f : Nat → Nat → Int) {i j : Nat} (_hi : i < 9) (hj : j < 9) (x : Int) : (sqA f).setIfInBounds (i * 9 + j) (.int .i64 x) = sqA (putF f i j x) := by
  unfold sqA
  rw [List.setIfInBounds_toArray]
  congr 1
  refine List.ext_getElem (by simp [sqL]) fun k h1 h2 => ?_
  rw [sqL_length] at h2
  rw [List.getElem_set]
  simp only [sqL, List.getElem_map, List.getElem_range, putF]
  by_cases e : i * 9 + j = k
  · subst e
    rw [if_pos rfl, if_pos ⟨by omega, by omega⟩]
  · rw [if_neg e, if_neg (by omega)]
theorem sqA_one (f : Nat → Nat → Int) : (sqA f).all (·.oneCell') = true := by
  rw [Array.all_eq_true_iff_forall_mem]
  intro v hv
  unfold sqA sqL at hv
  rw [List.mem_toArray, List.mem_map] at hv
  obtain ⟨k, _, rfl⟩ := hv
  rfl
/-- Block g holds the square of f. -/
def SqAt (w : World) (g : Nat) (f : Nat → Nat → Int) : Prop := w.heap[g]? = some (.cells (sqA f) 135 (0, 0))
theorem SqAt.lt {w : World} {g : Nat} {f : Nat → Nat → Int} (h : SqAt w g f) : g < w.heap.size := (Array.getElem?_eq_some_iff.1 h).1
theorem SqAt.cell {w : World} {g : Nat} {f : Nat → Nat → Int} (h : SqAt w g f) {i j : Nat} (hi : i < 9) (hj : j < 9) : w.cell? ⟨g, i * 9 + j, none⟩ = some (.int .i64 (f i j)) := by
  rw [cell_of_row w g _ _ _ _ h, sqA_at f hi hj]
theorem SqAt.frozen {w : World} {g : Nat} {f : Nat → Nat → Int} (h : SqAt w g f) (k : Nat) : w.frozen? ⟨g, k, none⟩ = false := frozen_of_row w g k _ _ h
theorem SqAt.put {w : World} {g : Nat} {f : Nat → Nat → Int} (h : SqAt w g f) {i j : Nat} (hi : i < 9) (hj : j < 9) (x : Int) : SqAt (w.setCell ⟨g, i * 9 + j, none⟩ (.int .i64 x)) g (putF f i j x) := by
  unfold SqAt
  rw [heap_setCell_same w g (i * 9 + j) _ _ _ h, sqA_set f hi hj]
theorem SqAt.set_other {w : World} {g : Nat} {f : Nat → Nat → Int} (h : SqAt w g f) {a : Addr} {v : Value} (hne : g ≠ a.block) : SqAt (w.setCell a v) g f := by
  unfold SqAt
  rw [heap_setCell_other w a g v hne]
  exact h
theorem SqAt.row_other {w : World} {g q : Nat} {f : Nat → Nat → Int} {cs : Array Value} (h : SqAt w g f) (hne : g ≠ q) : SqAt (w.setRow q cs) g f := by
  unfold SqAt
  rw [setRow_other w q g cs hne]
  exact h
theorem SqAt.alloc {w : World} {g : Nat} {f : Nat → Nat → Int} (h : SqAt w g f) (o : Obj) : SqAt (w.alloc o) g f := by
  unfold SqAt
  rw [heap_alloc_old w o h.lt]
  exact h
theorem SqAt.new (w : World) (f : Nat → Nat → Int) : SqAt (w.alloc (.cells (sqA f) 135)) w.heap.size f := heap_alloc_new w _
theorem SqAt.below {w w' : World} {g : Nat} {f : Nat → Nat → Int} (h : SqAt w g f) (hb : Below w.heap.size w w') : SqAt w' g f := by
  unfold SqAt
  rw [hb.block g h.lt]
  exact h
theorem SqAt.congr {w : World} {g : Nat} {f f' : Nat → Nat → Int} (h : SqAt w g f) (e : ∀ i j, i < 9 → j < 9 → f i j = f' i j) : SqAt w g f' := by
  unfold SqAt
  rw [← sqA_congr e]
  exact h
theorem below_row {B : Nat} {w w' : World} (h : Below B w w') {g : Nat} (hg : B ≤ g) (cs : Array Value) : Below B w (w'.setRow g cs) :=
  ⟨h.os, h.tape, h.output, by rw [setRow_size]; exact h.size, fun k hk => (setRow_other w' g k cs (by omega)).trans (h.block k hk)⟩
theorem SqAt.load {w : World} {g : Nat} {f : Nat → Nat → Int} (h : SqAt w g f) : (loadCellsFrom ⟨g, 0, none⟩ 0 81 #[]).run Try.prog w = .ok (sqA f) w := by
  have := run_loadCells_list (P := Try.prog) w ⟨g, 0, none⟩ (sqA f).toList (fun j v hv => by
    have hadd : (⟨g, 0, none⟩ : Addr).add j = ⟨g, j, none⟩ := by unfold Addr.add; split <;> simp_all
    rw [hadd, cell_of_row _ _ j _ _ _ h]
    simpa using hv)
  have hs := sqA_size f
  simpa [loadCells, hs] using this
theorem SqAt.store {w : World} {g : Nat} {f f' : Nat → Nat → Int} (h : SqAt w g f) : (storeCells ⟨g, 0, none⟩ (sqA f').toList 0).run Try.prog w = .ok () (w.setRow g (sqA f')) :=
  run_storeCells_from (P := Try.prog) g _ (sqA f').toList 0 _ w h (by rw [Array.length_toList, sqA_size, sqA_size]) (fun v hv => (Array.all_eq_true_iff_forall_mem.1 (sqA_one f')) v (by simpa using hv))
theorem SqAt.stored {w : World} {g : Nat} {f f' : Nat → Nat → Int} (h : SqAt w g f) : SqAt (w.setRow g (sqA f')) g f' := setRow_heap w g _ _ _ _ h

/-- A row is copied in. -/
theorem spliced (a n : Nat) (hn : a + n ≤ 81) (F G : Nat → Value) : ((List.range 81).map F).take a ++ (List.range n).map G ++ ((List.range 81).map F).drop (a + n) = (List.range 81).map fun t => if a ≤ t ∧ t < a + n then G (t - a) else F t := by
  refine List.ext_getElem (by simp; omega) fun t h1 h2 => ?_
  have ht : t < 81 := by simpa using h2
  rw [List.getElem_map, List.getElem_range]
  by_cases c1 : t < a
  · rw [List.getElem_append_left (by simp; omega), List.getElem_append_left (by simp; omega), if_neg (by omega)]
    simp
  · by_cases c2 : t < a + n
    · rw [List.getElem_append_left (by simp; omega), List.getElem_append_right (by simp; omega), if_pos ⟨by omega, c2⟩]
      simp
      congr 1
      omega
    · rw [List.getElem_append_right (by simp; omega), if_neg (by omega)]
      simp
      congr 1
      omega
theorem ints_range (r : List Int) : r.map (Value.int .i64) = (List.range r.length).map fun j => Value.int .i64 (r.getD j 0) := by
  refine List.ext_getElem (by simp) fun j h1 h2 => ?_
  have hj : j < r.length := by simpa using h1
  simp [List.getD, hj]
def rowsK (m : List (List Int)) (k : Nat) : Nat → Nat → Int := fun a b => if a < k then cellOf m a b else 0
theorem rowsK_next (m : List (List Int)) (k : Nat) (hk : k < 9) (hl : (m.getD k []).length ≤ 9) :
    ((sqA (rowsK m k)).toList.take (k * 9) ++ (m.getD k []).map (Value.int .i64) ++ (sqA (rowsK m k)).toList.drop (k * 9 + ((m.getD k []).map (Value.int .i64)).length)).toArray = sqA (rowsK m (k + 1)) := by
  unfold sqA sqL
  congr 1
  rw [ints_range (m.getD k []), List.length_map, List.length_range]
  refine Eq.trans (spliced (k * 9) (m.getD k []).length (by omega) (fun t => .int .i64 (rowsK m k (t / 9) (t % 9))) fun j => .int .i64 ((m.getD k []).getD j 0)) ?_
  refine List.map_congr_left fun t ht => ?_
  have ht' := List.mem_range.1 ht
  by_cases c : k * 9 ≤ t ∧ t < k * 9 + (m.getD k []).length
  · rw [if_pos c]
    have h1 : t / 9 = k := by omega
    have h2 : t % 9 = t - k * 9 := by omega
    unfold rowsK
    rw [h1, h2, if_pos (by omega)]
    rfl
  · rw [if_neg c]
    unfold rowsK
    by_cases c1 : t / 9 < k
    · rw [if_pos c1, if_pos (by omega)]
    · rw [if_neg c1]
      by_cases c2 : t / 9 < k + 1
      · rw [if_pos c2]
        have h1 : t / 9 = k := by omega
        unfold cellOf
        rw [h1, List.getD_eq_getElem?_getD, List.getElem?_eq_none (by omega)]
        rfl
      · rw [if_neg c2]
theorem rowsK_all {m : List (List Int)} (i j : Nat) : rowsK m m.length i j = cellOf m i j := by
  unfold rowsK
  by_cases h : i < m.length
  · rw [if_pos h]
  · rw [if_neg h]
    unfold cellOf
    have e : m.getD i [] = [] := by
      rw [List.getD_eq_getElem?_getD, List.getElem?_eq_none (by omega)]
      rfl
    rw [e]
    rfl

theorem sq_info : (Try.prog.info? 135).map (·.size) = some 81 := by kernel_rfl
theorem sq_load {o : Oper} {a : Act} {w : World} {K : Act → World → Prop} {Q : Exit → Act → World → Prop} {g : Nat} {f : Nat → Nat → Int} (hs : SqAt w g f) (x : Operand) (ho : o.op = .load 135 x) (hx : a.eval x = .pointer (some ⟨g, 0, none⟩))
    (h : K (a.put o.dst (.agg (sqA f))) w) : o.wp Try.prog a w K Q :=
  wp_load_row _ x ho g hx _ _ _ _ hs Try.underlying135 rfl (by rw [sqA_size]; exact sq_info) h
theorem sq_store {o : Oper} {a : Act} {w : World} {K : Act → World → Prop} {Q : Exit → Act → World → Prop} {g : Nat} {f f' : Nat → Nat → Int} (hs : SqAt w g f) (x y : Operand) (ho : o.op = .store 135 x y) (hx : a.eval x = .pointer (some ⟨g, 0, none⟩)) (hy : a.eval y = .agg (sqA f'))
    (h : K (a.put o.dst undef) (w.setRow g (sqA f'))) : o.wp Try.prog a w K Q :=
  wp_store_row _ x y ho g (sqA f') hx hy _ _ hs (by rw [sqA_size]; exact sq_info) (by rw [sqA_size, sqA_size]) (sqA_one f') h
theorem sq_results {fn : Func} {p : Tmp} (h : fn.results = #[.cell p 135]) (tmps : Array Value) (w : World) (g : Nat) (f : Nat → Nat → Int) (hp : tmps.getD p undef = .pointer (some ⟨g, 0, none⟩)) (hs : SqAt w g f) :
    (results fn tmps).run Try.prog w = .ok (.agg (sqA f)) w :=
  results_cell_row h tmps w g _ _ _ _ hp hs Try.underlying135 rfl (by rw [sqA_size]; exact sq_info)
theorem sq_zero : ∃ Z : Array Value, (∀ w, (zeroValue 135).run Try.prog w = .ok (.agg Z) w) ∧ Hid (Z = sqA fun _ _ => 0) := by
  refine ⟨sqA fun _ _ => 0, (zero_of_info (n := 81) ?_).1, Lib.hid rfl⟩
  kernel_rfl

/-! ### The rows of a square, by value; two squares -/

def rowA (f : Nat → Nat → Int) (i : Nat) : Array Value := ((List.range 9).map fun j => Value.int .i64 (f i j)).toArray
theorem rowA_size (f : Nat → Nat → Int) (i : Nat) : (rowA f i).size = 9 := by simp [rowA]
theorem rowA_at (f : Nat → Nat → Int) (i : Nat) {j : Nat} (hj : j < 9) : (rowA f i)[j]? = some (.int .i64 (f i j)) := by
  unfold rowA
  rw [List.getElem?_toArray, List.getElem?_map, List.getElem?_range hj]
  rfl
theorem rowA_one (f : Nat → Nat → Int) (i : Nat) : (rowA f i).all (·.oneCell') = true := by
  rw [Array.all_eq_true_iff_forall_mem]
  intro v hv
  unfold rowA at hv
  rw [List.mem_toArray, List.mem_map] at hv
  obtain ⟨k, _, rfl⟩ := hv
  rfl
theorem sqA_extract (f : Nat → Nat → Int) {i : Nat} (hi : i < 9) : (sqA f).extract (i * 9) (i * 9 + 9) = rowA f i := by
  refine Array.ext (by rw [Array.size_extract, sqA_size, rowA_size]; omega) fun j h1 h2 => ?_
  rw [rowA_size] at h2
  have e1 := sqA_at f hi h2
  have e2 := rowA_at f i h2
  rw [Array.getElem_extract]
  rw [Array.getElem?_eq_getElem (by rw [sqA_size]; omega)] at e1
  rw [Array.getElem?_eq_getElem (by rw [rowA_size]; omega)] at e2
  exact (Option.some.inj e1).trans (Option.some.inj e2).symm
theorem part_row (f : Nat → Nat → Int) {i : Nat} (hi : i < 9) (w : World) : (part 133 (sqA f) (i * 9)).run Try.prog w = .ok (.agg (rowA f i)) w := by
  simp [part, Try.isAgg133, Try.sizeOf133, Result.andThen, sqA_extract f hi]
theorem part_num (f : Nat → Nat → Int) (i : Nat) {j : Nat} (hj : j < 9) (w : World) : (part 3 (rowA f i) (j * 1)).run Try.prog w = .ok (.int .i64 (f i j)) w := by
  simp [part, Try.isAgg3, Result.andThen, rowA_at f i hj]
theorem index_row (f : Nat → Nat → Int) {i : Nat} (hi : i < 9) (w : World) : (Instr.index 135 (.agg (sqA f)) (.int .i64 (i : Int))).run Try.prog w = .ok (.agg (rowA f i)) w := by
  have h1 : (0 : Int) ≤ (i : Int) ∧ (i : Int) < ((9 : Nat) : Int) := by omega
  simp [Instr.index, asIntOf, run_underlying Try.underlying135, Result.andThen, Try.sizeOf133, h1, part_row f hi, hi]
theorem index_num (f : Nat → Nat → Int) (i : Nat) {j : Nat} (hj : j < 9) (w : World) : (Instr.index 133 (.agg (rowA f i)) (.int .i64 (j : Int))).run Try.prog w = .ok (.int .i64 (f i j)) w := by
  have h1 : (0 : Int) ≤ (j : Int) ∧ (j : Int) < ((9 : Nat) : Int) := by omega
  have h2 := part_num f i hj w
  rw [Nat.mul_one] at h2
  simp [Instr.index, asIntOf, run_underlying Try.underlying133, Result.andThen, Try.sizeOf3, h1, h2, hj]
/-- Two rows | squares have the same numbers. -/
def rowEq (f g : Nat → Nat → Int) (i : Nat) (is : List Nat) : Bool := is.all fun j => f i j == g i j
def sqEq (f g : Nat → Nat → Int) (is : List Nat) : Bool := is.all fun i => rowEq f g i (List.range 9)
theorem run_eq_row (d : Nat) (f g : Nat → Nat → Int) (i : Nat) (w : World) : ∀ (is : List Nat), (∀ j ∈ is, j < 9) → (Op.eqItems (d + 1) 3 1 (rowA f i) (rowA g i) is).run Try.prog w = .ok (rowEq f g i is) w
  | [], _ => by simp [Op.eqItems, rowEq]
  | j :: is, h => by
    have hj := h j (by simp)
    have ih := run_eq_row d f g i w is fun k hk => h k (by simp [hk])
    have he : (Op.equalIn (d + 1) 3 (.int .i64 (f i j)) (.int .i64 (g i j))).run Try.prog w = .ok (f i j == g i j) w := run_equalIn_int w d _ _ _ _ _ Try.underlying3
    simp only [Op.eqItems, Sem.run_bind, part_num f i hj, part_num g i hj, Result.andThen_ok, he]
    unfold rowEq at ih ⊢
    rw [List.all_cons]
    cases f i j == g i j with
    | false => simp
    | true => simp [ih]
theorem cells_int : Try.prog.cellsOf 3 = 1 := by kernel_rfl
theorem cells_row : Try.prog.cellsOf 133 = 9 := by kernel_rfl
theorem run_eq_rows (d : Nat) (f g : Nat → Nat → Int) (w : World) : ∀ (is : List Nat), (∀ i ∈ is, i < 9) → (Op.eqItems (d + 2) 133 9 (sqA f) (sqA g) is).run Try.prog w = .ok (sqEq f g is) w
  | [], _ => by simp [Op.eqItems, sqEq]
  | i :: is, h => by
    have hi := h i (by simp)
    have ih := run_eq_rows d f g w is fun k hk => h k (by simp [hk])
    obtain ⟨i0, hi0, _⟩ := info_parts infoInt
    have he : (Op.equalIn (d + 2) 133 (.agg (rowA f i)) (.agg (rowA g i))).run Try.prog w = .ok (rowEq f g i (List.range 9)) w := by
      rw [run_equalIn_array w (d + 1) (rowA f i) (rowA g i) Try.underlying133 hi0, cells_int]
      exact run_eq_row d f g i w _ fun j hj => List.mem_range.1 hj
    simp only [Op.eqItems, Sem.run_bind, part_row f hi, part_row g hi, Result.andThen_ok, he]
    unfold sqEq at ih ⊢
    rw [List.all_cons]
    cases rowEq f g i (List.range 9) with
    | false => simp
    | true => simp [ih]
theorem run_eq_sq (f g : Nat → Nat → Int) (w : World) : (Op.equalIn 10000 135 (.agg (sqA f)) (.agg (sqA g))).run Try.prog w = .ok (sqEq f g (List.range 9)) w := by
  obtain ⟨i0, hi0, _⟩ : ∃ i, Try.prog.info? 133 = some i ∧ True := by
    have h : (Try.prog.info? 133).isSome = true := by kernel_rfl
    obtain ⟨i, hi⟩ := Option.isSome_iff_exists.1 h
    exact ⟨i, hi, trivial⟩
  rw [show (10000 : Nat) = 9999 + 1 from rfl, run_equalIn_array w 9999 (sqA f) (sqA g) Try.underlying135 hi0, cells_row]
  exact run_eq_rows 9997 f g w _ fun j hj => List.mem_range.1 hj
end Go.Proofs.Ytcoiodfggaanbaa
