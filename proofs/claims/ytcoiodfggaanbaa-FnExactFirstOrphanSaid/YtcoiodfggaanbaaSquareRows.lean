/-
  The program's rows of a square: the table of its first n rows and columns, in new memory, each row in a block of its own; nothing that was there before is changed.
-/
import Derived.Test.YtcoiodfggaanbaaSquareOf
import Derived.Test.YtcoiodfggaanbaaMatTimes
import Derived.Lib.SliceRun
namespace Go.Proofs.Ytcoiodfggaanbaa
open Go Go.RowKit

theorem slice_nil_eq (w : World) (a : Option Addr) (n c n' c' : Nat) : (binOp .eql 68 (.slice a n c) (.slice none n' c')).run Try.prog w = .ok (.bool a.isNone) w := Lib.run_eql_slice_nil w _ _ a n c n' c' Try.underlying68

set_option maxRecDepth 100000 in
set_option maxHeartbeats 1600000 in
theorem clone_row (b off c : Nat) (xs : List Int) (hn : xs.length ≤ 1048576) (w : World) (hx : IntsAt w b off xs) :
    Calls Try.prog 137 #[.slice (some ⟨b, off, none⟩) xs.length c] w fun e w' => ∃ v, e = .returned v ∧ w'.ownsRow w.heap.size 3 1 v xs.length (xs.map (Value.int .i64)) ∧ Below w.heap.size w w' := by
  obtain ⟨i0, hi, hz0, hz1, hz2⟩ := info_parts infoInt
  have hq := fun w a n c n' c' => slice_nil_eq w a n c n' c'
  have HX := Lib.hid hx
  clear hx
  go_enter Try.func137, Try.ntmps137
  go_wp2_with (at_builtin; refine wpList_append_own _ rfl (.tmp 5) (.tmp 6) 68 rfl w.heap.size 3 i0 (.int .i64 0) 1 8 Try.underlying68 hi hz0 hz1 hz2 rfl (by decide) _ _ _ rfl (World.ownsRow_made w #[] 0 (Nat.le_refl _) (Nat.zero_le _) (by simp)) ⟨b, off, none⟩ xs.length c (xs.map (Value.int .i64)) rfl ?qc1 ?qc2 ?qc3 ?qc4 ?qc5 ?qc6 ?_)
  case qc1 => simp
  case qc2 =>
    intro j u hj
    rw [Addr.add_lit]
    rw [List.getElem?_map] at hj
    have hjl : j < xs.length := by
      by_cases h : j < xs.length
      · exact h
      · rw [List.getElem?_eq_none (by omega)] at hj; cases hj
    rw [List.getElem?_eq_getElem hjl] at hj
    obtain rfl := Option.some.inj hj
    have h := HX.out j hjl
    rw [List.getD_eq_getElem?_getD, List.getElem?_eq_getElem hjl] at h
    exact Lib.cell?_alloc_some _ h
  case qc3 =>
    intro u hu
    obtain ⟨x, _, rfl⟩ := List.mem_map.1 hu
    rfl
  case qc4 => unfold maxLen; omega
  case qc5 => omega
  case qc6 => simp
  intro v' w1 hown hgrow hnil
  go_wp2
  go_ret
  exact ⟨v', rfl, by simpa using hown, ((Below.refl _ w).alloc (Nat.le_refl _) _).grown hgrow (by simp) (by intro k hk; simp [Value.ownBlock] at hk; omega)⟩

theorem row_cut (b off n : Nat) (hn : n ≤ 9) (w : World) : (Instr.sliceAt 133 (.pointer (some ⟨b, off, none⟩)) none (some (.int .i64 (n : Int))) none).run Try.prog w = .ok (.slice (some ⟨b, off, none⟩) n 9) w := by
  have hu := Try.underlying133
  have hal : Try.prog.arrayLen 133 = 9 := by simp [Program.arrayLen, hu]
  rw [run_sliceAt_array_h w 133 ⟨b, off, none⟩ (by simp [Program.arrayLen, Program.elem, hu]) .i64 (n : Int) (by omega) (by rw [hal]; omega), hal, Int.toNat_natCast]
  have he : Try.prog.elem 133 = 3 := by simp [Program.elem, hu]
  rw [he, Try.sizeOf3]
  simp [slicedAt, Result.andThen]
  unfold Addr.add
  rfl
/-- The first n numbers of row i. -/
def rowF (f : Nat → Nat → Int) (n i : Nat) : List Int := (List.range n).map (f i)
theorem rowF_length (f : Nat → Nat → Int) (n i : Nat) : (rowF f n i).length = n := by simp [rowF]
theorem SqAt.ints {w : World} {g : Nat} {f : Nat → Nat → Int} (h : SqAt w g f) {i n : Nat} (hi : i < 9) (hn : n ≤ 9) : IntsAt w g (i * 9) (rowF f n i) := by
  intro k hk
  rw [rowF_length] at hk
  rw [h.cell hi (by omega)]
  simp [rowF, List.getD, hk]
theorem tabOf_take_next (n : Nat) (f : Nat → Nat → Int) (k : Nat) : tabOf (k + 1) n f = tabOf k n f ++ [rowF f n k] := tabOf_next k n f

set_option maxRecDepth 100000 in
set_option maxHeartbeats 1600000 in
theorem impl_rows (f : Nat → Nat → Int) (n : Nat) (hn : n ≤ 9) (w : World) :
    Calls Try.prog 117 #[.agg (sqA f), .int .i64 (n : Int)] w (NewG (tabOf n n f) w) := by
  obtain ⟨i0, hi, hz0, hz1, hz2⟩ := info_parts infoSl
  have hs0 := SqAt.new w f
  have hcut := fun b off w => row_cut b off n hn w
  have hsz0 : (w.alloc (.cells (sqA f) 135)).heap.size = w.heap.size + 1 := World.size_alloc _ _
  have hb0 : Below w.heap.size w (w.alloc (.cells (sqA f) 135)) := below_new
  have HS0 := Lib.hid hs0
  have HZ0 := Lib.hid hsz0
  have HB0 := Lib.hid hb0
  clear hs0 hsz0 hb0
  go_enter Try.func117, Try.ntmps117
  go_wp2_with (at_make; refine wpList_make_full _ rfl _ _ 78 rfl (w.heap.size + 1) 68 i0 (.slice none 0 0) 1 Try.underlying78 hi hz0 hz1 .i64 .i64 _ _ n rfl rfl rfl rfl (by rw [hz2]; omega) (by unfold maxLen; omega) (by rw [HZ0.out]; exact Nat.le_refl _) ?_; intro w1 hown hgrow)
  rw [HZ0.out] at hown
  have hown0 : w1.ownsRow (w.heap.size + 1) 68 1 (.slice (some ⟨w.heap.size + 1, 0, none⟩) n n) n ([] ++ List.replicate (n - 0) (.slice none 0 0)) := by
    have e : (madeCells (Value.slice none 0 0).cells (n * 1)).toList = List.replicate n (.slice none 0 0) := by rw [Nat.mul_one]; exact toList_madeCells_one _ _
    rw [List.nil_append, Nat.sub_zero, ← e]; exact hown
  have hb1 := grown_below hgrow
  have hs1 := HS0.out.below hb1
  have hbel : Below w.heap.size w w1 := HB0.out.trans (hb1.mono (by rw [HZ0.out]; omega))
  clear hown hgrow hb1 HS0
  go_loopw [11] (fun i wr => ∃ (k : Nat) (vs : List Value), k ≤ n ∧ i = .int .i64 k ∧ vs.length = k ∧ wr.ownsRow (w.heap.size + 1) 68 1 (.slice (some ⟨w.heap.size + 1, 0, none⟩) n n) n (vs ++ List.replicate (n - k) (.slice none 0 0)) ∧ RowsOwn wr (w.heap.size + 1) (some (w.heap.size + 1)) vs (tabOf k n f) ∧ SqAt wr w.heap.size f ∧ Below w.heap.size w wr) (fun i _ => n - (intOf i).toNat)
  case atStart => exact ⟨0, [], Nat.zero_le _, rfl, rfl, hown0, RowsOwn.nil _ _ _, hs1, hbel⟩
  case round =>
    obtain ⟨k, vs, hk, rfl, hvs, ho, hr, hsq, hbl⟩ := hrel
    by_cases hlt : k < n
    · have HT := Lib.hid (tabOf_take_next n f k)
      have hxl := rowF_length f n k
      have hcl := clone_row w.heap.size (k * 9) 9 (rowF f n k) (by omega) wr (hsq.ints (by omega) hn)
      rw [hxl] at hcl
      have HCP := Lib.hid hcl
      have hgs := (ho.lt (w.heap.size + 1) rfl).2
      have hsl := hsq.lt
      have HO := Lib.hid ho
      have HR := Lib.hid hr
      have HB := Lib.hid hbl
      have HSQ := Lib.hid hsq
      have HXL := Lib.hid hxl
      clear ho hr hbl hcl hsq hxl
      generalize rowF f n k = x at *
      go_wp2_with fail
      refine HCP.out.mono ?_
      rintro e w2 ⟨v, rfl, hr2, b2⟩
      obtain ⟨A2, c2, rfl⟩ := slice_of_owns hr2
      have hgl := hr2.lt
      have hold : (vs ++ List.replicate (n - k) (Value.slice none 0 0))[k]? = some (.slice none 0 0) := by
        rw [List.getElem?_append_right (by omega), hvs, Nat.sub_self, List.getElem?_replicate, if_pos (by omega)]
      have ho2 := HO.out.kept (row := none) (w' := w2) ⟨b2.os, b2.tape, b2.output, b2.size, fun j hj _ => b2.block j hj⟩ (Or.inr (by intro h; cases h))
      have hc2 := (ho2.cellAt k (by omega)).trans hold
      have hf2 := ho2.frozenAt k
      have hst := ho2.stored k (.slice A2 n c2)
      have hset : (vs ++ List.replicate (n - k) (Value.slice none 0 0)).set k (.slice A2 n c2) = (vs ++ [.slice A2 n c2]) ++ List.replicate (n - (k + 1)) (.slice none 0 0) := by
        rw [List.set_append_right _ _ (by omega), hvs, Nat.sub_self, show n - k = (n - (k + 1)) + 1 by omega, List.replicate_succ]
        simp
      rw [hset] at hst
      have HS := Lib.hid hst.1
      have HP : Hid (RowsOwn (w2.setCell ⟨w.heap.size + 1, k, none⟩ (.slice A2 n c2)) (w.heap.size + 1) (some (w.heap.size + 1)) (vs ++ [.slice A2 n c2]) (tabOf k n f ++ [x])) := Lib.hid (by
        refine ((HR.out.below b2).push (by rw [HXL.out]; exact World.ownsRow.mono hr2 (by omega)) ?_ (fun j s hj => ?_)).keptOuter hst.2
        · cases e : (Value.slice A2 n c2).ownBlock with
          | none => exact Or.inl rfl
          | some g =>
            refine Or.inr fun h => ?_
            have := Option.some.inj h
            have := hgl g e
            omega
        · cases e : s.ownBlock with
          | none => exact Or.inl rfl
          | some g =>
            refine Or.inr fun h => ?_
            have := (HR.out.lt hj g e).2
            have := hgl g h.symm
            omega)
      have HSQ2 : Hid (SqAt (w2.setCell ⟨w.heap.size + 1, k, none⟩ (.slice A2 n c2)) w.heap.size f) := Lib.hid ((HSQ.out.below b2).set_other (show w.heap.size ≠ w.heap.size + 1 by omega))
      clear hst hr2 ho2 hgl
      go_wp2
      go_roundw
      case rel => exact ⟨k + 1, _, by omega, by go_num, by simp [hvs], HS.out, by rw [HT.out]; exact HP.out, HSQ2.out, (HB.out.trans (b2.mono HB.out.size)).setCell (by simp) _⟩
      case measure => simp [intOf]; omega
    · obtain rfl : k = n := by omega
      rw [Nat.sub_self, List.replicate_zero, List.append_nil] at ho
      have HO := Lib.hid ho
      have HR := Lib.hid hr
      clear ho hr
      go_wp2
      go_ret
      exact ⟨_, rfl, OwnG.mono ⟨vs, by rw [tabOf_length]; exact HO.out, HR.out⟩ (by omega), hbl⟩
end Go.Proofs.Ytcoiodfggaanbaa
