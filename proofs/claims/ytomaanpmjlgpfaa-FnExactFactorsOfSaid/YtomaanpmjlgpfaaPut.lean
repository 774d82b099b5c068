/-
  The model's l2Put: a string is put into an ascending list once, at every list in memory of the call's own; nothing below that memory is changed.
-/
import Derived.Test.YtomaanpmjlgpfaaAllW
import Derived.Test.YtomaanpmjlgpfaaPutNum
import Derived.Deep.AppendLies
import Derived.Test.YtomaanpmjlgpfaaAppendZero
namespace Go.Proofs.Ytomaanpmjlgpfaa
open Go Go.RowKit

def PutPost (B : Nat) (x : ByteArray) (ps : List ByteArray) (w : World) (e : Ending) (w' : World) : Prop :=
  ∃ g cap, e = .returned (.slice (some ⟨g, 0, none⟩) (putW x ps).length cap) ∧ w'.ownsRow B 9 1 (.slice (some ⟨g, 0, none⟩) (putW x ps).length cap) (putW x ps).length ((putW x ps).map Value.string) ∧ Below B w w'
/-- Nothing that was there has turned but block g. -/
def Kept1 (g : Nat) (w w' : World) : Prop := w.heap.size ≤ w'.heap.size ∧ ∀ k, k < w.heap.size → k ≠ g → w'.heap[k]? = w.heap[k]?
theorem Kept1.refl (g : Nat) (w : World) : Kept1 g w w := ⟨Nat.le_refl _, fun _ _ _ => rfl⟩
theorem Kept1.alloc {g : Nat} {w w1 : World} (h : Kept1 g w w1) (o : Obj) : Kept1 g w (w1.alloc o) :=
  ⟨by rw [World.size_alloc]; exact Nat.le_succ_of_le h.1, fun k hk hg => (heap_alloc_old w1 o (Nat.lt_of_lt_of_le hk h.1)).trans (h.2 k hk hg)⟩
theorem Kept1.grown {g : Nat} {w w1 w2 : World} (h : Kept1 g w w1) {r : Option Nat} (hg : w1.grownBy w2 r) (hr : ∀ q, r = some q → q = g ∨ w.heap.size ≤ q) : Kept1 g w w2 :=
  ⟨Nat.le_trans h.1 hg.size, fun k hk hne => (hg.block k (Nat.lt_of_lt_of_le hk h.1) (fun e => by
    rcases hr k e.symm with h1 | h1
    · exact hne h1
    · omega)).trans (h.2 k hk hne)⟩
theorem Kept1.cell {g : Nat} {w w' : World} (h : Kept1 g w w') {p : Addr} (hp : p.block < w.heap.size) (hne : p.block ≠ g) : w'.cell? p = w.cell? p := World.cell?_of_block (h.2 p.block hp hne)
def PutPost3 (B g : Nat) (x : ByteArray) (ps : List ByteArray) (w : World) (e : Ending) (w' : World) : Prop :=
  ∃ g' cap, e = .returned (.slice (some ⟨g', 0, none⟩) (putW x ps).length cap) ∧ w'.ownsRow B 9 1 (.slice (some ⟨g', 0, none⟩) (putW x ps).length cap) (putW x ps).length ((putW x ps).map Value.string) ∧ Below B w w' ∧ Kept1 g w w' ∧ (g' = g ∨ w.heap.size ≤ g')
theorem owns_head {w : World} {B e g n k cap : Nat} {xs : List Value} (h : w.ownsRow B e 1 (.slice (some ⟨g, 0, none⟩) n cap) n xs) (hk : k ≤ n) : w.ownsRow B e 1 (.slice (some ⟨g, 0, none⟩) k cap) k (xs.take k) := by
  obtain ⟨h1, h2⟩ := h
  rcases h2 with ⟨h2, _⟩ | ⟨g', cap', cur, e2, hb, hh, hn, hc, hs, ht⟩
  · cases h2
  · injection e2 with e3 _ e4
    injection e3 with e5
    injection e5 with e6
    subst e6 e4
    refine ⟨by rw [List.length_take]; omega, Or.inr ⟨g, cap, cur, rfl, hb, hh, by omega, hc, hs, ?_⟩⟩
    rw [← ht, List.take_take, Nat.min_eq_left (by omega), Nat.mul_one]

theorem form_of {w : World} {B e n : Nat} {v : Value} {xs : List Value} (h : w.ownsRow B e 1 v n xs) (hne : v ≠ .slice none 0 0) : ∃ g cap, v = .slice (some ⟨g, 0, none⟩) n cap := by
  rcases h.2 with ⟨h2, _⟩ | ⟨g, cap, cur, e2, _⟩
  · exact absurd h2 hne
  · exact ⟨g, cap, e2⟩
theorem news_of_strs {w : World} {b off : Nat} {xs : List ByteArray} (h : StrsAt w b off xs) : ∀ (j : Nat) (u : Value), (xs.map Value.string)[j]? = some u → w.cell? ((⟨b, off, none⟩ : Addr).add j) = some u := by
  intro j u hj
  rw [List.getElem?_map] at hj
  cases hx : xs[j]? with
  | none => rw [hx] at hj; cases hj
  | some y =>
    rw [hx] at hj
    have hlt := (List.getElem?_eq_some_iff.1 hx).1
    have e : (⟨b, off, none⟩ : Addr).add j = ⟨b, off + j, none⟩ := by unfold Addr.add; split <;> simp_all
    rw [e, h j hlt, ← hj]
    simp [List.getD_eq_getElem?_getD, hx]
theorem strs_drop {w : World} {b k : Nat} {xs : List ByteArray} (h : StrsAt w b 0 xs) : StrsAt w b k (xs.drop k) := by
  intro j hj
  rw [List.length_drop] at hj
  have h1 := h (k + j) (by omega)
  rw [Nat.zero_add] at h1
  rw [h1]
  simp [List.getD_eq_getElem?_getD]
theorem one_cellP (x : ByteArray) : ∀ u ∈ [Value.string x], u.oneCell' = true := by
  intro u hu
  rw [List.mem_singleton] at hu
  subst hu; rfl
theorem str_cells (xs : List ByteArray) : ∀ u ∈ xs.map Value.string, u.oneCell' = true := by
  intro u hu
  obtain ⟨s, _, rfl⟩ := List.mem_map.1 hu
  rfl

theorem put_rest {B g cap n k m : Nat} {xs rest : List Value} {w w1 : World} {v1 : Value} (ho : w.ownsRow B 9 1 (.slice (some ⟨g, 0, none⟩) n cap) n xs) (hk : k ≤ n)
    (ho1 : w1.ownsRow w.heap.size 9 1 v1 (0 + m) ([] ++ rest)) (hg1 : (w.alloc (.cells #[] 9)).grownBy w1 (Value.slice (some ⟨w.heap.size, 0, none⟩) 0 0).ownBlock)
    (hn1 : v1 = .slice none 0 0 ↔ Value.slice (some ⟨w.heap.size, 0, none⟩) 0 0 = .slice none 0 0 ∧ m = 0) :
    ∃ gr cr, v1 = .slice (some ⟨gr, 0, none⟩) m cr ∧ Hid (w1.ownsRow w.heap.size 9 1 (.slice (some ⟨gr, 0, none⟩) m cr) m rest) ∧ Hid (w1.ownsRow B 9 1 (.slice (some ⟨g, 0, none⟩) k cap) k (xs.take k)) ∧ Hid (Below B w w1) ∧
      w.heap.size ≤ gr ∧ gr < w1.heap.size ∧ w.heap.size ≤ w1.heap.size := by
  have hgB := (ho.lt g rfl).1
  have hgl := (ho.lt g rfl).2
  rw [List.nil_append, Nat.zero_add] at ho1
  have hb1 : Below B w w1 := ((Below.refl B w).alloc (by omega) _).grown hg1 (by simp; omega) (fun q hq => by
    have : w.heap.size = q := Option.some.inj hq
    omega)
  obtain ⟨gr, cr, rfl⟩ := form_of ho1 (fun e => by have := (hn1.1 e).1; cases this)
  have hgr := ho1.lt gr rfl
  refine ⟨gr, cr, rfl, ho1, ((owns_head ho hk).alloc (.cells #[] 9)).kept hg1 (Or.inr ?_), hb1, hgr.1, hgr.2, hb1.size⟩
  intro e
  have : g = w.heap.size := Option.some.inj e
  omega
theorem put_one {B g cap k m gr cr B0 : Nat} {xs rest : List Value} {x : ByteArray} {w w1 w2 : World} (hB0 : g < B0) (hR : w1.ownsRow B0 9 1 (.slice (some ⟨gr, 0, none⟩) m cr) m rest) (hH : w1.ownsRow B 9 1 (.slice (some ⟨g, 0, none⟩) k cap) k xs) (hb1 : Below B w w1)
    (hg2 : (w1.alloc (.cells #[.string x] 9)).grownBy w2 (Value.slice (some ⟨g, 0, none⟩) k cap).ownBlock) :
    Hid (w2.ownsRow B0 9 1 (.slice (some ⟨gr, 0, none⟩) m cr) m rest) ∧ Hid (Below B w w2) ∧ w1.heap.size ≤ w2.heap.size := by
  have hgB := (hH.lt g rfl).1
  have hgl := (hH.lt g rfl).2
  have hgr := hR.lt gr rfl
  have hb2 : Below B w w2 := (hb1.alloc (by omega) _).grown hg2 (by simp; omega) (fun q hq => by
    have : g = q := Option.some.inj hq
    omega)
  have hsz := hg2.size
  refine ⟨(hR.alloc (.cells #[.string x] 9)).kept hg2 (Or.inr ?_), hb2, by simp at hsz; omega⟩
  intro e
  have : gr = g := Option.some.inj e
  omega

theorem put_done {B g k g3 c3 : Nat} {x : ByteArray} {ps : List ByteArray} {w w3 : World} (hk : k ≤ ps.length) (hp : putW x ps = (ps.take k ++ [x]) ++ ps.drop k)
    (h : w3.ownsRow B 9 1 (.slice (some ⟨g3, 0, none⟩) (k + 1 + (ps.length - k)) c3) (k + 1 + (ps.length - k)) (((ps.map Value.string).take k ++ [.string x]) ++ (ps.drop k).map Value.string)) (hb : Below B w w3) (hK : Kept1 g w w3) (hat : g3 = g ∨ w.heap.size ≤ g3) :
    PutPost3 B g x ps w (.returned (.slice (some ⟨g3, 0, none⟩) (k + 1 + (ps.length - k)) c3)) w3 := by
  have e1 : (putW x ps).length = k + 1 + (ps.length - k) := by rw [hp]; simp; omega
  have e2 : (putW x ps).map Value.string = ((ps.map Value.string).take k ++ [.string x]) ++ (ps.drop k).map Value.string := by rw [hp]; simp
  rw [← e1, ← e2] at h
  exact ⟨g3, c3, by rw [e1], h, hb, hK, hat⟩
theorem put_end_done {B g g3 c3 : Nat} {x : ByteArray} {ps : List ByteArray} {w w3 : World} (hp : putW x ps = ps ++ [x])
    (h : w3.ownsRow B 9 1 (.slice (some ⟨g3, 0, none⟩) (ps.length + 1) c3) (ps.length + 1) (ps.map Value.string ++ [.string x])) (hb : Below B w w3) (hK : Kept1 g w w3) (hat : g3 = g ∨ w.heap.size ≤ g3) :
    PutPost3 B g x ps w (.returned (.slice (some ⟨g3, 0, none⟩) (ps.length + 1) c3)) w3 := by
  have e1 : (putW x ps).length = ps.length + 1 := by rw [hp]; simp
  have e2 : (putW x ps).map Value.string = ps.map Value.string ++ [.string x] := by rw [hp]; simp
  rw [← e1, ← e2] at h
  exact ⟨g3, c3, by rw [e1], h, hb, hK, hat⟩
theorem owns_cap {w : World} {B g n cap : Nat} {xs : List Value} (h : w.ownsRow B 9 1 (.slice (some ⟨g, 0, none⟩) n cap) n xs) : n ≤ cap := by
  rcases h.2 with ⟨h2, _⟩ | ⟨g', cap', cur, e2, _, _, hn, _, _, _⟩
  · cases h2
  · injection e2 with _ _ e4
    omega

set_option maxRecDepth 100000 in
set_option maxHeartbeats 1600000 in
theorem spec_put2 (B g cap : Nat) (ps : List ByteArray) (x : ByteArray) (hl : ps.length ≤ 1000) (w : World)
    (ho : w.ownsRow B 9 1 (.slice (some ⟨g, 0, none⟩) ps.length cap) ps.length (ps.map Value.string)) :
    Calls Try.prog 73 #[.slice (some ⟨g, 0, none⟩) ps.length cap, .string x] w (PutPost3 B g x ps w) := by
  obtain ⟨i0, hi, hz0, hz1, hz2⟩ := info_parts infoStr
  have hst := StrsAt.of_owns ho rfl
  have hgB := (ho.lt g rfl).1
  have hgl := (ho.lt g rfl).2
  have HS := Lib.hid hst
  have HO := Lib.hid ho
  have hcap : ps.length ≤ cap := by
    rcases ho.2 with ⟨h2, _⟩ | ⟨g', cap', cur, e2, _, _, hn, _, _, _⟩
    · cases h2
    · injection e2 with _ _ e4
      omega
  clear ho hst
  go_enter Try.func73, Try.ntmps73
  go_wp2
  go_loop [5] (fun i => ∃ k : Nat, k ≤ ps.length ∧ i = .int .i64 k ∧ Hid (LessTo x ps k)) (fun i => ps.length - (intOf i).toNat)
  case atStart => exact ⟨0, Nat.zero_le _, rfl, Lib.hid (fun j h => by omega)⟩
  case round =>
    obtain ⟨k, hk, rfl, hless⟩ := hrel
    by_cases hlt : k < ps.length
    · have hcell := HS.out k hlt
      rw [Nat.zero_add] at hcell
      have hg0 : decide ((k : Int) < (ps.length : Int)) = true := by simp; omega
      cases hc : decide ((ps.getD k ByteArray.empty).data.toList < x.data.toList) with
      | true =>
        have HN := Lib.hid (hless.out.next (of_decide_eq_true hc))
        rw [← ba_less] at hc
        generalize ps.getD k ByteArray.empty = y at *
        go_wp2
        go_round
        case rel => exact ⟨k + 1, by omega, by go_num, HN⟩
        case measure => simp [intOf]; omega
      | false =>
        cases he : decide (ps.getD k ByteArray.empty = x) with
        | true =>
          have HP := Lib.hid (putW_same x ps k hlt hless.out (of_decide_eq_true he))
          rw [← ba_less] at hc
          rw [← ba_same] at he
          generalize ps.getD k ByteArray.empty = y at *
          go_wp2
          go_ret
          refine ⟨g, cap, by rw [HP.out]; rfl, by rw [HP.out]; exact HO.out, Below.refl _ _, Kept1.refl _ _, Or.inl rfl⟩
        | false =>
          have HP := Lib.hid (putW_mid x ps k hlt hless.out (of_decide_eq_false hc) (of_decide_eq_false he))
          rw [← ba_less] at hc
          rw [← ba_same] at he
          generalize ps.getD k ByteArray.empty = y at *
          have HNEW := Lib.hid (fun (c : Obj) => news_of_strs (strs_drop (k := k) (HS.out.below ((Below.refl w.heap.size w).alloc (Nat.le_refl _) c) hgl)))
          go_wp2_with (first
            | (at_builtin; refine wpList_append_own _ rfl (.tmp 34) (.tmp 37) 29 rfl w.heap.size 9 i0 (.string ByteArray.empty) 1 16 Try.underlying29 hi hz0 hz1 hz2 rfl (by decide) _ _ _ rfl (World.ownsRow_made _ _ 0 (Nat.le_refl _) (by decide) rfl) ⟨g, k, none⟩ (ps.length - k) (cap - k) ((ps.drop k).map Value.string) rfl (by simp) (HNEW.out _) (str_cells _) (by unfold maxLen; omega) (by omega) (by simp) ?_; intro v1 w1 ho1 hg1 hn1; have HK1 := Lib.hid (((Kept1.refl g w).alloc (.cells #[] 9)).grown hg1 (fun q hq => Or.inr (by have : w.heap.size = q := Option.some.inj hq; omega))); obtain ⟨gr, cr, rfl, HR1, HH1, HB1, hgr1, hgr2, hsz1⟩ := put_rest HO.out hk ho1 hg1 hn1; clear ho1 hg1 hn1)
            | (at_builtin; refine wpList_append_lies _ rfl (.tmp 41) (.tmp 43) 29 rfl B 9 i0 (.string ByteArray.empty) 1 16 Try.underlying29 hi hz0 hz1 hz2 rfl (by decide) _ _ _ rfl (HH1.out.alloc _) ⟨w1.heap.size, 0, none⟩ 1 1 [.string x] rfl rfl (cell_one_new _ _ _) (one_cellP x) (by decide) (by unfold maxLen; omega) (by omega) (by simp; omega) _ rfl ?_; intro gg c2 w2 ho2 hg2 hat2 _; have HK2 := Lib.hid ((HK1.out.alloc (.cells #[.string x] 9)).grown hg2 (fun q hq => Or.inl (Option.some.inj hq).symm)); have HAT : Hid (gg = g ∨ w.heap.size ≤ gg) := Lib.hid (by rcases hat2 with h | h; exact Or.inl (Option.some.inj h).symm; exact Or.inr (by rw [h]; simp; omega));  obtain ⟨HRR, HB2, hsz2⟩ := put_one (by omega) HR1.out HH1.out HB1.out hg2; have HR2 := Lib.hid (news_of_strs (StrsAt.of_owns HRR.out (by simp))); have HO2 := Lib.hid ho2; clear ho2 hg2 hat2)
            | (at_builtin; refine wpList_append_lies _ rfl (.tmp 44) (.tmp 45) 29 rfl B 9 i0 (.string ByteArray.empty) 1 16 Try.underlying29 hi hz0 hz1 hz2 rfl (by decide) _ _ _ rfl HO2.out ⟨gr, 0, none⟩ (ps.length - k) cr ((ps.drop k).map Value.string) rfl (by simp) HR2.out (str_cells _) (by omega) (by unfold maxLen; omega) (by omega) (by omega) _ rfl ?_; intro g3 c3 w3 ho3 hg3 hat3 _; have HAT3 : Hid (g3 = g ∨ w.heap.size ≤ g3) := Lib.hid (hat3.elim (fun h => by have : gg = g3 := Option.some.inj h; subst this; exact HAT.out) (fun h => Or.inr (by rw [h]; omega))); have hb3 : Below B w w3 := HB2.out.grown hg3 (by omega) (fun q hq => (HO2.out.lt q hq).1); have HK3 := Lib.hid (HK2.out.grown hg3 (fun q hq => by have : gg = q := Option.some.inj hq; subst this; exact HAT.out)); have HO3 := Lib.hid ho3; have HB3 := Lib.hid hb3; clear ho3 hg3 hb3 hat3))
          go_ret
          exact put_done hk HP.out HO3.out HB3.out HK3.out HAT3.out
    · obtain rfl : k = ps.length := by omega
      have HP := Lib.hid (putW_end x ps hless.out)
      have hk : ps.length ≤ ps.length := Nat.le_refl _
      have hk0 : ps.length ≤ ps.length := Nat.le_refl _
      by_cases hce : cap = ps.length
      · subst hce
        have HR1 := Lib.hid (World.ownsRow_made (base := w.heap.size) (e := 9) (size := 1) w #[] 0 (Nat.le_refl _) (by decide) rfl)
        have HH1 := Lib.hid (HO.out.alloc (.cells #[] 9))
        have HB1 := Lib.hid ((Below.refl B w).alloc (by omega) (.cells #[] 9))
        have HK1 := Lib.hid ((Kept1.refl g w).alloc (.cells #[] 9))
        have hnew : ∀ (q : Nat) (u : Value), [Value.string x][q]? = some u → ((w.alloc (.cells #[] 9)).alloc (.cells #[.string x] 9)).cell? ((⟨w.heap.size + 1, 0, none⟩ : Addr).add q) = some u := by
          have h := cell_one_new (w.alloc (.cells #[] 9)) (.string x) 9
          rw [World.size_alloc] at h
          exact h
        have HNEW := Lib.hid hnew
        clear hnew
        go_wp2_with (first
          | (at_builtin; refine wpList_append_lies _ rfl (.tmp 41) (.tmp 43) 29 rfl B 9 i0 (.string ByteArray.empty) 1 16 Try.underlying29 hi hz0 hz1 hz2 rfl (by decide) _ _ _ rfl (HH1.out.alloc _) ⟨w.heap.size + 1, 0, none⟩ 1 1 [.string x] rfl rfl HNEW.out (one_cellP x) (by decide) (by unfold maxLen; omega) (by omega) (by simp; omega) _ rfl ?_; intro gg c2 w2 ho2 hg2 hat2 _; have HK2 := Lib.hid ((HK1.out.alloc (.cells #[.string x] 9)).grown hg2 (fun q hq => Or.inl (Option.some.inj hq).symm)); have HAT : Hid (gg = g ∨ w.heap.size ≤ gg) := Lib.hid (by rcases hat2 with h | h; exact Or.inl (Option.some.inj h).symm; exact Or.inr (by rw [h]; simp; omega));  obtain ⟨HRR, HB2, hsz2⟩ := put_one hgl HR1.out HH1.out HB1.out hg2; have HO2 := Lib.hid ho2; clear ho2 hg2 hat2)
          | (at_builtin; refine wpList_append_zero rfl (.tmp 44) (.tmp 45) 29 rfl 9 i0 Try.underlying29 hi gg _ c2 (owns_cap HO2.out) ⟨w.heap.size, 0, none⟩ 0 rfl rfl ?_))
        go_ret
        exact put_end_done HP.out HO2.out HB2.out HK2.out HAT.out
      · have hce2 : ps.length < cap := by omega
        have HR1 := Lib.hid (World.ownsRow_made (base := w.heap.size) (e := 9) (size := 1) w #[] 0 (Nat.le_refl _) (by decide) rfl)
        have HH1 := Lib.hid (HO.out.alloc (.cells #[] 9))
        have HB1 := Lib.hid ((Below.refl B w).alloc (by omega) (.cells #[] 9))
        have HK1 := Lib.hid ((Kept1.refl g w).alloc (.cells #[] 9))
        have hnew : ∀ (q : Nat) (u : Value), [Value.string x][q]? = some u → ((w.alloc (.cells #[] 9)).alloc (.cells #[.string x] 9)).cell? ((⟨w.heap.size + 1, 0, none⟩ : Addr).add q) = some u := by
          have h := cell_one_new (w.alloc (.cells #[] 9)) (.string x) 9
          rw [World.size_alloc] at h
          exact h
        have HNEW := Lib.hid hnew
        clear hnew
        go_wp2_with (first
          | (at_builtin; refine wpList_append_lies _ rfl (.tmp 41) (.tmp 43) 29 rfl B 9 i0 (.string ByteArray.empty) 1 16 Try.underlying29 hi hz0 hz1 hz2 rfl (by decide) _ _ _ rfl (HH1.out.alloc _) ⟨w.heap.size + 1, 0, none⟩ 1 1 [.string x] rfl rfl HNEW.out (one_cellP x) (by decide) (by unfold maxLen; omega) (by omega) (by simp; omega) _ rfl ?_; intro gg c2 w2 ho2 hg2 hat2 _; have HK2 := Lib.hid ((HK1.out.alloc (.cells #[.string x] 9)).grown hg2 (fun q hq => Or.inl (Option.some.inj hq).symm)); have HAT : Hid (gg = g ∨ w.heap.size ≤ gg) := Lib.hid (by rcases hat2 with h | h; exact Or.inl (Option.some.inj h).symm; exact Or.inr (by rw [h]; simp; omega));  obtain ⟨HRR, HB2, hsz2⟩ := put_one hgl HR1.out HH1.out HB1.out hg2; have HO2 := Lib.hid ho2; clear ho2 hg2 hat2)
          | (at_builtin; refine wpList_append_zero rfl (.tmp 44) (.tmp 45) 29 rfl 9 i0 Try.underlying29 hi gg _ c2 (owns_cap HO2.out) ⟨w.heap.size, 0, none⟩ 0 rfl rfl ?_))
        go_ret
        exact put_end_done HP.out HO2.out HB2.out HK2.out HAT.out
theorem spec_put (B g cap : Nat) (ps : List ByteArray) (x : ByteArray) (hl : ps.length ≤ 1000) (w : World)
    (ho : w.ownsRow B 9 1 (.slice (some ⟨g, 0, none⟩) ps.length cap) ps.length (ps.map Value.string)) :
    Calls Try.prog 73 #[.slice (some ⟨g, 0, none⟩) ps.length cap, .string x] w (PutPost B x ps w) := (spec_put2 B g cap ps x hl w ho).mono fun _ _ ⟨g', cap', h1, h2, h3, _⟩ => ⟨g', cap', h1, h2, h3⟩
end Go.Proofs.Ytomaanpmjlgpfaa
