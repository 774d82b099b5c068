/-
  The program's marks of twins, its search for two equal ones, and its TwinsOf: as the plain words say; nothing that was there before is changed.
-/
import Derived.Test.YtlncehnbdhkaoaaTwinNum
import Derived.Test.YtlncehnbdhkaoaaCodeIB
import Derived.Test.YtlncehnbdhkaoaaWordsOf
import Derived.Test.YtlncehnbdhkaoaaLangNum
import Derived.Deep.AppendLies
import Derived.Laws.EntriesVeiled
import Derived.Shelf.Abstract
import Derived.Lib.AtoiErrMem
import Derived.Deep.Onto
namespace Go.Proofs.Ytlncehnbdhkaoaa
open Go Go.RowKit Go.Shelf

theorem alloc_oldM {w : World} {p : Addr} {x : Value} (o : Obj) (h : w.cell? p = some x) : (w.alloc o).cell? p = some x :=
  (((Below.refl w.heap.size w).alloc (Nat.le_refl _) o).cell (Lib.lt_of_cell h)).trans h
theorem own_keep {w w' : World} {B e s n : Nat} {v : Value} {xs : List Value} (h : w.ownsRow B e s v n xs) (hb : Below w.heap.size w w') : w'.ownsRow B e s v n xs := by
  refine h.kept (row := none) ⟨hb.os, hb.tape, hb.output, hb.size, fun j hj _ => hb.block j hj⟩ ?_
  cases e : v.ownBlock with
  | none => exact Or.inl rfl
  | some g => exact Or.inr (by intro h; cases h)
theorem infoMark : (Try.prog.info? 96).map (fun i => (i.zero, i.size, i.bytes)) = some (some (.agg #[.string ByteArray.empty, .string ByteArray.empty, .string ByteArray.empty]), 3, 48) := by kernel_rfl
/-- What twins have in common. -/
def mkA (k n : Nat) (o v : ByteArray) : ByteArray := applied k n o v
def mkB (n : Nat) (v : ByteArray) : ByteArray := v.extract 0 (n - 1)
def mkC (n : Nat) (v : ByteArray) : ByteArray := v.extract (v.size - (n - 1)) v.size
def markC (k n : Nat) (o v : ByteArray) : List Value := [.string (mkA k n o v), .string (mkB n v), .string (mkC n v)]
/-- The cells of the first i marks. -/
def marksC (k n : Nat) (o : ByteArray) (ps : List ByteArray) (i : Nat) : List Value := (ps.take i).flatMap (markC k n o)
theorem marksC_zero (k n : Nat) (o : ByteArray) (ps : List ByteArray) : marksC k n o ps 0 = [] := rfl
theorem marksC_next (k n : Nat) (o : ByteArray) {ps : List ByteArray} {i : Nat} (h : i < ps.length) : marksC k n o ps (i + 1) = marksC k n o ps i ++ markC k n o (ps.getD i ByteArray.empty) := by
  unfold marksC
  rw [take_next ps i h, List.flatMap_append]; simp
theorem marksC_at (k n : Nat) (o : ByteArray) : ∀ (ps : List ByteArray) (i c : Nat), i < ps.length → c < 3 → (ps.flatMap (markC k n o))[i * 3 + c]? = (markC k n o (ps.getD i ByteArray.empty))[c]?
  | [], i, c, h, _ => by simp at h
  | a :: ps, 0, c, _, hc => by
    rw [List.flatMap_cons, List.getElem?_append_left (by show 0 * 3 + c < 3; omega)]
    simp
  | a :: ps, i + 1, c, h, hc => by
    rw [List.flatMap_cons, List.getElem?_append_right (by show 3 ≤ (i + 1) * 3 + c; omega)]
    have e : (i + 1) * 3 + c - (markC k n o a).length = i * 3 + c := by show (i + 1) * 3 + c - 3 = _; omega
    rw [e, marksC_at k n o ps i c (by simpa using h) hc]
    simp
theorem marksC_len (k n : Nat) (o : ByteArray) : ∀ (ps : List ByteArray), (ps.flatMap (markC k n o)).length = ps.length * 3
  | [] => rfl
  | a :: ps => by rw [List.flatMap_cons, List.length_append, marksC_len k n o ps, List.length_cons]; show 3 + _ = _; omega

def MarksPost (k n : Nat) (o : ByteArray) (ps : List ByteArray) (w : World) (e : Ending) (w' : World) : Prop := ∃ r, e = .returned r ∧ w'.ownsRow w.heap.size 96 3 r ps.length (ps.flatMap (markC k n o)) ∧ Below w.heap.size w w'

set_option maxRecDepth 100000 in
set_option maxHeartbeats 3200000 in
theorem impl_marks (k n L g cap : Nat) (o : ByteArray) (ps : List ByteArray) (ok : CodeOk k n o) (hL : n ≤ L) (hL9 : L ≤ 9) (hl : ps.length ≤ 729) (hz : ∀ x ∈ ps, x.size = L ∧ allL (k : Int) x = true) (W : World) (hs : StrsAt W g 0 ps) (hg : g < W.heap.size) :
    Calls Try.prog 47 #[.agg #[.int .i64 (k : Int), .int .i64 (n : Int), .string o], .slice (some ⟨g, 0, none⟩) ps.length cap] W (MarksPost k n o ps W) := by
  obtain ⟨j0, hj, hy0, hy1, hy2⟩ := info_parts infoMark
  have hk := codeIn_new W (k : Int) (n : Int) o
  have HK := Lib.hid hk
  have c0 := hk.c0
  have c1 := hk.c1
  have c2 := hk.c2
  have HB0 := Lib.hid ((Below.refl W.heap.size W).alloc (Nat.le_refl _) (.cells #[.int .i64 (k : Int), .int .i64 (n : Int), .string o] 25))
  have HS := Lib.hid hs
  have HZ := Lib.hid hz
  have n1 := ok.n1
  have n4 := ok.n4
  have HOK := Lib.hid ok
  have HM := Lib.hid (impl_codingOf (k : Int) (n : Int) o)
  have e1 : wrap64 ((n : Int) - 1) = ((n - 1 : Nat) : Int) := by rw [small_wrapI (by omega)]; omega
  have e2 : IntKind.i64.wrap ((n : Int) - 1) = ((n - 1 : Nat) : Int) := by rw [IntKind.wrap_i64]; omega
  clear hk hs hz ok
  obtain ⟨q, hq⟩ : ∃ q, n - 1 = q := ⟨_, rfl⟩
  rw [hq] at e1 e2
  have HQ := Lib.hid hq
  clear hq
  go_enter Try.func47, Try.ntmps47
  go_wp2_with fail
  refine (HM.out _).mono ?_
  rintro e w1 ⟨rfl, rfl⟩
  obtain ⟨W2, hW2⟩ : ∃ W2, (W.alloc (.cells #[.int .i64 (k : Int), .int .i64 (n : Int), .string o] 25)).alloc (.cells #[.int .i64 (k : Int), .int .i64 (n : Int), .string o] 25) = W2 := ⟨_, rfl⟩
  have HKA : Hid (CodeIn W2 (W.heap.size + 1) (k : Int) (n : Int) o) := Lib.hid (by
    have h := codeIn_new (W.alloc (.cells #[.int .i64 (k : Int), .int .i64 (n : Int), .string o] 25)) (k : Int) (n : Int) o
    rw [World.size_alloc] at h
    rw [← hW2]; exact h)
  have hc1 := alloc_oldM (.cells #[.int .i64 (k : Int), .int .i64 (n : Int), .string o] 25) c1
  have HB2 : Hid (Below W.heap.size W W2) := Lib.hid (by rw [← hW2]; exact HB0.out.alloc HB0.out.size _)
  have hs2 : W2.heap.size = W.heap.size + 2 := by rw [← hW2]; simp
  rw [hW2] at hc1 ⊢
  have hst2 := HS.out.below HB2.out hg
  have HS2 := Lib.hid hst2
  have hg2 : g < W2.heap.size := by omega
  clear c0 c1 c2 hW2 HK HB0 hst2
  go_wp2
  go_loopw [7, 17] (fun xv iv wr => ∃ (i : Nat) (mv : Value), i ≤ ps.length ∧ iv = .int .i64 (i : Int) ∧ mv = xv ∧ Hid (wr.ownsRow W2.heap.size 96 3 mv i (marksC k n o ps i)) ∧ Hid (Below W2.heap.size W2 wr)) (fun _ iv _ => ps.length - (intOf iv).toNat)
  case atStart => exact ⟨0, _, Nat.zero_le _, rfl, rfl, Lib.hid (World.ownsRow_nil _ _ _ _), Lib.hid (Below.refl _ _)⟩
  case round =>
    clear hc1
    obtain ⟨i, mv, hi, rfl, rfl, HO, HB⟩ := hrel
    by_cases hlt : i < ps.length
    · have kx := (HS2.out.below HB.out hg2) i hlt
      rw [Nat.zero_add] at kx
      have hzv := HZ.out _ (getD_mem hlt)
      have HNX : Hid (marksC k n o ps (i + 1) = marksC k n o ps i ++ markC k n o (ps.getD i ByteArray.empty)) := Lib.hid (marksC_next k n o hlt)
      obtain ⟨v, hv⟩ : ∃ v, ps.getD i ByteArray.empty = v := ⟨_, rfl⟩
      rw [hv] at kx hzv HNX
      clear hv
      have hqv : q ≤ v.size := by have := HQ.out; omega
      obtain ⟨f, hf⟩ : ∃ f, v.size - q = f := ⟨_, rfl⟩
      have t1 : wrap64 ((v.size : Int) - (q : Int)) = (f : Int) := by rw [small_wrapI (by omega)]; omega
      have t1b : IntKind.i64.wrap ((v.size : Int) - (q : Int)) = (f : Int) := by rw [IntKind.wrap_i64]; omega
      have HMK : Hid (markC k n o v = [.string (applied k n o v), .string (v.extract 0 q), .string (v.extract f v.size)]) := Lib.hid (by unfold markC mkA mkB mkC; rw [HQ.out, hf])
      have hfv : f ≤ v.size := by omega
      have q0 : (0 : Int) ≤ (q : Int) := Int.natCast_nonneg q
      have q2 : (q : Int) ≤ (v.size : Int) := Int.ofNat_le.2 hqv
      have f0 : (0 : Int) ≤ (f : Int) := Int.natCast_nonneg f
      have f1 : (f : Int) ≤ (v.size : Int) := Int.ofNat_le.2 hfv
      have HC := Lib.hid (fun w' (h : CodeIn w' (W.heap.size + 1) (k : Int) (n : Int) o) => impl_coding k n (W.heap.size + 1) o v HOK.out (by omega) hzv.2 w' h)
      have hsw := HB.out.size
      have hmx : i + 1 ≤ 1000 := by omega
      generalize marksC k n o ps i = M at *
      generalize applied k n o v = av at *
      clear hf hzv hqv hfv
      obtain ⟨W3, rfl⟩ : ∃ W3 : World, W3 = wr := ⟨_, rfl⟩
      go_wp2
      go_region_held3 (fun _ => True) (first | trivial | go_keep) (first | (go_at_call 86; refine (HC.out _ ((HKA.out.below HB.out).below (Below.refl _ _).drew)).mono ?_; rintro e w9 ⟨rfl, hb9⟩; have HB9 : Hid (Below W3.heap.size W3 w9) := Lib.hid ((Below.refl W3.heap.size W3).drew.trans hb9); have HO9 := Lib.hid (own_keep HO.out HB9.out); have hs9 : W3.heap.size ≤ w9.heap.size := HB9.out.size; clear hb9) | (refine step_append_lies _ (by rfl) _ _ _ (by rfl) W2.heap.size 96 j0 _ 3 48 Try.underlying58 hj hy0 hy1 hy2 rfl (by omega) mv i M (by rfl) (by first | exact HO9.out.alloc _ | exact (HO9.out.alloc _).drew) ⟨w9.heap.size, 0, none⟩ 1 1 [.string av, .string (v.extract 0 q), .string (v.extract f v.size)] (by rfl) (by rfl) (World.news_of_block (cs := #[.string av, .string (v.extract 0 q), .string (v.extract f v.size)]) (t := 96) (fr := (0, 0)) (heap_alloc_new w9 _)) (by simp [Value.oneCell']) (by omega) (by unfold maxLen; omega) (by omega) (by simp; omega) (w9.heap.size + 1) (by simp) ?_; intro gg cap w6 ho6 hg6 hat6 hlt6; have HBN : Hid (Below W2.heap.size W2 w6) := Lib.hid (((HB.out.trans (HB9.out.mono hsw)).alloc (by omega) _).grown hg6 (by simp; omega) (fun q hq => (HO9.out.lt q hq).1)); have HO6 : Hid (w6.ownsRow W2.heap.size 96 3 (.slice (some ⟨gg, 0, none⟩) (i + 1) cap) (i + 1) (M ++ [.string av, .string (v.extract 0 q), .string (v.extract f v.size)])) := Lib.hid ho6; clear ho6 hg6 hat6))
      have HO7 : Hid (w6.ownsRow W2.heap.size 96 3 (.slice (some ⟨gg, 0, none⟩) (i + 1) cap) (i + 1) (marksC k n o ps (i + 1))) := Lib.hid (by rw [HNX.out, HMK.out]; exact HO6.out)
      go_wp2
      go_roundw
      case rel => exact ⟨i + 1, _, hlt, by go_num, rfl, HO7, HBN⟩
      case measure => clear f0 f1 q0 q2 t1 t1b e1 e2; simp [intOf]; omega
    · obtain rfl : i = ps.length := by omega
      have HOE : Hid (wr.ownsRow W2.heap.size 96 3 mv ps.length (ps.flatMap (markC k n o))) := Lib.hid (by have h := HO.out; unfold marksC at h; rw [List.take_length] at h; exact h)
      go_wp2
      go_ret
      exact ⟨_, rfl, World.ownsRow.mono HOE.out (by omega), HB2.out.trans (HB.out.mono HB2.out.size)⟩
end Go.Proofs.Ytlncehnbdhkaoaa
