/-
  The program's first two equal marks, and its TwinsOf: as the plain words say; nothing that was there before is changed.
-/
import Derived.Test.YtlncehnbdhkaoaaTwinIB
namespace Go.Proofs.Ytlncehnbdhkaoaa
open Go Go.RowKit Go.Shelf

theorem one_wrapsI {x : Nat} (hx : x ≤ 1000) : wrap64 ((x : Int) + 1) = (x : Int) + 1 ∧ IntKind.i64.wrap ((x : Int) + 1) = (x : Int) + 1 := by
  rw [IntKind.wrap_i64]
  exact ⟨small_wrapI (by omega), by omega⟩
theorem two_wrapsI {i d j : Nat} (h : j - (i + 1) = d) (hij : i < j) (hx : j ≤ 1000) : wrap64 ((i : Int) + 1 + (d : Int)) = (j : Int) ∧ IntKind.i64.wrap ((i : Int) + 1 + (d : Int)) = (j : Int) := by
  rw [IntKind.wrap_i64]
  refine ⟨?_, by omega⟩
  rw [small_wrapI (by omega)]; omega
def pairV (r : Option (Nat × Nat)) : Value := match r with
  | none => .tuple #[.int .i64 0, .int .i64 0, .bool false]
  | some (i, j) => .tuple #[.int .i64 (i : Int), .int .i64 (j : Int), .bool true]
theorem index_none {R : Nat → Nat → Bool} {m i : Nat} {w w' : World} {e : Ending} (h : IndexPost R m i w e w') (hb : behindJ R m i = none) : e = .returned (.int .i64 (-1)) ∧ Below w.heap.size w w' := by unfold IndexPost at h; rw [hb] at h; exact h
theorem index_some' {R : Nat → Nat → Bool} {m i j : Nat} {w w' : World} {e : Ending} (h : IndexPost R m i w e w') (hb : behindJ R m i = some j) : e = .returned (.int .i64 ((j - (i + 1) : Nat) : Int)) ∧ Below w.heap.size w w' := by unfold IndexPost at h; rw [hb] at h; exact h

set_option maxRecDepth 100000 in
set_option maxHeartbeats 3200000 in
theorem impl_firstTwo (k n b cap : Nat) (o : ByteArray) (ps : List ByteArray) (hl : ps.length ≤ 729) (hcap : ps.length ≤ cap) (W : World) (hs : MarksAt W b k n o ps) (hb : b < W.heap.size) :
    Calls Try.prog 46 #[.slice (some ⟨b, 0, none⟩) ps.length cap] W (Says (pairV (firstPair (twL k n o ps) ps.length)) W) := by
  have HS := Lib.hid hs
  have HPS := Lib.hid (fun i j (hi : i < ps.length) (h : behindJ (twL k n o ps) ps.length i = some j) h0 => pair_some hi h h0)
  have HPN := Lib.hid (fun h => pair_none (R := twL k n o ps) (m := ps.length) h)
  clear hs
  go_enter Try.func46, Try.ntmps46
  go_wp2
  go_loopw [10] (fun iv wr => ∃ i : Nat, i ≤ ps.length ∧ iv = .int .i64 (i : Int) ∧ Hid (∀ y, y < i → behindJ (twL k n o ps) ps.length y = none) ∧ Hid (Below W.heap.size W wr)) (fun iv _ => ps.length - (intOf iv).toNat)
  case atStart => exact ⟨0, Nat.zero_le _, rfl, Lib.hid (fun y h => by omega), Lib.hid (Below.refl _ _)⟩
  case round =>
    obtain ⟨i, hi, rfl, HNI, HB⟩ := hrel
    by_cases hlt : i < ps.length
    · have hst := HS.out.below HB.out hb
      have HS3 := Lib.hid hst
      obtain ⟨k0, k1, k2⟩ := hst i hlt
      have HC := Lib.hid (fun cp A hA W' h1 h2 => impl_indexM k n b i cp o ps hl hlt A hA W' h1 h2)
      obtain ⟨A, hA, hA2⟩ : ∃ A, (if cap = i + 1 then some (⟨b, 0, none⟩ : Addr) else some ⟨b, (i + 1) * 3, none⟩) = A ∧ (ps.length - (i + 1) = 0 ∨ A = some ⟨b, (i + 1) * 3, none⟩) := by
        by_cases h : cap = i + 1
        · exact ⟨_, if_pos h, Or.inl (by omega)⟩
        · exact ⟨_, if_neg h, Or.inr rfl⟩
      have HA := Lib.hid hA2
      clear hA2
      have hbw : b < wr.heap.size := Nat.lt_of_lt_of_le hb HB.out.size
      clear hst
      generalize mkA k n o (ps.getD i ByteArray.empty) = a0 at *
      generalize mkB n (ps.getD i ByteArray.empty) = b0 at *
      generalize mkC n (ps.getD i ByteArray.empty) = d0 at *
      have hmb := markBox_new wr a0 b0 d0
      have HMB : Hid (MarkBox ((wr.alloc (.cells #[.string a0, .string b0, .string d0] 96)).drew) wr.heap.size a0 b0 d0) := Lib.hid hmb
      have y0 := hmb.c0
      have y1 := hmb.c1
      have y2 := hmb.c2
      have hi1000 : i ≤ 1000 := by omega
      have p0 : (0 : Int) ≤ (i : Int) + 1 := by omega
      have p1 : (i : Int) + 1 ≤ (ps.length : Int) := by omega
      have p2 : (ps.length : Int) ≤ (cap : Int) := by omega
      clear hmb
      cases hbj : behindJ (twL k n o ps) ps.length i with
      | none =>
        have HIX := Lib.hid (fun e w w' h => index_none (R := twL k n o ps) (m := ps.length) (i := i) (w := w) (w' := w') (e := e) h hbj)
        have HN : Hid (∀ y, y < i + 1 → behindJ (twL k n o ps) ps.length y = none) := Lib.hid fun y hy => by
          by_cases e : y = i
          · subst e; exact hbj
          · exact HNI.out y (by omega)
        clear hbj
        obtain ⟨w1, w1b⟩ := one_wrapsI hi1000
        go_wp2
        go_region_held3 (fun w' => w'.cell? ⟨wr.heap.size, 0, none⟩ = some (.string a0) ∧ w'.cell? ⟨wr.heap.size, 1, none⟩ = some (.string b0) ∧ w'.cell? ⟨wr.heap.size, 2, none⟩ = some (.string d0)) (first | exact ⟨y0, y1, y2⟩ | exact ⟨z0, z1, z2⟩ | go_keep) ((go_at_call 77; refine (HC.out _ _ HA.out _ (HS3.out.below (((Below.refl wr.heap.size wr).alloc (Nat.le_refl _) _).drew) hbw) (Nat.lt_of_lt_of_le hbw (((Below.refl wr.heap.size wr).alloc (Nat.le_refl _) (.cells #[.string a0, .string b0, .string d0] 96)).drew).size)).mono ?_; rintro e w8 hp8; obtain ⟨rfl, hb8⟩ := HIX.out _ _ _ hp8; clear hp8; have HB8 : Hid (Below wr.heap.size wr w8) := Lib.hid ((((Below.refl wr.heap.size wr).alloc (Nat.le_refl _) (.cells #[.string a0, .string b0, .string d0] 96)).drew).trans (hb8.mono (by simp))); have hm8 := HMB.out.later hb8 (by simp); have z0 := hm8.c0; have z1 := hm8.c1; have z2 := hm8.c2; clear hb8 hm8))
        have HB9 := Lib.hid (HB.out.trans (HB8.out.mono HB.out.size))
        go_wp2
        go_roundw
        case rel => exact ⟨i + 1, hlt, by go_num, HN, HB9⟩
        case measure => clear w1 w1b; simp [intOf]; omega
      | some j =>
        have HIX := Lib.hid (fun e w w' h => index_some' (R := twL k n o ps) (m := ps.length) (i := i) (w := w) (w' := w') (e := e) h hbj)
        have HR := Lib.hid (HPS.out i j hlt hbj HNI.out)
        obtain ⟨hj1, hj2, _⟩ := behind_lt hbj
        obtain ⟨d, hd⟩ : ∃ d, j - (i + 1) = d := ⟨_, rfl⟩
        rw [hd] at HIX
        have hj1000 : j ≤ 1000 := by omega
        have gd : (0 : Int) ≤ (d : Int) := Int.natCast_nonneg d
        clear hbj
        obtain ⟨w1, w1b⟩ := one_wrapsI hi1000
        obtain ⟨w2, w2b⟩ := two_wrapsI hd hj2 hj1000
        clear hd
        go_wp2
        go_region_held3 (fun w' => w'.cell? ⟨wr.heap.size, 0, none⟩ = some (.string a0) ∧ w'.cell? ⟨wr.heap.size, 1, none⟩ = some (.string b0) ∧ w'.cell? ⟨wr.heap.size, 2, none⟩ = some (.string d0)) (first | exact ⟨y0, y1, y2⟩ | exact ⟨z0, z1, z2⟩ | go_keep) ((go_at_call 77; refine (HC.out _ _ HA.out _ (HS3.out.below (((Below.refl wr.heap.size wr).alloc (Nat.le_refl _) _).drew) hbw) (Nat.lt_of_lt_of_le hbw (((Below.refl wr.heap.size wr).alloc (Nat.le_refl _) (.cells #[.string a0, .string b0, .string d0] 96)).drew).size)).mono ?_; rintro e w8 hp8; obtain ⟨rfl, hb8⟩ := HIX.out _ _ _ hp8; clear hp8; have HB8 : Hid (Below wr.heap.size wr w8) := Lib.hid ((((Below.refl wr.heap.size wr).alloc (Nat.le_refl _) (.cells #[.string a0, .string b0, .string d0] 96)).drew).trans (hb8.mono (by simp))); have hm8 := HMB.out.later hb8 (by simp); have z0 := hm8.c0; have z1 := hm8.c1; have z2 := hm8.c2; clear hb8 hm8))
        have HB9 := Lib.hid (HB.out.trans (HB8.out.mono HB.out.size))
        go_wp2
        go_ret3
        exact ⟨by rw [HR.out]; rfl, HB9.out⟩
    · obtain rfl : i = ps.length := by omega
      have HR := Lib.hid (HPN.out HNI.out)
      go_wp2
      go_ret3
      exact ⟨by rw [HR.out]; rfl, HB.out⟩
end Go.Proofs.Ytlncehnbdhkaoaa
