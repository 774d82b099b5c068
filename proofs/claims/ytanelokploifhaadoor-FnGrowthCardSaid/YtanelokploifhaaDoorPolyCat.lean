/-
  The library's Concat of two slices of numbers (and Grow of the nil slice): a list in new memory that holds both, one behind the other; nothing that was there before is changed.
-/
import Derived.Test.YtanelokploifhaaDoorPolySums
import Derived.Test.YtanelokploifhaaDoorModelTexts
import Derived.Lib.AppendZerosOnto
namespace Go.Proofs.YtanelokploifhaaDoor
open Go Go.RowKit

theorem grown_nil {w w' : World} {cap : Nat} {cur : Array Value} {g : Nat} (hg : g = w.heap.size) (hb : w'.heap[g]? = some (.cells cur 3 (0, 0))) (hc : cap ≤ maxLen) (hs : cur.size = cap) : w'.ownsRow w.heap.size 3 1 (.slice (some ⟨g, 0, none⟩) 0 cap) 0 [] :=
  ⟨rfl, Or.inr ⟨g, cap, cur, rfl, by omega, hb, Nat.zero_le _, hc, by omega, by simp⟩⟩

set_option maxRecDepth 100000 in
set_option maxHeartbeats 1600000 in
theorem impl_grow (n : Nat) (hn : n ≤ 1000000) (w : World) :
    Calls Tryd.prog 89 #[.slice none 0 0, .int .i64 (n : Int)] w (NewA [] w) := by
  obtain ⟨j0, hj, hy0, hy1, hy2⟩ := info_parts infoInt
  by_cases h0 : n = 0
  · subst h0
    go_enter Tryd.func89, Tryd.ntmps89
    go_wp2
    go_ret
    exact ⟨_, rfl, World.ownsRow_nil _ _ _ _, Below.refl _ _⟩
  · have hcap : n ≤ grownCap w n 0 3 := by have := grownCap_ge w (0 + n) 0 3; rw [Nat.zero_add] at this; exact this
    have hmax : grownCap w n 0 3 ≤ maxLen := grownCap_le_maxLen w n 0 3 (by unfold maxLen; omega)
    have hrz : ∀ ty, (Builtin.append_ #[48, 3] ty #[.slice none 0 0, .int .i64 (n : Int)]).run Tryd.prog w =
        .ok (.slice (some ⟨w.heap.size, 0, none⟩) n (grownCap w n 0 3)) (w.drew.alloc (.cells (#[] ++ Builtin.zeroCells (Value.int .i64 0).cells n ++ Builtin.zeroCells (Value.int .i64 0).cells (grownCap w n 0 3 - n)) 3)) := fun ty => by
      have h := Lib.run_append_grow_zeros (P := Tryd.prog) w 48 3 ty 3 j0 (.int .i64 0) .i64 .i64 Tryd.underlying48 Tryd.underlying3 hj hy0 none 0 0 [] (run_firstCells_none w.drew _ 0 0 0) n (by omega) (by omega) (by omega) (by omega) (by rw [hy2]; omega) (growslice_fits (by omega) (by rw [hy2]; omega))
      rw [Nat.zero_add] at h
      exact h
    have hown : (w.drew.alloc (.cells (#[] ++ Builtin.zeroCells (Value.int .i64 0).cells n ++ Builtin.zeroCells (Value.int .i64 0).cells (grownCap w n 0 3 - n)) 3)).ownsRow w.heap.size 3 1 (.slice (some ⟨w.heap.size, 0, none⟩) 0 (grownCap w n 0 3)) 0 [] :=
      grown_nil rfl (heap_alloc_new w.drew _) hmax (by have e : (Value.int .i64 0).cells.size = 1 := rfl; simp [Builtin.zeroCells, e]; omega)
    have hbel : Below w.heap.size w (w.drew.alloc (.cells (#[] ++ Builtin.zeroCells (Value.int .i64 0).cells n ++ Builtin.zeroCells (Value.int .i64 0).cells (grownCap w n 0 3 - n)) 3)) := (Below.refl _ _).drew.alloc (Nat.le_refl _) _
    have hc63 : grownCap w n 0 3 ≤ 9223372036854775807 := by unfold maxLen at hmax; omega
    obtain ⟨W1, hW1⟩ : ∃ W1, w.drew.alloc (.cells (#[] ++ Builtin.zeroCells (Value.int .i64 0).cells n ++ Builtin.zeroCells (Value.int .i64 0).cells (grownCap w n 0 3 - n)) 3) = W1 := ⟨_, rfl⟩
    rw [hW1] at hrz hown hbel
    generalize grownCap w n 0 3 = G at *
    have HOW := Lib.hid hown
    have HBE := Lib.hid hbel
    clear hown hbel hW1 hmax
    have h1 : ¬ ((n : Int) < 0) := by omega
    have h4 : (n : Int) > 0 := by omega
    go_enter Tryd.func89, Tryd.ntmps89
    go_wp2_with (at_builtin; refine Lib.wpList_append_run _ rfl _ _ _ _ rfl _ _ rfl rfl _ _ (hrz _) ?_)
    all_goals (go_ret; exact ⟨_, rfl, HOW.out, HBE.out⟩)

theorem ints_news {w : World} {b off : Nat} {xs : List Int} (h : IntsAt w b off xs) : ∀ j u, (xs.map (Value.int .i64))[j]? = some u → w.cell? ((⟨b, off, none⟩ : Addr).add j) = some u := by
  have h1 := ints_part h 0 xs.length
  rwa [List.drop_zero, List.take_length, Nat.add_zero] at h1
theorem own_joined {w : World} {B : Nat} {v : Value} {xs ys : List Int} {n : Nat} (h : w.ownsRow B 3 1 v n (xs.map (Value.int .i64) ++ ys.map (Value.int .i64))) : OwnA w B v (xs ++ ys) := by
  have hl := h.1
  rw [List.length_append, List.length_map, List.length_map] at hl
  unfold OwnA
  rw [List.length_append, List.map_append, show xs.length + ys.length = n by omega]
  exact h

set_option maxRecDepth 100000 in
set_option maxHeartbeats 1600000 in
theorem concat_two (g c : Nat) (b1 o1 c1 b2 o2 c2 : Nat) (xs ys : List Int) (hx : xs.length ≤ 1000) (hy : ys.length ≤ 1000) (w : World)
    (h1 : w.cell? ⟨g, 0, none⟩ = some (.slice (some ⟨b1, o1, none⟩) xs.length c1)) (h2 : w.cell? ⟨g, 1, none⟩ = some (.slice (some ⟨b2, o2, none⟩) ys.length c2)) (hg : g < w.heap.size)
    (k1 : IntsAt w b1 o1 xs) (k2 : IntsAt w b2 o2 ys) (hb1 : b1 < w.heap.size) (hb2 : b2 < w.heap.size) :
    Calls Tryd.prog 81 #[.slice (some ⟨g, 0, none⟩) 2 c] w (NewA (xs ++ ys) w) := by
  obtain ⟨j0, hj, hy0, hy1, hy2⟩ := info_parts infoInt
  have HGR := Lib.hid (impl_grow (xs.length + ys.length) (by omega) w)
  have HC : Hid (∀ w', Below w.heap.size w w' → w'.cell? ⟨g, 0, none⟩ = some (.slice (some ⟨b1, o1, none⟩) xs.length c1) ∧ w'.cell? ⟨g, 1, none⟩ = some (.slice (some ⟨b2, o2, none⟩) ys.length c2)) := Lib.hid fun w' hb => ⟨(hb.cell (p := ⟨g, 0, none⟩) hg).trans h1, (hb.cell (p := ⟨g, 1, none⟩) hg).trans h2⟩
  have HX : Hid (∀ w', Below w.heap.size w w' → ∀ j u, (xs.map (Value.int .i64))[j]? = some u → w'.cell? ((⟨b1, o1, none⟩ : Addr).add j) = some u) := Lib.hid fun w' hb => ints_news (k1.below hb hb1)
  have HY : Hid (∀ w', Below w.heap.size w w' → ∀ j u, (ys.map (Value.int .i64))[j]? = some u → w'.cell? ((⟨b2, o2, none⟩ : Addr).add j) = some u) := Lib.hid fun w' hb => ints_news (k2.below hb hb2)
  clear k1 k2 hg hb1 hb2
  obtain ⟨lx, hlx⟩ : ∃ n, xs.length = n := ⟨_, rfl⟩
  obtain ⟨ly, hly⟩ : ∃ n, ys.length = n := ⟨_, rfl⟩
  have HLX := Lib.hid hlx
  have HLY := Lib.hid hly
  rw [hlx] at h1 HC hx
  rw [hly] at h2 HC hy
  rw [hlx, hly] at HGR
  clear hlx hly
  go_enter Tryd.func81, Tryd.ntmps81
  go_wp2
  go_loopw [3, 11] (fun s i wr => ∃ k : Nat, k ≤ 2 ∧ i = .int .i64 k ∧ s = .int .i64 (if k = 0 then 0 else if k = 1 then (lx : Int) else ((lx + ly : Nat) : Int)) ∧ wr = w) (fun _ i _ => 2 - (intOf i).toNat)
  case atStart => exact ⟨0, by omega, rfl, rfl, rfl⟩
  case round =>
    obtain ⟨k, hk, rfl, rfl, rfl⟩ := hrel
    have h3 : k = 0 ∨ k = 1 ∨ k = 2 := by omega
    rcases h3 with rfl | rfl | rfl
    · rw [if_pos rfl]
      go_wp2
      go_roundw
      case rel => exact ⟨1, by omega, rfl, by simp, trivial⟩
      case measure => simp [intOf]
    · rw [if_neg (by decide), if_pos rfl]
      go_wp2
      go_roundw
      case rel => exact ⟨2, by omega, rfl, by simp, trivial⟩
      case measure => simp [intOf]
    · rw [if_neg (by decide), if_neg (by decide)]
      obtain ⟨W0, rfl⟩ : ∃ W0 : World, W0 = wr := ⟨_, rfl⟩
      clear h1 h2
      go_wp2_with fail
      refine HGR.out.mono ?_
      rintro e w1 ⟨v1, rfl, ho1, hb1⟩
      have HO1 : Hid (w1.ownsRow W0.heap.size 3 1 v1 0 []) := Lib.hid ho1
      have HB1 := Lib.hid hb1
      clear ho1 hb1 HGR
      go_wp2
      go_loopw [6, 27] (fun v i w2 => ∃ k : Nat, k ≤ 2 ∧ i = .int .i64 k ∧ Hid (OwnA w2 W0.heap.size v (if k = 0 then [] else if k = 1 then xs else xs ++ ys)) ∧ Hid (Below W0.heap.size W0 w2)) (fun _ i _ => 2 - (intOf i).toNat)
      case atStart => exact ⟨0, by omega, rfl, HO1, HB1⟩
      case round =>
        obtain ⟨k, hk, rfl, ho, hb⟩ := hrel
        have h3 : k = 0 ∨ k = 1 ∨ k = 2 := by omega
        obtain ⟨hc1, hc2⟩ := HC.out _ hb.out
        have hs := hb.out.size
        rcases h3 with rfl | rfl | rfl
        · rw [if_pos rfl] at ho
          go_wp2_with (at_builtin; refine wpList_append_own _ rfl (.tmp 31) (.tmp 32) 48 rfl W0.heap.size 3 j0 (.int .i64 0) 1 8 Tryd.underlying48 hj hy0 hy1 hy2 rfl (by decide) _ _ _ rfl ho.out ⟨b1, o1, none⟩ lx c1 (xs.map (.int .i64)) rfl (by rw [List.length_map, HLX.out]; omega) (HX.out _ hb.out) (nums_one _) (by unfold maxLen; simp; omega) (by simp; omega) hs ?_; intro v3 w3 ho3 hg3 _; have HO3 : Hid (OwnA w3 W0.heap.size v3 xs) := Lib.hid (own_joined (xs := []) ho3); have HB3 := Lib.hid (hb.out.grown hg3 hs (fun q hq => (World.ownsRow.lt ho.out q hq).1)); clear ho3 hg3)
          go_roundw
          case rel => exact ⟨1, by omega, rfl, by rw [if_neg (by decide), if_pos rfl]; exact HO3, HB3⟩
          case measure => simp [intOf]
        · rw [if_neg (by decide), if_pos rfl] at ho
          go_wp2_with (at_builtin; refine wpList_append_own _ rfl (.tmp 31) (.tmp 32) 48 rfl W0.heap.size 3 j0 (.int .i64 0) 1 8 Tryd.underlying48 hj hy0 hy1 hy2 rfl (by decide) _ _ _ rfl ho.out ⟨b2, o2, none⟩ ly c2 (ys.map (.int .i64)) rfl (by rw [List.length_map, HLY.out]; omega) (HY.out _ hb.out) (nums_one _) (by rw [HLX.out]; unfold maxLen; omega) (by rw [HLX.out]; omega) hs ?_; intro v3 w3 ho3 hg3 _; have HO3 : Hid (OwnA w3 W0.heap.size v3 (xs ++ ys)) := Lib.hid (own_joined ho3); have HB3 := Lib.hid (hb.out.grown hg3 hs (fun q hq => (World.ownsRow.lt ho.out q hq).1)); clear ho3 hg3)
          go_roundw
          case rel => exact ⟨2, by omega, rfl, by rw [if_neg (by decide), if_neg (by decide)]; exact HO3, HB3⟩
          case measure => simp [intOf]
        · rw [if_neg (by decide), if_neg (by decide)] at ho
          go_wp2
          go_ret
          exact ⟨_, rfl, ho.out, hb.out⟩
end Go.Proofs.YtanelokploifhaaDoor
