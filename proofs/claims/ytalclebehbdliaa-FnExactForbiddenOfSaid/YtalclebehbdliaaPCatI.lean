/-
  The library's Concat of two slices of strings (and Grow of the nil slice): a list in new memory that holds both, one behind the other; nothing that was there before is changed.
-/
import Derived.Test.YtalclebehbdliaaBaseTexts
import Derived.Test.YtalclebehbdliaaMidTexts
import Derived.Lib.AppendZerosOnto
namespace Go.Proofs.Ytalclebehbdliaa
open Go Go.RowKit

theorem grown_nilS {w w' : World} {cap : Nat} {cur : Array Value} {g : Nat} (hg : g = w.heap.size) (hb : w'.heap[g]? = some (.cells cur 9 (0, 0))) (hc : cap ≤ maxLen) (hs : cur.size = cap) : w'.ownsRow w.heap.size 9 1 (.slice (some ⟨g, 0, none⟩) 0 cap) 0 [] :=
  ⟨rfl, Or.inr ⟨g, cap, cur, rfl, by omega, hb, Nat.zero_le _, hc, by omega, by simp⟩⟩

set_option maxRecDepth 100000 in
set_option maxHeartbeats 1600000 in
theorem grow_strs (n : Nat) (hn : n ≤ 1000000) (w : World) :
    Calls Try.prog 83 #[.slice none 0 0, .int .i64 (n : Int)] w (ListPost [] w) := by
  obtain ⟨j0, hj, hy0, hy1, hy2⟩ := info_parts infoStr
  by_cases h0 : n = 0
  · subst h0
    go_enter Try.func83, Try.ntmps83
    go_wp2
    go_ret
    exact ⟨_, rfl, World.ownsRow_nil _ _ _ _, Below.refl _ _⟩
  · have hcap : n ≤ grownCap w n 0 9 := by have := grownCap_ge w (0 + n) 0 9; rw [Nat.zero_add] at this; exact this
    have hmax : grownCap w n 0 9 ≤ maxLen := grownCap_le_maxLen w n 0 9 (by unfold maxLen; omega)
    have hrz : ∀ ty, (Builtin.append_ #[22, 3] ty #[.slice none 0 0, .int .i64 (n : Int)]).run Try.prog w =
        .ok (.slice (some ⟨w.heap.size, 0, none⟩) n (grownCap w n 0 9)) (w.drew.alloc (.cells (#[] ++ Builtin.zeroCells (Value.string ByteArray.empty).cells n ++ Builtin.zeroCells (Value.string ByteArray.empty).cells (grownCap w n 0 9 - n)) 9)) := fun ty => by
      have h := Lib.run_append_grow_zeros (P := Try.prog) w 22 3 ty 9 j0 (.string ByteArray.empty) .i64 .i64 Try.underlying22 Try.underlying3 hj hy0 none 0 0 [] (run_firstCells_none w.drew _ 0 0 0) n (by omega) (by omega) (by omega) (by omega) (by rw [hy2]; omega) (growslice_fits (by omega) (by rw [hy2]; omega))
      rw [Nat.zero_add] at h
      exact h
    have hown : (w.drew.alloc (.cells (#[] ++ Builtin.zeroCells (Value.string ByteArray.empty).cells n ++ Builtin.zeroCells (Value.string ByteArray.empty).cells (grownCap w n 0 9 - n)) 9)).ownsRow w.heap.size 9 1 (.slice (some ⟨w.heap.size, 0, none⟩) 0 (grownCap w n 0 9)) 0 [] :=
      grown_nilS rfl (heap_alloc_new w.drew _) hmax (by have e : (Value.string ByteArray.empty).cells.size = 1 := rfl; simp [Builtin.zeroCells, e]; omega)
    have hbel : Below w.heap.size w (w.drew.alloc (.cells (#[] ++ Builtin.zeroCells (Value.string ByteArray.empty).cells n ++ Builtin.zeroCells (Value.string ByteArray.empty).cells (grownCap w n 0 9 - n)) 9)) := (Below.refl _ _).drew.alloc (Nat.le_refl _) _
    have hc63 : grownCap w n 0 9 ≤ 9223372036854775807 := by unfold maxLen at hmax; omega
    obtain ⟨W1, hW1⟩ : ∃ W1, w.drew.alloc (.cells (#[] ++ Builtin.zeroCells (Value.string ByteArray.empty).cells n ++ Builtin.zeroCells (Value.string ByteArray.empty).cells (grownCap w n 0 9 - n)) 9) = W1 := ⟨_, rfl⟩
    rw [hW1] at hrz hown hbel
    generalize grownCap w n 0 9 = G at *
    have HOW := Lib.hid hown
    have HBE := Lib.hid hbel
    clear hown hbel hW1 hmax
    have h1 : ¬ ((n : Int) < 0) := by omega
    have h4 : (n : Int) > 0 := by omega
    go_enter Try.func83, Try.ntmps83
    go_wp2_with (at_builtin; refine Lib.wpList_append_run _ rfl _ _ _ _ rfl _ _ rfl rfl _ _ (hrz _) ?_)
    all_goals (go_ret; exact ⟨_, rfl, HOW.out, HBE.out⟩)

/-- An append of a list that lies anywhere, or nowhere if it is empty. -/
theorem wpList_append_src {P : Program} {w : World} {ops : Array Oper} {rest : List Oper} {o : Oper} {a : Act} {Q : Exit → Act → World → Prop} (hgd : o.guard = none) (s x : Operand) (t : TypeId)
    (ho : o.op = .call { callee := .builtin .append, args := #[s, x], argTypes := #[t, t] })
    (base : Nat) (e : TypeId) (i : TypeInfo) (z : Value) (bytes : Nat) (ht : P.underlying t = some (.slice e)) (hi : P.info? e = some i) (hz : i.zero = some z)
    (hsize : i.size = 1) (hby : i.bytes = bytes) (hzs : z.cells.size = 1)
    (v : Value) (n : Nat) (xs : List Value) (hs : a.eval s = v) (hown : w.ownsRow base e 1 v n xs)
    (A : Option Addr) (m c : Nat) (news : List Value) (hx : a.eval x = .slice A m c) (hl : news.length = m) (hnews : 0 < m → ∃ ad, A = some ad ∧ ∀ j u, news[j]? = some u → w.cell? (ad.add j) = some u) (h1 : ∀ u ∈ news, u.oneCell' = true)
    (h63 : n + m ≤ maxLen) (hbytes : (n + m) * bytes ≤ 140737488355328) (hbase : base ≤ w.heap.size)
    (h : ∀ v' w', w'.ownsRow base e 1 v' (n + m) (xs ++ news) → w.grownBy w' v.ownBlock → wpList P ops Q rest (a.put o.dst v') w') : wpList P ops Q (o :: rest) a w := by
  by_cases hm : m = 0
  · subst hm
    obtain rfl : news = [] := List.eq_nil_of_length_eq_zero hl
    refine wpList_plain hgd fun K hK => ?_
    have hrun : (Builtin.append_ #[t, t] o.type #[v, .slice A 0 c]).run P w = .ok v w := by
      rcases hown.2 with ⟨rfl, h0⟩ | ⟨g, cap, cur, rfl, _, _, hnc, _⟩
      · cases A with
        | none => simp [Builtin.append_, run_underlying ht, sizeOf, typeInfo, hi, Builtin.lenOf, Builtin.firstCells]
        | some ad => simp [Builtin.append_, run_underlying ht, sizeOf, typeInfo, hi, Builtin.lenOf, Builtin.firstCells, loadCells, loadCellsFrom]
      · exact run_append_zeroG t o.type e i ht hi g n cap hnc A c
    unfold Oper.wp
    simp [execOp, ho, resolve, invoke, builtin, hs, hx, hrun, Result.andThen]
    exact hK _ _ (h v w (by simpa using hown) (World.grownBy.refl _ _))
  · obtain ⟨ad, rfl, hn⟩ := hnews (by omega)
    exact wpList_append_own w hgd s x t ho base e i z 1 bytes ht hi hz hsize hby hzs (by decide) v n xs hs hown ad m c news hx (by omega) hn h1 h63 hbytes hbase fun v' w' h2 h3 _ => h v' w' h2 h3
theorem strsG_news {w : World} {G : Option Addr} {xs : List ByteArray} (h : StrsG w G xs) : 0 < xs.length → ∃ ad, G = some ad ∧ ∀ j u, (xs.map Value.string)[j]? = some u → w.cell? (ad.add j) = some u := fun hp => by
  obtain ⟨b, off, rfl, hs, _⟩ := h hp
  refine ⟨_, rfl, fun j u hu => ?_⟩
  have hj : j < xs.length := by
    by_cases hj : j < xs.length
    · exact hj
    · rw [List.getElem?_eq_none (by simpa using Nat.le_of_not_lt hj)] at hu; cases hu
  have e : (⟨b, off, none⟩ : Addr).add j = ⟨b, off + j, none⟩ := by unfold Addr.add; split <;> simp_all
  rw [e, hs j hj]
  rw [List.getElem?_map, List.getElem?_eq_getElem hj] at hu
  rw [List.getD_eq_getElem?_getD, List.getElem?_eq_getElem hj]
  exact hu
theorem str_one {xs : List ByteArray} : ∀ u ∈ xs.map Value.string, u.oneCell' = true := fun u hu => by
  obtain ⟨x, _, rfl⟩ := List.mem_map.1 hu
  rfl
theorem own_joinedS {w : World} {B : Nat} {v : Value} {xs ys : List ByteArray} {n : Nat} (h : w.ownsRow B 9 1 v n (xs.map Value.string ++ ys.map Value.string)) : w.ownsRow B 9 1 v (xs ++ ys).length ((xs ++ ys).map Value.string) := by
  have hl := h.1
  rw [List.length_append, List.length_map, List.length_map] at hl
  rw [List.length_append, List.map_append, show xs.length + ys.length = n by omega]
  exact h

set_option maxRecDepth 100000 in
set_option maxHeartbeats 1600000 in
theorem concat_strs (g c : Nat) (G1 G2 : Option Addr) (c1 c2 : Nat) (xs ys : List ByteArray) (hx : xs.length ≤ 1000) (hy : ys.length ≤ 1000) (w : World)
    (h1 : w.cell? ⟨g, 0, none⟩ = some (.slice G1 xs.length c1)) (h2 : w.cell? ⟨g, 1, none⟩ = some (.slice G2 ys.length c2)) (hg : g < w.heap.size) (k1 : StrsG w G1 xs) (k2 : StrsG w G2 ys) :
    Calls Try.prog 65 #[.slice (some ⟨g, 0, none⟩) 2 c] w (ListPost (xs ++ ys) w) := by
  obtain ⟨j0, hj, hy0, hy1, hy2⟩ := info_parts infoStr
  have HGR := Lib.hid (grow_strs (xs.length + ys.length) (by omega) w)
  have HC : Hid (∀ w', Below w.heap.size w w' → w'.cell? ⟨g, 0, none⟩ = some (.slice G1 xs.length c1) ∧ w'.cell? ⟨g, 1, none⟩ = some (.slice G2 ys.length c2)) := Lib.hid fun w' hb => ⟨(hb.cell (p := ⟨g, 0, none⟩) hg).trans h1, (hb.cell (p := ⟨g, 1, none⟩) hg).trans h2⟩
  have HX : Hid (∀ w', Below w.heap.size w w' → 0 < xs.length → ∃ ad, G1 = some ad ∧ ∀ j u, (xs.map Value.string)[j]? = some u → w'.cell? (ad.add j) = some u) := Lib.hid fun w' hb => strsG_news (k1.below hb)
  have HY : Hid (∀ w', Below w.heap.size w w' → 0 < ys.length → ∃ ad, G2 = some ad ∧ ∀ j u, (ys.map Value.string)[j]? = some u → w'.cell? (ad.add j) = some u) := Lib.hid fun w' hb => strsG_news (k2.below hb)
  clear k1 k2 hg
  obtain ⟨lx, hlx⟩ : ∃ n, xs.length = n := ⟨_, rfl⟩
  obtain ⟨ly, hly⟩ : ∃ n, ys.length = n := ⟨_, rfl⟩
  have HLX := Lib.hid hlx
  have HLY := Lib.hid hly
  rw [hlx] at h1 HC hx HX
  rw [hly] at h2 HC hy HY
  rw [hlx, hly] at HGR
  clear hlx hly
  go_enter Try.func65, Try.ntmps65
  go_wp2
  go_loopw [3, 11] (fun s i wr => ∃ k : Nat, k ≤ 2 ∧ i = .int .i64 k ∧ s = .int .i64 (if k = 0 then 0 else if k = 1 then (lx : Int) else ((lx + ly : Nat) : Int)) ∧ wr = w) (fun _ i _ => 2 - (intOf i).toNat)
  case atStart => exact ⟨0, by omega, rfl, rfl, rfl⟩
  case round =>
    obtain ⟨k, hk, rfl, rfl, rfl⟩ := hrel
    have h3 : k = 0 ∨ k = 1 ∨ k = 2 := by omega
    rcases h3 with rfl | rfl | rfl
    · rw [if_pos rfl]
      go_wp2
      go_roundw
      case rel => exact ⟨1, by omega, rfl, by simp, trivial⟩
      case measure => simp [intOf]
    · rw [if_neg (by decide), if_pos rfl]
      go_wp2
      go_roundw
      case rel => exact ⟨2, by omega, rfl, by simp, trivial⟩
      case measure => simp [intOf]
    · rw [if_neg (by decide), if_neg (by decide)]
      obtain ⟨W0, rfl⟩ : ∃ W0 : World, W0 = wr := ⟨_, rfl⟩
      clear h1 h2
      go_wp2_with fail
      refine HGR.out.mono ?_
      rintro e w1 ⟨v1, rfl, ho1, hb1⟩
      have HO1 : Hid (w1.ownsRow W0.heap.size 9 1 v1 0 []) := Lib.hid ho1
      have HB1 := Lib.hid hb1
      clear ho1 hb1 HGR
      go_wp2
      go_loopw [6, 27] (fun v i w2 => ∃ k : Nat, k ≤ 2 ∧ i = .int .i64 k ∧ Hid (w2.ownsRow W0.heap.size 9 1 v (if k = 0 then [] else if k = 1 then xs else xs ++ ys).length ((if k = 0 then [] else if k = 1 then xs else xs ++ ys).map Value.string)) ∧ Hid (Below W0.heap.size W0 w2)) (fun _ i _ => 2 - (intOf i).toNat)
      case atStart => exact ⟨0, by omega, rfl, HO1, HB1⟩
      case round =>
        obtain ⟨k, hk, rfl, ho, hb⟩ := hrel
        have h3 : k = 0 ∨ k = 1 ∨ k = 2 := by omega
        obtain ⟨hc1, hc2⟩ := HC.out _ hb.out
        have hs := hb.out.size
        rcases h3 with rfl | rfl | rfl
        · rw [if_pos rfl] at ho
          go_wp2_with (at_builtin; refine wpList_append_src rfl (.tmp 31) (.tmp 32) 22 rfl W0.heap.size 9 j0 (.string ByteArray.empty) 16 Try.underlying22 hj hy0 hy1 hy2 rfl _ _ _ rfl ho.out G1 lx c1 (xs.map Value.string) rfl (by rw [List.length_map, HLX.out]) (HX.out _ hb.out) str_one (by unfold maxLen; simp; omega) (by simp; omega) hs ?_; intro v3 w3 ho3 hg3; have HO3 := Lib.hid (own_joinedS (xs := []) ho3); have HB3 := Lib.hid (hb.out.grown hg3 hs (fun q hq => (World.ownsRow.lt ho.out q hq).1)); clear ho3 hg3)
          go_roundw
          case rel => exact ⟨1, by omega, rfl, by rw [if_neg (by decide), if_pos rfl]; exact HO3, HB3⟩
          case measure => simp [intOf]
        · rw [if_neg (by decide), if_pos rfl] at ho
          go_wp2_with (at_builtin; refine wpList_append_src rfl (.tmp 31) (.tmp 32) 22 rfl W0.heap.size 9 j0 (.string ByteArray.empty) 16 Try.underlying22 hj hy0 hy1 hy2 rfl _ _ _ rfl ho.out G2 ly c2 (ys.map Value.string) rfl (by rw [List.length_map, HLY.out]) (HY.out _ hb.out) str_one (by rw [HLX.out]; unfold maxLen; omega) (by rw [HLX.out]; omega) hs ?_; intro v3 w3 ho3 hg3; have HO3 := Lib.hid (own_joinedS ho3); have HB3 := Lib.hid (hb.out.grown hg3 hs (fun q hq => (World.ownsRow.lt ho.out q hq).1)); clear ho3 hg3)
          go_roundw
          case rel => exact ⟨2, by omega, rfl, by rw [if_neg (by decide), if_neg (by decide)]; exact HO3, HB3⟩
          case measure => simp [intOf]
        · rw [if_neg (by decide), if_neg (by decide)] at ho
          go_wp2
          go_ret
          exact ⟨_, rfl, ho.out, hb.out⟩
end Go.Proofs.Ytalclebehbdliaa
