/-
  CodeText: the model's and the program's, at every code: as the plain words say; nothing that was there before is changed.
-/
import Derived.Test.YtogmmjiajajinaaDoorCodeTextNum
import Derived.Test.YtogmmjiajajinaaDoorCodeSpec
import Derived.Test.YtogmmjiajajinaaDoorCodeI
import Derived.Test.YtogmmjiajajinaaDoorFmt
import Derived.Test.YtogmmjiajajinaaDoorJoinLaw
namespace Go.Proofs.YtogmmjiajajinaaDoor
open Go Go.RowKit

theorem strs_of {W : World} {g : Nat} {a b c : ByteArray} (h : W.heap[g]? = some (.cells #[.string a, .string b, .string c] 9 (0, 0))) : StrsAt W g 0 [a, b, c] := by
  intro k hk
  have hk3 : k < 3 := hk
  have e : k = 0 ∨ k = 1 ∨ k = 2 := by omega
  rcases e with rfl | rfl | rfl <;> simp [World.cell?, h]
theorem strs_three (w : World) (a b c : ByteArray) : StrsAt (w.alloc (.cells #[.string a, .string b, .string c] 9)) w.heap.size 0 [a, b, c] := strs_of (heap_alloc_new w _)

set_option maxRecDepth 100000 in
set_option maxHeartbeats 1600000 in
theorem spec_codeText (K N : Int) (o : ByteArray) (ho : o.size ≤ 1048576) (w : World) :
    Calls Tryd.prog 6 #[.agg #[.int .i64 K, .int .i64 N, .string o]] w (Says (.string (textC K N o)) w) := by
  have hk := codeIn_new w K N o
  have HK := Lib.hid hk
  have c0 := hk.c0
  have c1 := hk.c1
  have c2 := hk.c2
  have HB0 := Lib.hid ((Below.refl w.heap.size w).alloc (Nat.le_refl _) (.cells #[.int .i64 K, .int .i64 N, .string o] 26))
  have HI := Lib.hid (spec_isCode K N o (by omega))
  clear hk
  cases h1 : isCodeB K N o with
  | false =>
    rw [h1] at HI
    have HV := Lib.hid (textC_no h1)
    clear h1
    go_enter Tryd.func6, Tryd.ntmps6
    go_wp2_with fail
    refine (HI.out _).mono ?_
    rintro e w1 ⟨rfl, hb1⟩
    have HB1 := Lib.hid (HB0.out.trans (hb1.mono HB0.out.size))
    clear hb1
    go_wp2
    go_ret
    exact ⟨by rw [HV.out]; rfl, HB1.out⟩
  | true =>
    rw [h1] at HI
    obtain ⟨k, n, rfl, rfl, ok⟩ := codeOk_of h1
    have HV := Lib.hid (textC_yes h1)
    have hk3 := ok.k3
    have hn4 := ok.n4
    have ha := itoaB_size (n := (k : Int)) (by omega) (by omega)
    have hb := itoaB_size (n := (n : Int)) (by omega) (by omega)
    have HFk : Hid (∀ w', Below w.heap.size w w' → Calls Tryd.prog 13 #[.int .i64 (k : Int)] w' (Says (.string (itoaB (k : Int))) w')) := Lib.hid fun w' h => spec_fmt (k : Int) (by omega) (by omega) w'
    have HFn : Hid (∀ w', Below w.heap.size w w' → Calls Tryd.prog 13 #[.int .i64 (n : Int)] w' (Says (.string (itoaB (n : Int))) w')) := Lib.hid fun w' h => spec_fmt (n : Int) (by omega) (by omega) w'
    generalize itoaB (k : Int) = a at *
    generalize itoaB (n : Int) = b at *
    have x1 : ∀ w, (Op.stringOp .add a ⟨#[32]⟩).run Tryd.prog w = .ok (.string (a ++ ⟨#[32]⟩)) w := fun w => run_string_add_sum w _ _ (by show a.size + 1 ≤ _; omega)
    have x2 : ∀ w, (Op.stringOp .add (a ++ ⟨#[32]⟩) b).run Tryd.prog w = .ok (.string (a ++ ⟨#[32]⟩ ++ b)) w := fun w => run_string_add_sum w _ _ (by rw [ByteArray.size_append]; show a.size + 1 + b.size ≤ _; omega)
    have x3 : ∀ w, (Op.stringOp .add (a ++ ⟨#[32]⟩ ++ b) ⟨#[32]⟩).run Tryd.prog w = .ok (.string (a ++ ⟨#[32]⟩ ++ b ++ ⟨#[32]⟩)) w := fun w => run_string_add_sum w _ _ (by rw [ByteArray.size_append, ByteArray.size_append]; show a.size + 1 + b.size + 1 ≤ _; omega)
    have x4 : ∀ w, (Op.stringOp .add (a ++ ⟨#[32]⟩ ++ b ++ ⟨#[32]⟩) o).run Tryd.prog w = .ok (.string (a ++ ⟨#[32]⟩ ++ b ++ ⟨#[32]⟩ ++ o)) w := fun w => run_string_add_sum w _ _ (by rw [ByteArray.size_append, ByteArray.size_append, ByteArray.size_append]; show a.size + 1 + b.size + 1 + o.size ≤ _; omega)
    clear h1 ok
    go_enter Tryd.func6, Tryd.ntmps6
    go_wp2_with fail
    refine (HI.out _).mono ?_
    rintro e w1 ⟨rfl, hb1⟩
    have HB1 := Lib.hid (HB0.out.trans (hb1.mono HB0.out.size))
    have HC1 := Lib.hid (HK.out.below hb1)
    clear hb1 c0 c1 c2
    have s0 : _ ∧ _ ∧ _ := ⟨HC1.out.c0, HC1.out.c1, HC1.out.c2⟩
    obtain ⟨c0, c1, c2⟩ := s0
    go_wp2
    go_region_held3 (fun w' => w'.cell? ⟨w.heap.size, 0, none⟩ = some (.int .i64 (k : Int)) ∧ w'.cell? ⟨w.heap.size, 1, none⟩ = some (.int .i64 (n : Int)) ∧ w'.cell? ⟨w.heap.size, 2, none⟩ = some (.string o)) (first | exact ⟨c0, c1, c2⟩ | exact ⟨HC5.out.c0, HC5.out.c1, HC5.out.c2⟩ | exact ⟨(HC5.out.below ((Below.refl _ _).alloc (Nat.le_refl _) _)).c0, (HC5.out.below ((Below.refl _ _).alloc (Nat.le_refl _) _)).c1, (HC5.out.below ((Below.refl _ _).alloc (Nat.le_refl _) _)).c2⟩ | exact ⟨HC4.out.c0, HC4.out.c1, HC4.out.c2⟩ | exact ⟨HC3.out.c0, HC3.out.c1, HC3.out.c2⟩ | go_keep) (first | (go_at_call 13; refine (HFk.out _ (drewN_below HB1.out 1)).mono ?_; rintro e w3 ⟨rfl, hb3⟩; have HX3 : Hid (Below w1.heap.size w1 w3) := Lib.hid ((drewN_below (Below.refl _ _) 1).trans hb3); have HB3 := Lib.hid (HB1.out.trans (HX3.out.mono HB1.out.size)); have HC3 := Lib.hid (HC1.out.below HX3.out); clear hb3 HFk) | (go_at_call 13; refine (HFn.out _ HB3.out).mono ?_; rintro e w4 ⟨rfl, hb4⟩; have HB4 := Lib.hid (HB3.out.trans (hb4.mono HB3.out.size)); have HC4 := Lib.hid (HC3.out.below hb4); clear hb4 HFn))
    go_wp2
    go_ret
    exact ⟨by simp [HV.out, spB], HB4.out⟩

set_option maxRecDepth 100000 in
set_option maxHeartbeats 1600000 in
theorem impl_codeText (K N : Int) (o : ByteArray) (ho : o.size ≤ 1048576) (w : World) (hpw : Pow w) :
    Calls Tryd.prog 8 #[.agg #[.int .i64 K, .int .i64 N, .string o]] w (Says (.string (textC K N o)) w) := by
  have hk := codeIn_new w K N o
  have HK := Lib.hid hk
  have c0 := hk.c0
  have c1 := hk.c1
  have c2 := hk.c2
  have HB0 := Lib.hid ((Below.refl w.heap.size w).alloc (Nat.le_refl _) (.cells #[.int .i64 K, .int .i64 N, .string o] 26))
  have HI := Lib.hid (impl_isCode K N o (by omega))
  clear hk
  cases h1 : isCodeB K N o with
  | false =>
    rw [h1] at HI
    have HV := Lib.hid (textC_no h1)
    clear h1 hpw
    go_enter Tryd.func8, Tryd.ntmps8
    go_wp2_with fail
    refine (HI.out _).mono ?_
    rintro e w1 ⟨rfl, hb1⟩
    have HB1 := Lib.hid (HB0.out.trans (hb1.mono HB0.out.size))
    clear hb1
    go_wp2
    go_ret
    exact ⟨by rw [HV.out]; rfl, HB1.out⟩
  | true =>
    rw [h1] at HI
    obtain ⟨k, n, rfl, rfl, ok⟩ := codeOk_of h1
    have HV := Lib.hid (textC_yes h1)
    have hk3 := ok.k3
    have hn4 := ok.n4
    have ha := itoaB_size (n := (k : Int)) (by omega) (by omega)
    have hb := itoaB_size (n := (n : Int)) (by omega) (by omega)
    have HFk : Hid (∀ w', Below w.heap.size w w' → Calls Tryd.prog 16 #[.int .i64 (k : Int)] w' (Says (.string (itoaB (k : Int))) w')) := Lib.hid fun w' h => impl_fmt (k : Int) (by omega) (by omega) w' (hpw.below h)
    have HFn : Hid (∀ w', Below w.heap.size w w' → Calls Tryd.prog 16 #[.int .i64 (n : Int)] w' (Says (.string (itoaB (n : Int))) w')) := Lib.hid fun w' h => impl_fmt (n : Int) (by omega) (by omega) w' (hpw.below h)
    generalize itoaB (k : Int) = a at *
    generalize itoaB (n : Int) = b at *
    have HJ : Hid (∀ g W, StrsAt W g 0 [a, b, o] → g < W.heap.size → Calls Tryd.prog 15 #[.slice (some ⟨g, 0, none⟩) 3 3, .string ⟨#[32]⟩] W (Says (.string (a ++ spB ++ b ++ spB ++ o)) W)) := Lib.hid fun g W h1 h2 => by
      have h := impl_join g 0 3 [a, b, o] spB (by simp) (by simp) (by rw [show spB.size = 1 from rfl]; simp [total]; omega) W h1 h2
      unfold StrPost at h
      rw [join_three] at h
      exact h
    clear h1 ok hpw
    go_enter Tryd.func8, Tryd.ntmps8
    go_wp2_with fail
    refine (HI.out _).mono ?_
    rintro e w1 ⟨rfl, hb1⟩
    have HB1 := Lib.hid (HB0.out.trans (hb1.mono HB0.out.size))
    have HC1 := Lib.hid (HK.out.below hb1)
    clear hb1 c0 c1 c2
    have s0 : _ ∧ _ ∧ _ := ⟨HC1.out.c0, HC1.out.c1, HC1.out.c2⟩
    obtain ⟨c0, c1, c2⟩ := s0
    go_wp2
    go_region_held3 (fun w' => w'.cell? ⟨w.heap.size, 0, none⟩ = some (.int .i64 (k : Int)) ∧ w'.cell? ⟨w.heap.size, 1, none⟩ = some (.int .i64 (n : Int)) ∧ w'.cell? ⟨w.heap.size, 2, none⟩ = some (.string o)) (first | exact ⟨c0, c1, c2⟩ | exact ⟨HC5.out.c0, HC5.out.c1, HC5.out.c2⟩ | exact ⟨(HC5.out.below ((Below.refl _ _).alloc (Nat.le_refl _) _)).c0, (HC5.out.below ((Below.refl _ _).alloc (Nat.le_refl _) _)).c1, (HC5.out.below ((Below.refl _ _).alloc (Nat.le_refl _) _)).c2⟩ | exact ⟨HC4.out.c0, HC4.out.c1, HC4.out.c2⟩ | exact ⟨HC3.out.c0, HC3.out.c1, HC3.out.c2⟩ | go_keep) (first | (go_at_call 16; refine (HFk.out _ (drewN_below HB1.out 1)).mono ?_; rintro e w3 ⟨rfl, hb3⟩; have HX3 : Hid (Below w1.heap.size w1 w3) := Lib.hid ((drewN_below (Below.refl _ _) 1).trans hb3); have HB3 := Lib.hid (HB1.out.trans (HX3.out.mono HB1.out.size)); have HC3 := Lib.hid (HC1.out.below HX3.out); clear hb3 HFk) | (go_at_call 16; refine (HFn.out _ HB3.out).mono ?_; rintro e w4 ⟨rfl, hb4⟩; have HB4 := Lib.hid (HB3.out.trans (hb4.mono HB3.out.size)); have HC4 := Lib.hid (HC3.out.below hb4); clear hb4 HFn)| (go_at_call 15; refine (HJ.out _ _ (strs_three w4 a b o) (by simp)).mono ?_; rintro e w5 ⟨rfl, hb5⟩; have HB5 := Lib.hid ((HB4.out.alloc HB4.out.size _).trans (hb5.mono (by have := HB4.out.size; simp; omega))); have HC5 := Lib.hid ((HC4.out.below ((Below.refl _ _).alloc (Nat.le_refl _) _)).below hb5); clear hb5))
    go_wp2
    go_ret
    exact ⟨by simp [HV.out, spB], HB5.out⟩
end Go.Proofs.YtogmmjiajajinaaDoor
