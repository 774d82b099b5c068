/-
  The model's completion of a word to its least source: as the plain words say; nothing that was there before is changed.
-/
import Derived.Test.YtlncehnbdhkaoaaFirstSpec0
namespace Go.Proofs.Ytlncehnbdhkaoaa
open Go Go.RowKit

theorem first_next {k n d x : Nat} {o w v : ByteArray} (h : badF k n o w v = false) (hk : x < k) (h0 : ∀ y, y < x → firstW k n o w d (v ++ letterB y) = none) :
    ∃ (s : ByteArray) (b : Bool), optS (firstW k n o w d (v ++ letterB x)) = s ∧ (firstW k n o w d (v ++ letterB x)).isSome = b ∧ (b = false → ∀ y, y < x + 1 → firstW k n o w d (v ++ letterB y) = none) ∧ (b = true → firstW k n o w (d + 1) v = some s) := by
  cases hr : firstW k n o w d (v ++ letterB x) with
  | none =>
    refine ⟨_, _, rfl, rfl, fun _ y hy => ?_, fun e => by cases e⟩
    by_cases e : y = x
    · subst e; exact hr
    · exact h0 y (by omega)
  | some r => exact ⟨_, _, rfl, rfl, fun e => (by cases e), fun _ => firstW_some h hk h0 hr⟩

def FirstAt (k n : Nat) (o w : ByteArray) (d : Nat) (v : ByteArray) (W : World) : Prop :=
    Calls Try.prog 41 #[.agg #[.int .i64 (k : Int), .int .i64 (n : Int), .string o], .string w, .string v] W (Says (.tuple #[.string (optS (firstW k n o w d v)), .bool (firstW k n o w d v).isSome]) W)
set_option maxRecDepth 100000 in
set_option maxHeartbeats 3200000 in
theorem first_zero (k n : Nat) (o w : ByteArray) (ok : CodeOk k n o) (hw : w.size ≤ 16) (v : ByteArray) (W : World) (hd : v.size + 0 = w.size + (n - 1)) (ha : allL (k : Int) v = true) : FirstAt k n o w 0 v W := by
  unfold FirstAt
  have n1 := ok.n1
  have n4 := ok.n4
  have k3 := ok.k3
  have HA := Lib.hid ha
  have HD := Lib.hid hd
  have HK := Lib.hid (codeIn_new W (k : Int) (n : Int) o)
  have c0 := HK.out.c0
  have c1 := HK.out.c1
  have c2 := HK.out.c2
  have HB0 := Lib.hid ((Below.refl W.heap.size W).alloc (Nat.le_refl _) (.cells #[.int .i64 (k : Int), .int .i64 (n : Int), .string o] 25))
  have hv : v.size ≤ 30 := by omega

  have e5 : wrap64 ((w.size : Int) + (n : Int)) = (w.size : Int) + (n : Int) := small_wrap (by omega)
  have e6 : wrap64 ((w.size : Int) + (n : Int) - 1) = (w.size : Int) + (n : Int) - 1 := small_wrap (by omega)
  have g5 : ((v.size : Int) == (w.size : Int) + (n : Int) - 1) = true := by rw [beq_iff_eq]; omega
  by_cases hn : n ≤ v.size
  · obtain ⟨a, hA⟩ : ∃ a, v.size - n = a := ⟨_, rfl⟩
    have hAI : (v.size : Int) - (n : Int) = (a : Int) := by omega
    have hx : v.extract a v.size = v.extract a (a + n) := by rw [show a + n = v.size by omega]
    have HL := Lib.hid (fun w' => spec_letter k n o (v.extract a v.size) ok (by rw [hx]; exact cut_size (by omega)) (extract_all ha _ _) w')
    have g0 : (n : Int) ≤ (v.size : Int) := by omega
    have g1 : (0 : Int) ≤ (a : Int) := by omega
    have g2 : (a : Int) ≤ (v.size : Int) := by omega
    have g3 : (a : Int) ≤ (a : Int) + 1 := by omega
    have g4 : (a : Int) + 1 ≤ (w.size : Int) := by omega
    have ha30 : (0 : Int) ≤ (a : Int) ∧ (a : Int) ≤ 1000 := by omega
    have HBAD : Hid (badF k n o w v = !((oneB (letterC k o (v.extract a v.size))).toList == (w.extract a (a + 1)).toList)) := Lib.hid (by unfold badF; rw [decide_eq_true hn, hA]; rfl)
    obtain ⟨e1, e3⟩ := wraps_sub hAI ha30
    obtain ⟨e2, e4⟩ := wraps_one ha30
    generalize letterC k o (v.extract a v.size) = b at *
    cases hq : ((oneB b).toList == (w.extract a (a + 1)).toList) with
    | false =>
      have HR := Lib.hid (firstW_bad 0 (show badF k n o w v = true by rw [HBAD.out, hq]; rfl))
      clear hA hAI hx hn ok ha hd
      go_enter Try.func41, Try.ntmps41
      go_wp2
      go_region_held3 (fun w' => w'.cell? ⟨W.heap.size, 0, none⟩ = some (.int .i64 (k : Int)) ∧ w'.cell? ⟨W.heap.size, 1, none⟩ = some (.int .i64 (n : Int)) ∧ w'.cell? ⟨W.heap.size, 2, none⟩ = some (.string o)) (first | exact ⟨c0, c1, c2⟩ | exact ⟨d0, d1, d2⟩ | go_keep) (first | (go_at_call 74; refine (HL.out _).mono ?_; rintro e w9 ⟨rfl, hb9⟩; have HB9 := Lib.hid ((drewN_below HB0.out 1).trans (hb9.mono (drewN_below HB0.out 1).size)); have HC9 := Lib.hid ((HK.out.below (drewN_below (Below.refl _ _) 1)).below hb9); have d0 := HC9.out.c0; have d1 := HC9.out.c1; have d2 := HC9.out.c2; clear hb9))
      go_wp2
      go_ret2
      exact ⟨by rw [HR.out]; rfl, HB9.out⟩
    | true =>
      have HNB : Hid (badF k n o w v = false) := Lib.hid (by rw [HBAD.out, hq]; rfl)
      have HR := Lib.hid (firstW_end (k := k) (n := n) (o := o) (w := w) HNB.out)
      clear hA hAI hx hn ok ha hd
      go_enter Try.func41, Try.ntmps41
      go_wp2
      go_region_held3 (fun w' => w'.cell? ⟨W.heap.size, 0, none⟩ = some (.int .i64 (k : Int)) ∧ w'.cell? ⟨W.heap.size, 1, none⟩ = some (.int .i64 (n : Int)) ∧ w'.cell? ⟨W.heap.size, 2, none⟩ = some (.string o)) (first | exact ⟨c0, c1, c2⟩ | exact ⟨d0, d1, d2⟩ | go_keep) (first | (go_at_call 74; refine (HL.out _).mono ?_; rintro e w9 ⟨rfl, hb9⟩; have HB9 := Lib.hid ((drewN_below HB0.out 1).trans (hb9.mono (drewN_below HB0.out 1).size)); have HC9 := Lib.hid ((HK.out.below (drewN_below (Below.refl _ _) 1)).below hb9); have d0 := HC9.out.c0; have d1 := HC9.out.c1; have d2 := HC9.out.c2; clear hb9))
      clear c0 c1 c2
      have c0 := HC9.out.c0
      have c1 := HC9.out.c1
      have c2 := HC9.out.c2
      go_wp2
      go_ret2
      exact ⟨by rw [HR.out]; rfl, HB9.out⟩
  · have HNB : Hid (badF k n o w v = false) := Lib.hid (by unfold badF; rw [decide_eq_false hn]; rfl)
    have HR := Lib.hid (firstW_end (k := k) (n := n) (o := o) (w := w) HNB.out)
    have g0 : ¬ (n : Int) ≤ (v.size : Int) := by omega
    have g0b : decide ((n : Int) ≤ (v.size : Int)) = false := by simp; omega
    have g0c : decide (n ≤ v.size) = false := decide_eq_false hn
    clear hn ok ha hd
    go_enter Try.func41, Try.ntmps41
    go_wp2
    go_quiet (fail)
    have HB9 := Lib.hid (drewN_below HB0.out nq)
    have HC9 := Lib.hid (HK.out.below (drewN_below (Below.refl _ _) nq))

    clear c0 c1 c2
    have c0 := HC9.out.c0
    have c1 := HC9.out.c1
    have c2 := HC9.out.c2
    go_wp2
    go_ret2
    exact ⟨by rw [HR.out]; rfl, HB9.out⟩

set_option maxRecDepth 100000 in
set_option maxHeartbeats 3200000 in
theorem first_succ (k n : Nat) (o w : ByteArray) (ok : CodeOk k n o) (hw : w.size ≤ 16) (d : Nat) (ih : ∀ (v : ByteArray) (W : World), v.size + d = w.size + (n - 1) → allL (k : Int) v = true → FirstAt k n o w d v W) (v : ByteArray) (W : World) (hd : v.size + (d + 1) = w.size + (n - 1)) (ha : allL (k : Int) v = true) : FirstAt k n o w (d + 1) v W := by
  unfold FirstAt
  have HIH := Lib.hid ih
  unfold FirstAt at HIH
  clear ih
  have n1 := ok.n1
  have n4 := ok.n4
  have k3 := ok.k3
  have HA := Lib.hid ha
  have HD := Lib.hid hd
  have HK := Lib.hid (codeIn_new W (k : Int) (n : Int) o)
  have c0 := HK.out.c0
  have c1 := HK.out.c1
  have c2 := HK.out.c2
  have HB0 := Lib.hid ((Below.refl W.heap.size W).alloc (Nat.le_refl _) (.cells #[.int .i64 (k : Int), .int .i64 (n : Int), .string o] 25))
  have hv : v.size ≤ 30 := by omega

  have e5 : wrap64 ((w.size : Int) + (n : Int)) = (w.size : Int) + (n : Int) := small_wrap (by omega)
  have e6 : wrap64 ((w.size : Int) + (n : Int) - 1) = (w.size : Int) + (n : Int) - 1 := small_wrap (by omega)
  have g5 : ((v.size : Int) == (w.size : Int) + (n : Int) - 1) = false := by rw [beq_eq_false_iff_ne]; omega
  by_cases hn : n ≤ v.size
  · obtain ⟨a, hA⟩ : ∃ a, v.size - n = a := ⟨_, rfl⟩
    have hAI : (v.size : Int) - (n : Int) = (a : Int) := by omega
    have hx : v.extract a v.size = v.extract a (a + n) := by rw [show a + n = v.size by omega]
    have HL := Lib.hid (fun w' => spec_letter k n o (v.extract a v.size) ok (by rw [hx]; exact cut_size (by omega)) (extract_all ha _ _) w')
    have g0 : (n : Int) ≤ (v.size : Int) := by omega
    have g1 : (0 : Int) ≤ (a : Int) := by omega
    have g2 : (a : Int) ≤ (v.size : Int) := by omega
    have g3 : (a : Int) ≤ (a : Int) + 1 := by omega
    have g4 : (a : Int) + 1 ≤ (w.size : Int) := by omega
    have ha30 : (0 : Int) ≤ (a : Int) ∧ (a : Int) ≤ 1000 := by omega
    have HBAD : Hid (badF k n o w v = !((oneB (letterC k o (v.extract a v.size))).toList == (w.extract a (a + 1)).toList)) := Lib.hid (by unfold badF; rw [decide_eq_true hn, hA]; rfl)
    obtain ⟨e1, e3⟩ := wraps_sub hAI ha30
    obtain ⟨e2, e4⟩ := wraps_one ha30
    generalize letterC k o (v.extract a v.size) = b at *
    cases hq : ((oneB b).toList == (w.extract a (a + 1)).toList) with
    | false =>
      have HR := Lib.hid (firstW_bad (d + 1) (show badF k n o w v = true by rw [HBAD.out, hq]; rfl))
      clear hA hAI hx hn ok ha hd
      go_enter Try.func41, Try.ntmps41
      go_wp2
      go_region_held3 (fun w' => w'.cell? ⟨W.heap.size, 0, none⟩ = some (.int .i64 (k : Int)) ∧ w'.cell? ⟨W.heap.size, 1, none⟩ = some (.int .i64 (n : Int)) ∧ w'.cell? ⟨W.heap.size, 2, none⟩ = some (.string o)) (first | exact ⟨c0, c1, c2⟩ | exact ⟨d0, d1, d2⟩ | go_keep) (first | (go_at_call 74; refine (HL.out _).mono ?_; rintro e w9 ⟨rfl, hb9⟩; have HB9 := Lib.hid ((drewN_below HB0.out 1).trans (hb9.mono (drewN_below HB0.out 1).size)); have HC9 := Lib.hid ((HK.out.below (drewN_below (Below.refl _ _) 1)).below hb9); have d0 := HC9.out.c0; have d1 := HC9.out.c1; have d2 := HC9.out.c2; clear hb9))
      go_wp2
      go_ret2
      exact ⟨by rw [HR.out]; rfl, HB9.out⟩
    | true =>
      have HNB : Hid (badF k n o w v = false) := Lib.hid (by rw [HBAD.out, hq]; rfl)
      clear hA hAI hx hn ok ha hd
      go_enter Try.func41, Try.ntmps41
      go_wp2
      go_region_held3 (fun w' => w'.cell? ⟨W.heap.size, 0, none⟩ = some (.int .i64 (k : Int)) ∧ w'.cell? ⟨W.heap.size, 1, none⟩ = some (.int .i64 (n : Int)) ∧ w'.cell? ⟨W.heap.size, 2, none⟩ = some (.string o)) (first | exact ⟨c0, c1, c2⟩ | exact ⟨d0, d1, d2⟩ | go_keep) (first | (go_at_call 74; refine (HL.out _).mono ?_; rintro e w9 ⟨rfl, hb9⟩; have HB9 := Lib.hid ((drewN_below HB0.out 1).trans (hb9.mono (drewN_below HB0.out 1).size)); have HC9 := Lib.hid ((HK.out.below (drewN_below (Below.refl _ _) 1)).below hb9); have d0 := HC9.out.c0; have d1 := HC9.out.c1; have d2 := HC9.out.c2; clear hb9))
      clear c0 c1 c2
      have c0 := HC9.out.c0
      have c1 := HC9.out.c1
      have c2 := HC9.out.c2
      go_wp2
      go_loopw [8] (fun xv wr => ∃ x : Nat, x ≤ k ∧ xv = .int .i64 (x : Int) ∧ Hid (∀ y, y < x → firstW k n o w d (v ++ letterB y) = none) ∧ Hid (Below W.heap.size W wr) ∧ Hid (CodeIn wr W.heap.size (k : Int) (n : Int) o)) (fun xv _ => k - (intOf xv).toNat)
      case atStart => exact ⟨0, Nat.zero_le _, rfl, Lib.hid (fun y h => by omega), HB9, HC9⟩
      case round =>
        clear c0 c1 c2
        obtain ⟨x, hxk, rfl, HNO, HB, HC⟩ := hrel
        have c0 := HC.out.c0
        have c1 := HC.out.c1
        have c2 := HC.out.c2
        by_cases hlt : x < k
        · have x6 := letter_at x (by omega)
          have x7 := letterB_size x
          have x8 : v.size + (letterB x).size ≤ 9223372036854775807 := by rw [x7]; omega
          have x9 : ∀ w, (Op.stringOp .add v (letterB x)).run Try.prog w = .ok (.string (v ++ letterB x)) w := fun w => run_string_add_sum w _ _ x8
          have x0 : (0 : Int) ≤ (x : Int) := by omega
          have x2 : (x : Int) ≤ (x : Int) + 1 := by omega
          have x1 : (x : Int) + 1 ≤ 3 := by omega
          have x4 : (⟨#[97, 98, 99]⟩ : ByteArray).size = 3 := rfl
          have x5 : (x : Int) + 1 ≤ ((⟨#[97, 98, 99]⟩ : ByteArray).size : Int) := x1
          obtain ⟨x3, x3b⟩ := wraps_one (a := (x : Int)) (by omega)
          have HX := Lib.hid (fun w' => HIH.out (v ++ letterB x) w' (by rw [ByteArray.size_append, x7]; have := HD.out; omega) (by show (v ++ letterB x).data.toList.all _ = true; rw [ba_append, List.all_append, show v.data.toList.all (isL (k : Int)) = true from HA.out]; show (true && [UInt8.ofNat (97 + x)].all _) = true; simp only [Bool.true_and, List.all_cons, List.all_nil, Bool.and_true]; exact letterB_all k3 hlt))
          obtain ⟨W0, rfl⟩ : ∃ W0 : World, W0 = wr := ⟨_, rfl⟩
          clear x7 x8
          obtain ⟨s, b, hs, hb, hf, ht⟩ : ∃ (s : ByteArray) (b : Bool), optS (firstW k n o w d (v ++ letterB x)) = s ∧ (firstW k n o w d (v ++ letterB x)).isSome = b ∧ (b = false → ∀ y, y < x + 1 → firstW k n o w d (v ++ letterB y) = none) ∧ (b = true → firstW k n o w (d + 1) v = some s) := first_next HNB.out hlt HNO.out
          rw [hs, hb] at HX
          have HFN := Lib.hid hf
          have HTR := Lib.hid ht
          clear hs hb hf ht
          go_wp2
          go_region_held3 (fun w' => w'.cell? ⟨W.heap.size, 0, none⟩ = some (.int .i64 (k : Int)) ∧ w'.cell? ⟨W.heap.size, 1, none⟩ = some (.int .i64 (n : Int)) ∧ w'.cell? ⟨W.heap.size, 2, none⟩ = some (.string o)) (first | exact ⟨c0, c1, c2⟩ | exact ⟨d0, d1, d2⟩ | go_keep) (first | (go_at_call 41; refine (HX.out _).mono ?_; rintro e w8 ⟨rfl, hb8⟩; have HX8 : Hid (Below W0.heap.size W0 w8) := Lib.hid ((drewN_below (Below.refl _ _) 1).trans hb8); have HC8 := Lib.hid (HC.out.below HX8.out); have d0 := HC8.out.c0; have d1 := HC8.out.c1; have d2 := HC8.out.c2; clear hb8))
          have HB8 := Lib.hid (HB.out.trans (HX8.out.mono HB.out.size))
          cases b with
          | false =>
            have HNX := Lib.hid (HFN.out rfl)
            go_wp2
            go_roundw
            case rel =>
              try clear e1 e2 e3 e4
              clear e5 e6 x3 x3b x9 x6 x4 x5 x0 x1 x2 g5 c0 c1 c2
              exact ⟨x + 1, Nat.succ_le_of_lt hlt, by go_num, HNX, HB8, HC8⟩
            case measure =>
              try clear e1 e2 e3 e4
              clear e5 e6 x3 x3b x9 x6 x4 x5 x0 x1 x2 g5 c0 c1 c2
              simp [intOf]; omega
          | true =>
            have HR := Lib.hid (HTR.out rfl)
            go_wp2
            go_ret2
            exact ⟨by rw [HR.out]; rfl, HB8.out⟩
        · obtain rfl : x = k := by omega
          have HR := Lib.hid (firstW_none HNB.out HNO.out)
          go_wp2
          go_ret2
          exact ⟨by rw [HR.out]; rfl, HB.out⟩
  · have HNB : Hid (badF k n o w v = false) := Lib.hid (by unfold badF; rw [decide_eq_false hn]; rfl)
    have g0 : ¬ (n : Int) ≤ (v.size : Int) := by omega
    have g0b : decide ((n : Int) ≤ (v.size : Int)) = false := by simp; omega
    have g0c : decide (n ≤ v.size) = false := decide_eq_false hn
    clear hn ok ha hd
    go_enter Try.func41, Try.ntmps41
    go_wp2
    go_quiet (fail)
    have HB9 := Lib.hid (drewN_below HB0.out nq)
    have HC9 := Lib.hid (HK.out.below (drewN_below (Below.refl _ _) nq))

    clear c0 c1 c2
    have c0 := HC9.out.c0
    have c1 := HC9.out.c1
    have c2 := HC9.out.c2
    go_wp2
    go_loopw [8] (fun xv wr => ∃ x : Nat, x ≤ k ∧ xv = .int .i64 (x : Int) ∧ Hid (∀ y, y < x → firstW k n o w d (v ++ letterB y) = none) ∧ Hid (Below W.heap.size W wr) ∧ Hid (CodeIn wr W.heap.size (k : Int) (n : Int) o)) (fun xv _ => k - (intOf xv).toNat)
    case atStart => exact ⟨0, Nat.zero_le _, rfl, Lib.hid (fun y h => by omega), HB9, HC9⟩
    case round =>
      clear c0 c1 c2
      obtain ⟨x, hxk, rfl, HNO, HB, HC⟩ := hrel
      have c0 := HC.out.c0
      have c1 := HC.out.c1
      have c2 := HC.out.c2
      by_cases hlt : x < k
      · have x6 := letter_at x (by omega)
        have x7 := letterB_size x
        have x8 : v.size + (letterB x).size ≤ 9223372036854775807 := by rw [x7]; omega
        have x9 : ∀ w, (Op.stringOp .add v (letterB x)).run Try.prog w = .ok (.string (v ++ letterB x)) w := fun w => run_string_add_sum w _ _ x8
        have x0 : (0 : Int) ≤ (x : Int) := by omega
        have x2 : (x : Int) ≤ (x : Int) + 1 := by omega
        have x1 : (x : Int) + 1 ≤ 3 := by omega
        have x4 : (⟨#[97, 98, 99]⟩ : ByteArray).size = 3 := rfl
        have x5 : (x : Int) + 1 ≤ ((⟨#[97, 98, 99]⟩ : ByteArray).size : Int) := x1
        obtain ⟨x3, x3b⟩ := wraps_one (a := (x : Int)) (by omega)
        have HX := Lib.hid (fun w' => HIH.out (v ++ letterB x) w' (by rw [ByteArray.size_append, x7]; have := HD.out; omega) (by show (v ++ letterB x).data.toList.all _ = true; rw [ba_append, List.all_append, show v.data.toList.all (isL (k : Int)) = true from HA.out]; show (true && [UInt8.ofNat (97 + x)].all _) = true; simp only [Bool.true_and, List.all_cons, List.all_nil, Bool.and_true]; exact letterB_all k3 hlt))
        obtain ⟨W0, rfl⟩ : ∃ W0 : World, W0 = wr := ⟨_, rfl⟩
        clear x7 x8
        obtain ⟨s, b, hs, hb, hf, ht⟩ : ∃ (s : ByteArray) (b : Bool), optS (firstW k n o w d (v ++ letterB x)) = s ∧ (firstW k n o w d (v ++ letterB x)).isSome = b ∧ (b = false → ∀ y, y < x + 1 → firstW k n o w d (v ++ letterB y) = none) ∧ (b = true → firstW k n o w (d + 1) v = some s) := first_next HNB.out hlt HNO.out
        rw [hs, hb] at HX
        have HFN := Lib.hid hf
        have HTR := Lib.hid ht
        clear hs hb hf ht
        go_wp2
        go_region_held3 (fun w' => w'.cell? ⟨W.heap.size, 0, none⟩ = some (.int .i64 (k : Int)) ∧ w'.cell? ⟨W.heap.size, 1, none⟩ = some (.int .i64 (n : Int)) ∧ w'.cell? ⟨W.heap.size, 2, none⟩ = some (.string o)) (first | exact ⟨c0, c1, c2⟩ | exact ⟨d0, d1, d2⟩ | go_keep) (first | (go_at_call 41; refine (HX.out _).mono ?_; rintro e w8 ⟨rfl, hb8⟩; have HX8 : Hid (Below W0.heap.size W0 w8) := Lib.hid ((drewN_below (Below.refl _ _) 1).trans hb8); have HC8 := Lib.hid (HC.out.below HX8.out); have d0 := HC8.out.c0; have d1 := HC8.out.c1; have d2 := HC8.out.c2; clear hb8))
        have HB8 := Lib.hid (HB.out.trans (HX8.out.mono HB.out.size))
        cases b with
        | false =>
          have HNX := Lib.hid (HFN.out rfl)
          go_wp2
          go_roundw
          case rel =>
            try clear e1 e2 e3 e4
            clear e5 e6 x3 x3b x9 x6 x4 x5 x0 x1 x2 g5 c0 c1 c2
            exact ⟨x + 1, Nat.succ_le_of_lt hlt, by go_num, HNX, HB8, HC8⟩
          case measure =>
            try clear e1 e2 e3 e4
            clear e5 e6 x3 x3b x9 x6 x4 x5 x0 x1 x2 g5 c0 c1 c2
            simp [intOf]; omega
        | true =>
          have HR := Lib.hid (HTR.out rfl)
          go_wp2
          go_ret2
          exact ⟨by rw [HR.out]; rfl, HB8.out⟩
      · obtain rfl : x = k := by omega
        have HR := Lib.hid (firstW_none HNB.out HNO.out)
        go_wp2
        go_ret2
        exact ⟨by rw [HR.out]; rfl, HB.out⟩

theorem spec_first (k n : Nat) (o w : ByteArray) (ok : CodeOk k n o) (hw : w.size ≤ 16) : ∀ (d : Nat) (v : ByteArray) (W : World), v.size + d = w.size + (n - 1) → allL (k : Int) v = true → FirstAt k n o w d v W := by
  intro d
  induction d with
  | zero => exact first_zero k n o w ok hw
  | succ d ih => exact first_succ k n o w ok hw d ih
end Go.Proofs.Ytlncehnbdhkaoaa
