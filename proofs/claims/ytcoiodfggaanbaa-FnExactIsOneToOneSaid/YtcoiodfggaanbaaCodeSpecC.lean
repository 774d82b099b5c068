/-
  The model's ApplyRing: as the plain words say; nothing that was there before is changed.
-/
import Derived.Test.YtcoiodfggaanbaaCodeSpecB
namespace Go.Proofs.Ytcoiodfggaanbaa
open Go Go.RowKit

theorem bytes_none {s : ByteArray} (h : s.size = 0) : s.toList = [] := by
  rw [ByteArray.toList_eq]
  exact List.eq_nil_of_length_eq_zero (by rw [ba_len]; exact h)
theorem bytes_some {s : ByteArray} (h : s.size ≠ 0) : ¬ s.toList = [] := by
  rw [ByteArray.toList_eq]
  intro e
  apply h
  rw [← ba_len, e]; rfl
def lenV : Value → Nat
  | .string s => s.size
  | _ => 0
theorem ringOk_none {K N : Int} {o v : ByteArray} (h : appOk K N o v = false) : ringOk K N o v = false := by unfold ringOk; rw [h]; rfl
theorem ringOk_empty {K N : Int} {o v : ByteArray} (h : v.size = 0) : ringOk K N o v = false := by unfold ringOk; rw [decide_eq_false (fun hn => hn h), Bool.and_false]
theorem ringOk_yes {K N : Int} {o v : ByteArray} (h : appOk K N o v = true) (h0 : v.size ≠ 0) : ringOk K N o v = true := by unfold ringOk; rw [h, decide_eq_true h0]; rfl

set_option maxRecDepth 100000 in
set_option maxHeartbeats 1600000 in
theorem spec_applyRing (K N : Int) (o v : ByteArray) (ho : o.size ≤ 1099511627776) (hv : v.size ≤ 1099511627776) (w : World) :
    Calls Try.prog 83 #[.agg #[.int .i64 K, .int .i64 N, .string o], .string v] w (Says (.tuple #[.string (ringS K N o v), .bool (ringOk K N o v)]) w) := by
  have hk := codeIn_new w K N o
  have HK := Lib.hid hk
  have hb0 := (Below.refl w.heap.size w).alloc (Nat.le_refl _) (.cells #[.int .i64 K, .int .i64 N, .string o] 25)
  have HB0 := Lib.hid hb0
  have HI := Lib.hid (spec_isCode K N o ho)
  have HW := Lib.hid (spec_isWord K v hv)
  have z0 : (w.alloc (.cells #[.int .i64 K, .int .i64 N, .string o] 25)).heap.size = w.heap.size + 1 := World.size_alloc _ _
  clear hk hb0
  cases h1 : isCodeB K N o with
  | false =>
    rw [h1] at HI
    have hn : ringOk K N o v = false := ringOk_none (by unfold appOk; rw [h1]; rfl)
    have HN := Lib.hid hn
    have HS := Lib.hid (ringS_no hn)
    clear h1 hn
    go_enter Try.func83, Try.ntmps83
    go_wp2_with fail
    refine (HI.out _).mono ?_
    rintro e w1 ⟨rfl, hb1⟩
    have HB1 := Lib.hid (HB0.out.trans (hb1.mono HB0.out.size))
    clear hb1
    go_wp2
    go_ret2
    exact ⟨by rw [HN.out, HS.out]; rfl, HB1.out⟩
  | true =>
    rw [h1] at HI
    cases h2 : isW K v with
    | false =>
      rw [h2] at HW
      have hn : ringOk K N o v = false := ringOk_none (by unfold appOk; rw [h1, h2]; rfl)
      have HN := Lib.hid hn
      have HS := Lib.hid (ringS_no hn)
      clear h1 h2 hn
      go_enter Try.func83, Try.ntmps83
      go_wp2_with fail
      refine (HI.out _).mono ?_
      rintro e w1 ⟨rfl, hb1⟩
      have HB1 := Lib.hid (HB0.out.trans (hb1.mono HB0.out.size))
      have c0 := (HK.out.below hb1).c0
      clear hb1
      go_wp2_with fail
      refine (HW.out _).mono ?_
      rintro e w2 ⟨rfl, rfl⟩
      go_wp2
      go_ret2
      exact ⟨by rw [HN.out, HS.out]; rfl, HB1.out⟩
    | true =>
      rw [h2] at HW
      have ha0 : appOk K N o v = true := by unfold appOk; rw [h1, h2]; rfl
      by_cases h0 : v.size = 0
      · have hn : ringOk K N o v = false := ringOk_empty h0
        have HN := Lib.hid hn
        have HS := Lib.hid (ringS_no hn)
        have he := bytes_none h0
        have he2 : v.toList.isEmpty = true := by simpa using he
        clear h1 h2 hn ha0
        go_enter Try.func83, Try.ntmps83
        go_wp2_with fail
        refine (HI.out _).mono ?_
        rintro e w1 ⟨rfl, hb1⟩
        have HB1 := Lib.hid (HB0.out.trans (hb1.mono HB0.out.size))
        have c0 := (HK.out.below hb1).c0
        clear hb1
        go_wp2_with fail
        refine (HW.out _).mono ?_
        rintro e w2 ⟨rfl, rfl⟩
        go_wp2
        go_ret2
        exact ⟨by rw [HN.out, HS.out]; rfl, HB1.out⟩
      · have hn := ringOk_yes ha0 h0
        have HN := Lib.hid hn
        have he := bytes_some h0
        have he2 : v.toList.isEmpty = false := by simpa using he
        obtain ⟨k, n, rfl, rfl, ok, h16, ha⟩ := appOk_of ha0
        have HS := Lib.hid (ringS_yes hn)
        have hpos : 0 < v.size := by omega
        have n1 := ok.n1
        have n4 := ok.n4
        have HA : Hid (∀ x, x = ringB v (n - 1) → ∀ w', Calls Try.prog 68 #[.agg #[.int .i64 (k : Int), .int .i64 (n : Int), .string o], .string x] w' (Says (.string (applied k n o (ringB v (n - 1)))) w')) := Lib.hid fun x hx w' => by
          subst hx
          exact spec_apply k n o _ ok (by rw [ringB_size _ hpos]; omega) (ringB_all ha _) w'
        clear h1 h2 hn ha0 ok ha
        generalize applied k n o (ringB v (n - 1)) = z at *
        have T1 : Hid (timesB v 1 = v) := Lib.hid (ba_ext (by rw [timesB_data, Lib.repeatL_one]))
        have TN := Lib.hid (fun m => timesB_next v m)
        have e1 : wrap64 ((v.size : Int) + (n : Int)) = (v.size : Int) + (n : Int) := small_wrap (by omega)
        obtain ⟨L, hL⟩ : ∃ L, v.size + (n - 1) = L := ⟨_, rfl⟩
        have hLI : (v.size : Int) + (n : Int) - 1 = (L : Int) := by omega
        have e2 : wrap64 ((v.size : Int) + (n : Int) - 1) = (L : Int) := by rw [hLI]; exact small_wrap (by omega)
        have e4 : IntKind.i64.wrap ((v.size : Int) + (n : Int) - 1) = (L : Int) := by rw [hLI, IntKind.wrap_i64]; omega
        have HL := Lib.hid hL
        have l9 : L ≤ v.size + 3 := by omega
        have l8 : v.size ≤ L := by omega
        have l7 : v.size + n = L + 1 := by omega
        have HL7 := Lib.hid l7
        clear hL hLI l7
        go_enter Try.func83, Try.ntmps83
        go_wp2_with fail
        refine (HI.out _).mono ?_
        rintro e w1 ⟨rfl, hb1⟩
        have HB1 := Lib.hid (HB0.out.trans (hb1.mono HB0.out.size))
        have HC1 := Lib.hid (HK.out.below hb1)
        have c0 := HC1.out.c0
        clear hb1
        go_wp2_with fail
        refine (HW.out _).mono ?_
        rintro e w2 ⟨rfl, rfl⟩
        go_wp2
        go_loopw [6] (fun sv wr => ∃ m : Nat, sv = .string (timesB v m) ∧ (timesB v m).size ≤ v.size + 20 ∧ Hid (Below w.heap.size w wr) ∧ Hid (CodeIn wr w.heap.size (k : Int) (n : Int) o)) (fun sv _ => v.size + n - lenV sv)
        case atStart => exact ⟨1, by rw [T1.out], by rw [T1.out]; omega, HB1, HC1⟩
        case round =>
          obtain ⟨m, rfl, hsz, HB, HC⟩ := hrel
          clear c0
          have c0 := HC.out.c0
          have c1 := HC.out.c1
          have c2 := HC.out.c2
          by_cases hlt : (timesB v m).size < L
          · have hnx := TN.out m
            have hs2 : (timesB v (m + 1)).size = (timesB v m).size + v.size := by rw [← hnx, ByteArray.size_append]
            obtain ⟨y, hy⟩ : ∃ y, timesB v m = y := ⟨_, rfl⟩
            rw [hy] at hnx hsz hlt hs2
            have HNX := Lib.hid hnx
            have HS2 := Lib.hid hs2
            clear hnx hs2
            have g1 : (y.size : Int) < (L : Int) := by omega
            have x8 : y.size + v.size ≤ 9223372036854775807 := by omega
            rw [hy]
            clear hy
            go_wp2
            go_roundw
            case rel => exact ⟨m + 1, by rw [HNX.out], by rw [HS2.out]; omega, HB, HC⟩
            case measure => simp [lenV]; have := HL7.out; omega
          · obtain ⟨y, hy⟩ : ∃ y, timesB v m = y := ⟨_, rfl⟩
            have HR : Hid (y.extract 0 L = ringB v (n - 1)) := Lib.hid (by rw [← HL.out, ← hy]; exact ringB_of (by rw [HL.out]; omega) hpos)
            rw [hy] at hsz hlt
            have g1 : ¬ (y.size : Int) < (L : Int) := by omega
            have g2 : (L : Int) ≤ (y.size : Int) := by omega
            have g3 : (0 : Int) ≤ (L : Int) := by omega
            have e3 : IntKind.i64.wrap ((v.size : Int) + (n : Int)) = (v.size : Int) + (n : Int) := by rw [IntKind.wrap_i64]; omega
            rw [hy]
            clear hy
            obtain ⟨W0, rfl⟩ : ∃ W0 : World, W0 = wr := ⟨_, rfl⟩
            go_wp2
            go_region_held3 (fun w' => w'.cell? ⟨w.heap.size, 0, none⟩ = some (.int .i64 (k : Int)) ∧ w'.cell? ⟨w.heap.size, 1, none⟩ = some (.int .i64 (n : Int)) ∧ w'.cell? ⟨w.heap.size, 2, none⟩ = some (.string o)) (first | exact ⟨c0, c1, c2⟩ | exact ⟨d0, d1, d2⟩ | go_keep) (first | (go_at_call 68; refine (HA.out _ HR.out _).mono ?_; rintro e w9 ⟨rfl, hb9⟩; have HB9 := Lib.hid ((drewN_below (Below.refl W0.heap.size W0) 1).trans hb9); have HC9 := Lib.hid (HC.out.below HB9.out); have d0 := HC9.out.c0; have d1 := HC9.out.c1; have d2 := HC9.out.c2; clear hb9))
            go_wp2
            go_ret2
            exact ⟨by simp [HN.out, HS.out], HB.out.trans (HB9.out.mono HB.out.size)⟩
end Go.Proofs.Ytcoiodfggaanbaa
