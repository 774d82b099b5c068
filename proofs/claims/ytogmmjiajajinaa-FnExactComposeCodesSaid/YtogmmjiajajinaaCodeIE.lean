/-
  The program's ComposeCodes and CopyCode: as the plain words say; nothing that was there before is changed.
-/
import Derived.Test.YtogmmjiajajinaaCodeID
import Derived.Shelf.Abstract
namespace Go.Proofs.Ytogmmjiajajinaa
open Go Go.RowKit Go.Shelf

theorem enters_coding (args : Array Value) (w : World) : (callFunc 39 args).run Try.prog w = .ok (.enter 39 args) w := enters_of Try.func39 (by kernel_rfl) rfl args w
theorem enters_copy (args : Array Value) (w : World) : (callFunc 37 args).run Try.prog w = .ok (.enter 37 args) w := enters_of Try.func37 (by kernel_rfl) rfl args w

theorem impl_copied (a g : Nat) (x : ByteArray) (ha : a < x.size) (hx : x.size ≤ 1000) (w : World) (hg : w.cell? ⟨g, 0, none⟩ = some (.int .i64 (a : Int))) :
    Calls Try.prog 37 #[.string x, .pointer (some ⟨g, 0, none⟩)] w (Says (.string (copyF a x)) w) := by
  have e1 : wrap64 ((a : Int) + 1) = (a : Int) + 1 := small_wrapI (by omega)
  have g1 : (a : Int) + 1 ≤ (x.size : Int) := by omega
  have g2 : (0 : Int) ≤ (a : Int) := by omega
  have g3 : (a : Int) ≤ (a : Int) + 1 := by omega
  go_enter Try.func37, Try.ntmps37
  go_wp2
  go_ret
  exact ⟨by simp [copyF], Below.refl _ _⟩

theorem tab_copy (k n a b g c : Nat) (ha : a < n) (w : World) (hg : w.cell? ⟨g, 0, none⟩ = some (.int .i64 (a : Int))) (hgl : g < w.heap.size)
    (h0 : w.cell? ⟨b, 0, none⟩ = some (.func (.func 37) #[] #[.pointer (some ⟨g, 0, none⟩)])) (hb : b < w.heap.size) :
    Calls Try.prog 36 #[.int .i64 (k : Int), .int .i64 (n : Int), .slice (some ⟨b, 0, none⟩) 1 c] w (Says (CodeRes (codeForm (k : Int) (n : Int)) (k : Int) (n : Int) (copied k n a)) w) := by
  cases hf : codeForm (k : Int) (n : Int) with
  | false => exact impl_tab_no _ _ _ hf w
  | true =>
    obtain ⟨k', n', e1, e2, ok⟩ := formOk_of hf
    obtain rfl : k = k' := by omega
    obtain rfl : n = n' := by omega
    have hn := ok.n4
    exact impl_tab k n 1 37 b c (fun _ => g) (fun _ => copyF a) ok enters_copy w
      (fun j hj => by obtain rfl : j = 0 := by omega
                      exact h0) hb (by omega)
      (fun x hx j hj w' hw' => by
        obtain rfl : j = 0 := by omega
        have hs := allW_size k n x hx
        exact impl_copied a g x (by omega) (by omega) w' ((hw'.cell (p := ⟨g, 0, none⟩) hgl).trans hg))
      (fun x hx => by
        have hs := allW_size k n x hx
        show (copyF a x).size = 1
        unfold copyF
        rw [ByteArray.size_extract]; omega)

theorem tab_compose (k nc nd b gc gd c : Nat) (oc od : ByteArray) (okc : CodeOk k nc oc) (okd : CodeOk k nd od) (w : World) (hc : CodeIn w gc (k : Int) (nc : Int) oc) (hd : CodeIn w gd (k : Int) (nd : Int) od)
    (h0 : w.cell? ⟨b, 0, none⟩ = some (.func (.func 39) #[] #[.pointer (some ⟨gd, 0, none⟩)]))
    (h1 : w.cell? ⟨b, 1, none⟩ = some (.func (.func 39) #[] #[.pointer (some ⟨gc, 0, none⟩)])) (hb : b < w.heap.size) :
    Calls Try.prog 36 #[.int .i64 (k : Int), .int .i64 ((nc + nd - 1 : Nat) : Int), .slice (some ⟨b, 0, none⟩) 2 c] w (Says (CodeRes (codeForm (k : Int) ((nc + nd - 1 : Nat) : Int)) (k : Int) ((nc + nd - 1 : Nat) : Int) (composed k nc nd oc od)) w) := by
  cases hf : codeForm (k : Int) ((nc + nd - 1 : Nat) : Int) with
  | false => exact impl_tab_no _ _ _ hf w
  | true =>
    obtain ⟨k', n', e1, e2, ok⟩ := formOk_of hf
    obtain rfl : k = k' := by omega
    obtain ⟨n, hn⟩ : ∃ n, nc + nd - 1 = n := ⟨_, rfl⟩
    rw [hn] at e2 ⊢
    obtain rfl : n = n' := by omega
    have hn4 := ok.n4
    have d1 := okd.n1
    have c1 := okc.n1
    have h := impl_tab k n 2 39 b c (fun j => if j = 0 then gd else gc) (fun j => if j = 0 then applied k nd od else applied k nc oc) ok enters_coding w
      (fun j hj => by
        by_cases e : j = 0
        · subst e; exact h0
        · obtain rfl : j = 1 := by omega
          exact h1) hb (by omega)
      (fun x hx j hj w' hw' => by
        have hs := allW_size k n x hx
        have ha := allW_all ok.k3 n x hx
        by_cases e : j = 0
        · subst e
          exact impl_coding k nd gd od x okd (by omega) ha w' (hd.later hw' hd.lt)
        · obtain rfl : j = 1 := by omega
          have hs2 := applied_size k nd od x
          exact impl_coding k nc gc oc (applied k nd od x) okc (by omega) (applied_all okd ha) w' (hc.later hw' hc.lt))
      (fun x hx => by
        have hs := allW_size k n x hx
        show (applied k nc oc (applied k nd od x)).size = 1
        rw [applied_size, applied_size]; omega)
    have e : catW (fun x => runTo (fun j => if j = 0 then applied k nd od else applied k nc oc) x 2) (allW k n) = composed k nc nd oc od := by
      unfold composed
      rw [hn]
      exact catW_congr fun x hx => composed_at (by rw [hn]; exact allW_size k n x hx) d1
    rw [e] at h
    exact h

theorem tab_copyO (K N a : Int) (h0 : 0 ≤ a) (hN : a < N) (b g c : Nat) (w : World) (hg : w.cell? ⟨g, 0, none⟩ = some (.int .i64 a)) (hgl : g < w.heap.size)
    (hf : w.cell? ⟨b, 0, none⟩ = some (.func (.func 37) #[] #[.pointer (some ⟨g, 0, none⟩)])) (hb : b < w.heap.size) :
    Calls Try.prog 36 #[.int .i64 K, .int .i64 N, .slice (some ⟨b, 0, none⟩) 1 c] w (Says (CodeRes (copyB K N a) K N (copyO K N a)) w) := by
  have e : copyB K N a = codeForm K N := by unfold copyB; rw [decide_eq_true h0, decide_eq_true hN]; simp
  rw [e]
  cases h : codeForm K N with
  | false => exact impl_tab_no _ _ _ h w
  | true =>
    obtain ⟨k, n, rfl, rfl, ok⟩ := formOk_of h
    obtain ⟨a, rfl⟩ := Int.eq_ofNat_of_zero_le h0
    have ht := tab_copy k n a b g c (by omega) w hg hgl hf hb
    rw [h] at ht
    unfold copyO
    rw [Int.toNat_natCast, Int.toNat_natCast, Int.toNat_natCast]
    exact ht

set_option maxRecDepth 100000 in
set_option maxHeartbeats 1600000 in
theorem impl_copyCode (K N a : Int) (w : World) :
    Calls Try.prog 21 #[.int .i64 K, .int .i64 N, .int .i64 a] w (Says (CodeRes (copyB K N a) K N (copyO K N a)) w) := by
  obtain ⟨W1, hW1⟩ : ∃ W1, w.alloc (.cells #[.int .i64 a] 3) = W1 := ⟨_, rfl⟩
  have hb1 : Below w.heap.size w W1 := by rw [← hW1]; exact (Below.refl _ _).alloc (Nat.le_refl _) _
  have z1 : W1.heap.size = w.heap.size + 1 := by rw [← hW1]; exact World.size_alloc _ _
  have hca : W1.cell? ⟨w.heap.size, 0, none⟩ = some (.int .i64 a) := by rw [← hW1]; simp
  obtain ⟨W2, hW2⟩ : ∃ W2, W1.alloc (.cells #[.int .i64 0, .int .i64 0, .string ⟨#[]⟩] 26) = W2 := ⟨_, rfl⟩
  have hb2 : Below W1.heap.size W1 W2 := by rw [← hW2]; exact (Below.refl _ _).alloc (Nat.le_refl _) _
  have z2 : W2.heap.size = w.heap.size + 1 + 1 := by rw [← hW2, ← z1]; exact World.size_alloc _ _
  have hk : CodeIn W2 (w.heap.size + 1) 0 0 ⟨#[]⟩ := by rw [← hW2, ← z1]; exact codeIn_new _ _ _ _
  have HBW := Lib.hid (hb1.trans (hb2.mono hb1.size))
  by_cases hr : 0 ≤ a ∧ a < N
  · obtain ⟨r0, r1⟩ := hr
    obtain ⟨W3, hW3⟩ : ∃ W3, W2.alloc (.cells #[.func (.func 37) #[] #[.pointer (some ⟨w.heap.size, 0, none⟩)]] 44) = W3 := ⟨_, rfl⟩
    have hb3 : Below W2.heap.size W2 W3 := by rw [← hW3]; exact (Below.refl _ _).alloc (Nat.le_refl _) _
    have z3 : W3.heap.size = w.heap.size + 1 + 1 + 1 := by rw [← hW3, ← z2]; exact World.size_alloc _ _
    have hcf : W3.cell? ⟨w.heap.size + 1 + 1, 0, none⟩ = some (.func (.func 37) #[] #[.pointer (some ⟨w.heap.size, 0, none⟩)]) := by rw [← hW3, ← z2]; simp
    have hcg : W3.cell? ⟨w.heap.size, 0, none⟩ = some (.int .i64 a) := (hb3.cell (p := ⟨w.heap.size, 0, none⟩) (by show w.heap.size < _; omega)).trans ((hb2.cell (p := ⟨w.heap.size, 0, none⟩) (by show w.heap.size < _; omega)).trans hca)
    have HT := Lib.hid (tab_copyO K N a r0 r1 (w.heap.size + 1 + 1) w.heap.size 1 W3 hcg (by omega) hcf (by omega))
    have HB3 := Lib.hid (HBW.out.trans (hb3.mono HBW.out.size))
    have HK3 := Lib.hid (hk.below hb3)
    have HW := Lib.hid (show ((w.alloc (.cells #[.int .i64 a] 3)).alloc (.cells #[.int .i64 0, .int .i64 0, .string ⟨#[]⟩] 26)).alloc (.cells #[.func (.func 37) #[] #[.pointer (some ⟨w.heap.size, 0, none⟩)]] 44) = W3 by rw [hW1, hW2, hW3])
    have HZ := Lib.hid z3
    clear hb3 z3 hcf hcg hW3 hb2 z2 hk hW2 hb1 z1 hca hW1
    have g1 : ¬ a < 0 := by omega
    have g2 : ¬ N ≤ a := by omega
    have HV : Hid (CodeRes (copyB K N a) K N (copyO K N a) = .tuple #[.agg #[.int .i64 (zeroC (copyB K N a) K), .int .i64 (zeroC (copyB K N a) N), .string (zeroS (copyB K N a) (copyO K N a))], .bool (copyB K N a)]) := Lib.hid rfl
    rw [HV.out] at HT ⊢
    generalize copyO K N a = z at *
    generalize copyB K N a = b at *
    generalize zeroC b K = K' at *
    generalize zeroC b N = N' at *
    generalize zeroS b z = z' at *
    clear HV
    go_enter Try.func21, Try.ntmps21
    go_wp2_with fail
    rw [HW.out]
    refine HT.out.mono ?_
    rintro e w4 ⟨rfl, hb4⟩
    have HB4 := Lib.hid (HB3.out.trans (hb4.mono HB3.out.size))
    have hk4 := HK3.out.below hb4
    have HK4 := Lib.hid hk4
    have c0 := hk4.c0
    have c1 := hk4.c1
    have c2 := hk4.c2
    have f0 := hk4.f 0
    have f1 := hk4.f 1
    have f2 := hk4.f 2
    clear hk4 hb4
    go_wp2
    refine bodyPost_ret (results_code rfl _ _ _ 26 #[.int .i64 K', .int .i64 N', .string z'] (0, 0) _ rfl (codeIn_set HK4.out _ _ _) Try.underlying26 rfl (by kernel_rfl)) rfl ?_
    exact ⟨rfl, below_set HB4.out (by omega) _ _ _⟩
  · have HV : Hid (CodeRes (copyB K N a) K N (copyO K N a) = .tuple #[.agg #[.int .i64 0, .int .i64 0, .string ⟨#[]⟩], .bool false]) := Lib.hid (by
      have e : copyB K N a = false := by
        unfold copyB
        by_cases h0 : 0 ≤ a
        · rw [decide_eq_false (fun h => hr ⟨h0, h⟩)]; simp
        · rw [decide_eq_false h0]; simp
      rw [e]; rfl)
    rw [HV.out]
    have HK := Lib.hid hk
    have HW := Lib.hid (show (w.alloc (.cells #[.int .i64 a] 3)).alloc (.cells #[.int .i64 0, .int .i64 0, .string ⟨#[]⟩] 26) = W2 by rw [hW1, hW2])
    clear hk hb2 hb1 z1 z2 hca hW1 hW2 HV
    by_cases h0 : a < 0
    · clear hr
      go_enter Try.func21, Try.ntmps21
      go_wp2
      rw [HW.out]
      refine bodyPost_ret (results_code rfl _ _ _ 26 #[.int .i64 0, .int .i64 0, .string ⟨#[]⟩] (0, 0) _ rfl HK.out Try.underlying26 rfl (by kernel_rfl)) rfl ?_
      exact ⟨rfl, HBW.out⟩
    · have h1 : N ≤ a := by omega
      clear hr
      go_enter Try.func21, Try.ntmps21
      go_wp2
      rw [HW.out]
      refine bodyPost_ret (results_code rfl _ _ _ 26 #[.int .i64 0, .int .i64 0, .string ⟨#[]⟩] (0, 0) _ rfl HK.out Try.underlying26 rfl (by kernel_rfl)) rfl ?_
      exact ⟨rfl, HBW.out⟩
end Go.Proofs.Ytogmmjiajajinaa
