/-
  The law on Join: at every slice of strings and every separator it returns true; nothing that was there before is changed.
-/
import Derived.Test.YtjblpjdfnicjeaaJoinSpec
import Derived.Test.YtjblpjdfnicjeaaShelfJ
namespace Go.Proofs.Ytjblpjdfnicjeaa
open Go Go.RowKit

set_option maxRecDepth 100000 in
set_option maxHeartbeats 400000 in
theorem impl_join (b off c : Nat) (xs : List ByteArray) (sep : ByteArray) (hn : xs.length ≤ 1099511627776) (hcap : xs.length ≤ c) (hlim : sep.size * xs.length + total xs ≤ 8796093022208) (w : World) (hc : StrsAt w b off xs) (hb : b < w.heap.size) :
    Calls Try.prog 7 #[.slice (some ⟨b, off, none⟩) xs.length c, .string sep] w (StrPost (joinOf xs sep) w) := by
  have hl := joinOf_length xs sep
  have h := Try.strings_Join b off c xs sep w (fun j x hj => by
    obtain ⟨hj1, hj2⟩ := List.getElem?_eq_some_iff.1 hj
    have := hc j hj1
    rw [this]
    simp [List.getD, hj]) hb (by omega) hcap (by unfold joinOf at hl; omega)
  have H := Lib.hid h
  clear h hl hc
  go_enter Try.func7, Try.ntmps7
  go_wp2_with fail
  refine H.out.mono ?_
  rintro e w1 ⟨rfl, hb1⟩
  go_wp2
  go_ret
  exact ⟨rfl, hb1⟩

set_option maxRecDepth 100000 in
set_option maxHeartbeats 1600000 in
theorem law_join (V : Value) (xs : List ByteArray) (sep : ByteArray) (hs : sep.size ≤ 9223372036854775807) (w : World)
    (hsz : Calls Try.prog 4 #[V, .int .i64 1048576] w (SzPost 1048576 xs w))
    (hcp : xs.length ≤ 1048576 → ∀ w', Below w.heap.size w w' → Calls Try.prog 6 #[V] w' (CopyPost xs w')) :
    Calls Try.prog 3 #[V, .string sep] w fun e w' => e = .returned (.bool true) ∧ Below w.heap.size w w' := by
  by_cases hbig : 1048576 < sep.size
  · clear hsz hcp
    go_enter Try.func3, Try.ntmps3
    go_wp2
    go_ret
    exact ⟨rfl, Below.refl _ _⟩
  have HSZ := Lib.hid hsz
  have HCP := Lib.hid hcp
  clear hsz hcp
  go_enter Try.func3, Try.ntmps3
  go_wp2_with fail
  refine HSZ.out.mono ?_
  rintro e w0 ⟨r, rfl, hr, rfl⟩
  rcases hr with rfl | ⟨hr0, hr1⟩
  · go_wp2_with fail
    go_ret
    exact ⟨rfl, Below.refl _ _⟩
  have hlen : xs.length ≤ 1048576 := by omega
  have hlim : sep.size * xs.length + total xs ≤ 8796093022208 := by
    have h1 : sep.size * xs.length ≤ 1048576 * 1048576 := Nat.mul_le_mul (by omega) hlen
    omega
  have HC := Lib.hid (HCP.out hlen)
  go_wp2_with fail
  refine (HC.out _ (Below.refl _ _)).mono ?_
  rintro e w1 ⟨rfl, ho1, hb1, hz1⟩
  have HJ1 := Lib.hid (spec_join _ _ xs.length xs sep (by omega) hlim w1 (StrsAt.of_owns ho1 rfl) hz1)
  clear ho1 hz1
  go_wp2_with fail
  refine HJ1.out.mono ?_
  rintro e w2 ⟨rfl, hb2⟩
  have hB2 : Below w.heap.size w w2 := hb1.trans (hb2.mono hb1.size)
  go_wp2_with fail
  refine (HC.out _ hB2).mono ?_
  rintro e w3 ⟨rfl, ho3, hb3, hz3⟩
  have hB3 : Below w.heap.size w w3 := hB2.trans (hb3.mono hB2.size)
  have hx3 := Lib.hid (StrsAt.of_owns ho3 rfl)
  have HJ2 := Lib.hid (impl_join _ _ xs.length xs sep (by omega) (Nat.le_refl _) hlim w3 hx3.out hz3)
  clear ho3
  go_wp2_with fail
  refine HJ2.out.mono ?_
  rintro e w4 ⟨rfl, hb4⟩
  have hB4 : Below w.heap.size w w4 := hB3.trans (hb4.mono hB3.size)
  have hx4 := Lib.hid (hx3.out.below hb4 hz3)
  go_wp2_with fail
  refine (HC.out _ hB4).mono ?_
  rintro e w5 ⟨rfl, ho5, hb5, hz5⟩
  have hB5 : Below w.heap.size w w5 := hB4.trans (hb5.mono hB4.size)
  have HE := Lib.hid (same_some _ _ xs.length _ _ xs.length xs (by omega) w5 (hx4.out.below hb5 (Nat.lt_of_lt_of_le hz3 hb4.size)) (StrsAt.of_owns ho5 rfl))
  clear ho5
  go_wp2_with fail
  refine HE.out.mono ?_
  rintro e w6 ⟨rfl, hb6⟩
  go_wp2_with fail
  go_ret
  exact ⟨rfl, hB5.trans (hb6.mono hB5.size)⟩
end Go.Proofs.Ytjblpjdfnicjeaa
