/-
  The program's IsConnected: at every shift in memory what the plain words say; nothing that was there before is changed.
-/
import Derived.Test.YtalclebehbdliaaGreatPGraphI
import Derived.Test.YtalclebehbdliaaGreatCompTexts
import Derived.Test.YtalclebehbdliaaGreatMidTexts
namespace Go.Proofs.YtalclebehbdliaaGreat
open Go Go.RowKit

set_option maxRecDepth 100000 in
set_option maxHeartbeats 800000 in
theorem impl_isConnected (L : Int) (G : Option Addr) (c : Nat) (ps : List ByteArray) (hl : ps.length ≤ 1048576) (hz : ∀ k, k < ps.length → (ps.getD k ByteArray.empty).size ≤ 2147483648) (w : World) (hs : StrsG w G ps)
    (hsh : ∀ w', Below w.heap.size w w' → w'.ShapedOpen Tryz.prog) :
    Calls Tryz.prog 20 #[.agg #[.int .i64 L, .slice G ps.length c]] w (BoolPost (connS L ps) w) := by
  have hb := (Below.refl w.heap.size w).alloc (Nat.le_refl _) (.cells #[.int .i64 L, .slice G ps.length c] 26)
  have C := Lib.hid (impl_graphOf L G c ps hl hz _ (hs.below hb) (fun w' h => hsh w' (below_after hb h)))
  have HB := Lib.hid hb
  have s0 := hb.size
  have HSZ := Lib.hid (fun m h => graphS_size (L := L) (ps := ps) (m := m) h)
  have HC : Hid (connS L ps = match graphS L ps with | none => false | some m => irrM m) := Lib.hid rfl
  generalize connS L ps = r at *
  clear hs hz hb hsh
  cases hg : graphS L ps with
  | none =>
    rw [hg] at C HC
    obtain rfl : r = false := HC.out
    clear HC HSZ hg
    go_enter Tryz.func20, Tryz.ntmps20
    go_wp2_with fail
    refine C.out.mono ?_
    rintro e w1 ⟨v, rfl, ho, b1⟩
    have B1 := Lib.hid (HB.out.trans (b1.mono s0))
    clear ho b1
    go_wp2
    go_ret
    exact ⟨rfl, B1.out⟩
  | some m =>
    rw [hg] at C HC
    obtain ⟨h9, _, h9r, -⟩ := HSZ.out m hg
    obtain rfl : r = irrM m := HC.out
    have HR : Hid (∀ k, k < m.length → (m.getD k []).length ≤ 1099511627776) := Lib.hid fun k hk => by have := h9r k hk; omega
    clear HC HSZ hg h9r
    go_enter Tryz.func20, Tryz.ntmps20
    go_wp2_with fail
    refine C.out.mono ?_
    rintro e w1 ⟨v, rfl, ho, b1⟩
    obtain ⟨A, cm, rfl, hg1⟩ := OwnG.gridS ho
    dsimp only [Option.getD, Option.isSome] at hg1 ⊢
    have C2 := Lib.hid (impl_isIrreducible A cm m (by omega) HR.out w1 hg1)
    have B1 := Lib.hid (HB.out.trans (b1.mono s0))
    clear ho b1 hg1
    generalize irrM m = r at *
    go_wp2_with fail
    refine C2.out.mono ?_
    rintro e w2 ⟨rfl, b2⟩
    have B2 := Lib.hid (B1.out.trans (b2.mono B1.out.size))
    clear b2
    go_wp2
    go_ret
    exact ⟨rfl, B2.out⟩
end Go.Proofs.YtalclebehbdliaaGreat
