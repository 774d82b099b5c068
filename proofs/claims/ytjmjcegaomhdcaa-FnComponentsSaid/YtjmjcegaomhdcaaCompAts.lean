/-
  The program's functions on components and periods at the laws' copies.
-/
import Derived.Test.YtjmjcegaomhdcaaPerI
import Derived.Test.YtjmjcegaomhdcaaCompCopies
namespace Go.Proofs.Ytjmjcegaomhdcaa
open Go Go.RowKit

theorem newG_impl {m : List (List Int)} (hm : SizeB m) {w : World} {e : Ending} {w' : World} (h : NewG m w e w') : ImplG m w e w' := by
  obtain ⟨v, he, ho, hb⟩ := h
  exact ⟨v, he, ho.res hm, hb⟩
theorem newA_impl {xs : List Int} (hm : SizeL xs) {w : World} {e : Ending} {w' : World} (h : NewA xs w e w') : ImplA xs w e w' := by
  obtain ⟨v, he, ho, hb⟩ := h
  exact ⟨v, he, ho.res hm, hb⟩
theorem implV_reachOf {m : List (List Int)} (hz : SizeB m) {v : Value} {w : World} (h : GridV w v m) : Calls Try.prog 15 #[v] w (NewG (reachS m) w) := by
  obtain ⟨A, c, rfl, hg⟩ := h
  obtain ⟨h1, h2, h3⟩ := rows_le hz
  exact impl_reachOf A c m (by omega) h3 w hg
theorem implV_componentsOf {m : List (List Int)} (hz : SizeB m) {v : Value} {w : World} (h : GridV w v m) : Calls Try.prog 14 #[v] w (NewG (compS m) w) := by
  obtain ⟨A, c, rfl, hg⟩ := h
  obtain ⟨h1, h2, h3⟩ := rows_le hz
  exact impl_componentsOf A c m (by omega) h3 w hg
theorem implV_isIrreducible {m : List (List Int)} (hz : SizeB m) {v : Value} {w : World} (h : GridV w v m) : Calls Try.prog 25 #[v] w (Scalar (.bool (irrM m)) w) := by
  obtain ⟨A, c, rfl, hg⟩ := h
  obtain ⟨h1, h2, h3⟩ := rows_le hz
  exact impl_isIrreducible A c m (by omega) h3 w hg
theorem implV_periodOf {m : List (List Int)} (hz : SizeB m) {v : Value} {w : World} (h : GridV w v m) : Calls Try.prog 13 #[v] w (Scalar (.int .i64 (perS m)) w) := by
  obtain ⟨A, c, rfl, hg⟩ := h
  obtain ⟨h1, h2, h3⟩ := rows_le hz
  exact impl_periodOf A c m (by omega) h3 w hg
theorem implV_isPrimitive {m : List (List Int)} (hz : SizeB m) {v : Value} {w : World} (h : GridV w v m) : Calls Try.prog 27 #[v] w (Scalar (.bool (primM m)) w) := by
  obtain ⟨A, c, rfl, hg⟩ := h
  obtain ⟨h1, h2, h3⟩ := rows_le hz
  exact impl_isPrimitive A c m (by omega) h3 w hg
theorem implV_primitiveStep {m : List (List Int)} (hz : SizeB m) {v : Value} {w : World} (h : GridV w v m) : Calls Try.prog 17 #[v] w (Scalar (.int .i64 ((stepN m : Nat) : Int)) w) := by
  obtain ⟨A, c, rfl, hg⟩ := h
  obtain ⟨h1, h2, h3⟩ := rows_le hz
  exact impl_primitiveStep A c m (by omega) h3 w hg
theorem implV_turnsOf {m : List (List Int)} (hz : SizeB m) {v : Value} {w : World} (h : GridV w v m) : Calls Try.prog 16 #[v] w (NewA (turnsM m) w) := by
  obtain ⟨A, c, rfl, hg⟩ := h
  obtain ⟨h1, h2, h3⟩ := rows_le hz
  exact impl_turnsOf A c m (by omega) h3 w hg
theorem atImpl_reachOf (W : World) (m : List (List Int)) : At1 W 15 m (ImplG (reachS m)) := fun _ _ _ hz ho => (implV_reachOf hz ho.gridV).mono fun _ _ h => newG_impl (sizeB_reach m) h
theorem atImpl_componentsOf (W : World) (m : List (List Int)) : At1 W 14 m (ImplG (compS m)) := fun _ _ _ hz ho => (implV_componentsOf hz ho.gridV).mono fun _ _ h => newG_impl (sizeB_comp m) h
theorem atImpl_isIrreducible (W : World) (m : List (List Int)) : At1 W 25 m (Scalar (.bool (irrM m))) := fun _ _ _ hz ho => implV_isIrreducible hz ho.gridV
theorem atImpl_periodOf (W : World) (m : List (List Int)) : At1 W 13 m (Scalar (.int .i64 (perS m))) := fun _ _ _ hz ho => implV_periodOf hz ho.gridV
theorem atImpl_isPrimitive (W : World) (m : List (List Int)) : At1 W 27 m (Scalar (.bool (primM m))) := fun _ _ _ hz ho => implV_isPrimitive hz ho.gridV
theorem atImpl_primitiveStep (W : World) (m : List (List Int)) : At1 W 17 m (Scalar (.int .i64 ((stepN m : Nat) : Int))) := fun _ _ _ hz ho => implV_primitiveStep hz ho.gridV
theorem atImpl_turnsOf (W : World) (m : List (List Int)) : At1 W 16 m (ImplA (turnsM m)) := fun _ _ _ hz ho => (implV_turnsOf hz ho.gridV).mono fun _ _ h => newA_impl (sizeL_turns m) h
end Go.Proofs.Ytjmjcegaomhdcaa
