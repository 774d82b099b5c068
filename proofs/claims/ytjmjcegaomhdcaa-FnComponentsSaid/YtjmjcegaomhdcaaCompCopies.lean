/-
  The model's functions on components and periods at the laws' copies, and that their tables and lists are not too large.
-/
import Derived.Test.YtjmjcegaomhdcaaCompList
import Derived.Test.YtjmjcegaomhdcaaTurnsSpec
import Derived.Test.YtjmjcegaomhdcaaMatSize
namespace Go.Proofs.Ytjmjcegaomhdcaa
open Go Go.RowKit

theorem sizeB_small {m : List (List Int)} (h1 : m.length ≤ 9) (h2 : ∀ r ∈ m, r.length ≤ 9) : SizeB m := by
  have := tot_le_of h2
  unfold SizeB; omega
theorem sizeB_reach (m : List (List Int)) : SizeB (reachS m) := by
  unfold reachS
  split
  · next h =>
    have hle := (isMat_facts h).le
    refine sizeB_small (by rw [(reachM_facts m).1]; exact hle) fun r hr => ?_
    unfold reachM tabOf at hr
    obtain ⟨i, _, rfl⟩ := List.mem_map.1 hr
    simp only [List.length_map, List.length_range]
    exact hle
  · exact sizeB_nil
theorem sizeB_comp (m : List (List Int)) : SizeB (compS m) := by
  unfold compS
  split
  · next h =>
    have hle := (isMat_facts h).le
    refine sizeB_small (Nat.le_trans (compM_len m _) hle) fun r hr => ?_
    unfold compM at hr
    obtain ⟨l, hl, hr2⟩ := List.mem_flatten.1 hr
    obtain ⟨i, _, rfl⟩ := List.mem_map.1 hl
    rw [compList_is] at hr2
    split at hr2
    · obtain rfl := List.mem_singleton.1 hr2
      exact Nat.le_trans (compTo_len m i _) hle
    · cases hr2
  · exact sizeB_nil
theorem sizeL_turns (m : List (List Int)) : SizeL (turnsM m) := by
  unfold turnsM SizeL
  split
  · next h =>
    have hle := (isMat_facts (irrM_iff.1 h).1).le
    simp only [List.length_map, List.length_range]
    omega
  · exact Nat.zero_le _
theorem specV_reachOf {m : List (List Int)} (hz : SizeB m) {v : Value} {w : World} (h : GridV w v m) : Calls Try.prog 21 #[v] w (NewG (reachS m) w) := by
  obtain ⟨A, c, rfl, hg⟩ := h
  obtain ⟨h1, h2, _⟩ := rows_le hz
  exact spec_reachOf A c m h1 h2 w hg
theorem specV_componentsOf {m : List (List Int)} (hz : SizeB m) {v : Value} {w : World} (h : GridV w v m) : Calls Try.prog 20 #[v] w (NewG (compS m) w) := by
  obtain ⟨A, c, rfl, hg⟩ := h
  obtain ⟨h1, h2, _⟩ := rows_le hz
  exact spec_components A c m h1 h2 w hg
theorem specV_isIrreducible {m : List (List Int)} (hz : SizeB m) {v : Value} {w : World} (h : GridV w v m) : Calls Try.prog 26 #[v] w (Scalar (.bool (irrM m)) w) := by
  obtain ⟨A, c, rfl, hg⟩ := h
  obtain ⟨h1, h2, _⟩ := rows_le hz
  exact spec_irreducible A c m h1 h2 w hg
theorem specV_periodOf {m : List (List Int)} (hz : SizeB m) {v : Value} {w : World} (h : GridV w v m) : Calls Try.prog 18 #[v] w (Scalar (.int .i64 (perS m)) w) := by
  obtain ⟨A, c, rfl, hg⟩ := h
  obtain ⟨h1, h2, _⟩ := rows_le hz
  exact spec_period A c m h1 h2 w hg
theorem specV_isPrimitive {m : List (List Int)} (hz : SizeB m) {v : Value} {w : World} (h : GridV w v m) : Calls Try.prog 36 #[v] w (Scalar (.bool (primM m)) w) := by
  obtain ⟨A, c, rfl, hg⟩ := h
  obtain ⟨h1, h2, _⟩ := rows_le hz
  exact spec_primitive A c m h1 h2 w hg
theorem specV_primitiveStep {m : List (List Int)} (hz : SizeB m) {v : Value} {w : World} (h : GridV w v m) : Calls Try.prog 24 #[v] w (Scalar (.int .i64 ((stepN m : Nat) : Int)) w) := by
  obtain ⟨A, c, rfl, hg⟩ := h
  obtain ⟨h1, h2, _⟩ := rows_le hz
  exact spec_primStep A c m h1 h2 w hg
theorem specV_turnsOf {m : List (List Int)} (hz : SizeB m) {v : Value} {w : World} (h : GridV w v m) : Calls Try.prog 23 #[v] w (NewA (turnsM m) w) := by
  obtain ⟨A, c, rfl, hg⟩ := h
  obtain ⟨h1, h2, _⟩ := rows_le hz
  exact spec_turns A c m h1 h2 w hg
theorem newG_spec {m : List (List Int)} {w : World} {e : Ending} {w' : World} (h : NewG m w e w') : SpecG m w e w' := by
  obtain ⟨v, he, ho, hb⟩ := h
  exact ⟨v, he, ho.gridV, hb⟩
theorem newA_spec {xs : List Int} {w : World} {e : Ending} {w' : World} (h : NewA xs w e w') : SpecA xs w e w' := by
  obtain ⟨v, he, ho, hb⟩ := h
  exact ⟨v, he, ho.rowV, hb⟩
theorem atSpec_reachOf (W : World) (m : List (List Int)) : At1 W 21 m (SpecG (reachS m)) := fun _ _ _ hz ho => (specV_reachOf hz ho.gridV).mono fun _ _ h => newG_spec h
theorem atSpec_componentsOf (W : World) (m : List (List Int)) : At1 W 20 m (SpecG (compS m)) := fun _ _ _ hz ho => (specV_componentsOf hz ho.gridV).mono fun _ _ h => newG_spec h
theorem atSpec_isIrreducible (W : World) (m : List (List Int)) : At1 W 26 m (Scalar (.bool (irrM m))) := fun _ _ _ hz ho => specV_isIrreducible hz ho.gridV
theorem atSpec_periodOf (W : World) (m : List (List Int)) : At1 W 18 m (Scalar (.int .i64 (perS m))) := fun _ _ _ hz ho => specV_periodOf hz ho.gridV
theorem atSpec_isPrimitive (W : World) (m : List (List Int)) : At1 W 36 m (Scalar (.bool (primM m))) := fun _ _ _ hz ho => specV_isPrimitive hz ho.gridV
theorem atSpec_primitiveStep (W : World) (m : List (List Int)) : At1 W 24 m (Scalar (.int .i64 ((stepN m : Nat) : Int))) := fun _ _ _ hz ho => specV_primitiveStep hz ho.gridV
theorem atSpec_turnsOf (W : World) (m : List (List Int)) : At1 W 23 m (SpecA (turnsM m)) := fun _ _ _ hz ho => (specV_turnsOf hz ho.gridV).mono fun _ _ h => newA_spec h
end Go.Proofs.Ytjmjcegaomhdcaa
