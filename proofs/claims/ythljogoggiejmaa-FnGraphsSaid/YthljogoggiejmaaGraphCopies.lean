/-
  The model's functions on graphs at the laws' copies, and that their tables are not too large.
-/
import Derived.Test.YthljogoggiejmaaGraphFill
import Derived.Test.YthljogoggiejmaaGraphTrim
import Derived.Test.YthljogoggiejmaaGraphCount
namespace Go.Proofs.Ythljogoggiejmaa
open Go Go.RowKit

def At1A (W : World) (f : Nat) (m : List (List Int)) (l : List Int) (P : World → Ending → World → Prop) : Prop := ∀ v v' w', Below W.heap.size W w' → SizeB m → SizeL l → OwnG w' W.heap.size v m → OwnA w' W.heap.size v' l → Calls Try.prog f #[v, v'] w' (P w')
theorem atSpec_isGraph (W : World) (m : List (List Int)) : At1 W 31 m (Scalar (.bool (isGraphM m))) := by
  intro v w' _ hz ho
  obtain ⟨A, c, rfl, hg⟩ := ho.gridS
  obtain ⟨h1, h2, h3⟩ := rows_le hz
  exact (spec_isGraph A c m (by omega) h3 w' hg).mono fun e w2 ⟨he, hw⟩ => ⟨he, hw ▸ Below.refl _ _⟩
theorem atSpec_arcsOf (W : World) (m : List (List Int)) : At1 W 27 m (SpecG (arcsOfM m)) := by
  intro v w' _ hz ho
  obtain ⟨A, c, rfl, hg⟩ := ho.gridS
  obtain ⟨h1, h2, h3⟩ := rows_le hz
  exact (spec_arcsOf A c m (by omega) h3 w' hg).mono fun _ _ ⟨v, he, ho, hb⟩ => ⟨v, he, ho.gridV, hb⟩
theorem atSpec_isPath (W : World) (m : List (List Int)) (l : List Int) : At1A W 24 m l (Scalar (.bool (isGraphM m && isPathM (arcsM m) l))) := by
  intro v v' w' _ hz hl ho ho'
  obtain ⟨A, c, rfl, hg⟩ := ho.gridS
  obtain ⟨A', c', rfl, hr⟩ := ho'.rowV
  obtain ⟨h1, h2, h3⟩ := rows_le hz
  unfold SizeL at hl
  exact spec_isPath A c m (by omega) h3 A' c' l (by omega) w' hg hr
theorem atSpec_countPaths (W : World) (m : List (List Int)) (n : Int) : At1I W 29 m n (Scalar (.int .i64 (countM m n))) := by
  intro v w' _ hz ho
  obtain ⟨A, c, rfl, hg⟩ := ho.gridS
  obtain ⟨h1, h2, _⟩ := rows_le hz
  exact spec_countPaths A c m h1 h2 n w' hg
theorem atSpec_pathsOf (W : World) (m : List (List Int)) (n : Int) : At1I W 22 m n (SpecG (pathsM m n)) := by
  intro v w' _ hz ho
  obtain ⟨A, c, rfl, hg⟩ := ho.gridS
  obtain ⟨h1, h2, _⟩ := rows_le hz
  exact (spec_pathsOf A c m h1 h2 n w' hg).mono fun _ _ ⟨v, he, ho, hb⟩ => ⟨v, he, ho.gridV, hb⟩
theorem atSpec_livelyOf (W : World) (m : List (List Int)) : At1 W 26 m (SpecA (livelyM m)) := by
  intro v w' _ hz ho
  obtain ⟨A, c, rfl, hg⟩ := ho.gridS
  obtain ⟨h1, h2, h3⟩ := rows_le hz
  exact (spec_livelyOf A c m (by omega) h3 w' hg).mono fun _ _ ⟨v, he, ho, hb⟩ => ⟨v, he, ho.rowV, hb⟩
theorem atSpec_trimGraph (W : World) (m : List (List Int)) : At1 W 18 m (SpecGB ((trimM m).getD []) (trimM m).isSome) := by
  intro v w' _ hz ho
  obtain ⟨A, c, rfl, hg⟩ := ho.gridS
  obtain ⟨h1, h2, h3⟩ := rows_le hz
  exact (spec_trimGraph A c m (by omega) h3 w' hg).mono fun _ _ ⟨v, he, ho, hb⟩ => ⟨v, he, ho.gridV, hb⟩
theorem atSpec_isLively (W : World) (m : List (List Int)) : At1 W 33 m (Scalar (.bool (isLivelyM m))) := by
  intro v w' _ hz ho
  obtain ⟨A, c, rfl, hg⟩ := ho.gridS
  obtain ⟨h1, h2, h3⟩ := rows_le hz
  exact spec_isLively A c m (by omega) h3 w' hg

theorem arcsM_le {m : List (List Int)} (h : isGraphM m = true) : (arcsM m).length ≤ 60 := by
  obtain ⟨hz, hs⟩ := isGraphM_facts h
  have := arcsM_length hz
  omega
theorem sizeB_arcs (m : List (List Int)) : SizeB (arcsOfM m) := by
  unfold arcsOfM
  split
  · next h =>
    have h1 := arcsM_le h
    have h2 := tot_le_of (m := arcsM m) (n := 2) fun r hr => by rw [arcsM_two m r hr]; exact Nat.le_refl _
    unfold SizeB; omega
  · exact sizeB_nil
/-- The paths are as many as CountPaths says, and each has n arcs. -/
theorem pathsM_facts {m : List (List Int)} {n : Int} (h : pathsOkM m n = true) : ((pathsM m n).length : Int) = countM m n ∧ (∀ p ∈ pathsM m n, (p.length : Int) = n) ∧ 1 ≤ n ∧ n ≤ 6 ∧ countM m n ≤ 500 := by
  unfold pathsM
  rw [if_pos h]
  unfold pathsOkM at h
  rw [Bool.and_eq_true, Bool.and_eq_true, Bool.and_eq_true, Bool.and_eq_true, decide_eq_true_iff, decide_eq_true_iff, decide_eq_true_iff, decide_eq_true_iff] at h
  obtain ⟨hg, ⟨h1, h6⟩, h0, h5⟩ := h
  obtain ⟨hz, _⟩ := isGraphM_facts hg
  obtain ⟨d, rfl⟩ : ∃ d : Nat, n = ((d + 1 : Nat) : Int) := ⟨(n - 1).toNat, by omega⟩
  rw [Int.toNat_natCast]
  refine ⟨?_, fun p hp => ?_, h1, h6, h5⟩
  · have hp : powS m ((d + 1 : Nat) : Int) = powM m (d + 1) := by
      unfold powS
      rw [if_pos ⟨hz, by omega, by omega⟩, Int.toNat_natCast]
    unfold countM at h0 ⊢
    rw [hp] at h0 ⊢
    cases hq : powM m (d + 1) with
    | none => rw [hq] at h0; simp at h0
    | some P => exact paths_count hz d hq
  · have := fillM_length (arcsM m) (d + 1) [] p hp
    simp at this
    omega
theorem sizeB_paths (m : List (List Int)) (n : Int) : SizeB (pathsM m n) := by
  cases h : pathsOkM m n with
  | false =>
    unfold pathsM
    rw [h, if_neg (by decide)]
    exact sizeB_nil
  | true =>
    obtain ⟨h1, h2, h3, h4, h5⟩ := pathsM_facts h
    have h6 := tot_le_of (m := pathsM m n) (n := 6) fun p hp => by have := h2 p hp; omega
    unfold SizeB; omega
theorem sizeL_lively (m : List (List Int)) : SizeL (livelyM m) := by
  have := livelyM_le m
  unfold SizeL; omega
theorem sizeB_trim (m : List (List Int)) : SizeB ((trimM m).getD []) := by
  unfold trimM
  split
  · exact sizeB_nil
  · have h9 := livelyM_le m
    have hl : (partM m (livelyM m)).length = (livelyM m).length := tabOf_length _ _ _
    have h2 := tot_le_of (m := partM m (livelyM m)) (n := 9) fun r hr => by
      obtain ⟨i, hi, rfl⟩ := List.getElem_of_mem hr
      have e : (partM m (livelyM m)).getD i [] = (partM m (livelyM m))[i] := by simp [List.getD, hi]
      rw [← e]
      rw [hl] at hi
      unfold partM
      rw [tabOf_row hi]; simp; exact h9
    show SizeB (partM m (livelyM m))
    unfold SizeB; omega
end Go.Proofs.Ythljogoggiejmaa
