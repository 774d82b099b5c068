/-
  The program's functions on graphs in the laws' later worlds, for tables that need not be the caller's own.
-/
import Derived.Test.YthljogoggiejmaaGraphsLaw
import Derived.Test.YthljogoggiejmaaPathsAt
namespace Go.Proofs.Ythljogoggiejmaa
open Go Go.RowKit

theorem graphsAt (W : World) : GraphsAt W where
  isGraph := by
    intro m v w' _ hz ho
    obtain ⟨A, c, rfl, hg⟩ := ho
    obtain ⟨h1, h2, h3⟩ := rows_le hz
    exact (impl_isGraph A c m (by omega) h3 w' hg).mono fun e w2 ⟨he, hw⟩ => ⟨he, hw ▸ Below.refl _ _⟩
  arcsOf := by
    intro m v w' _ hz ho
    obtain ⟨A, c, rfl, hg⟩ := ho
    obtain ⟨h1, h2, h3⟩ := rows_le hz
    exact (impl_arcsOf A c m (by omega) h3 w' hg).mono fun _ _ ⟨v, he, ho, hb⟩ => ⟨v, he, ho.gridV, hb⟩
  isPath := by
    intro m l v v' w' _ hz hl ho ho'
    obtain ⟨A, c, rfl, hg⟩ := ho
    obtain ⟨A', c', rfl, hr, hc⟩ := ho'
    obtain ⟨h1, h2, h3⟩ := rows_le hz
    unfold SizeL at hl
    exact impl_isPath A c m (by omega) h3 A' c' l (by omega) hc w' hg hr
  countPaths := by
    intro m n v w' _ hz ho
    obtain ⟨A, c, rfl, hg⟩ := ho
    obtain ⟨h1, h2, _⟩ := rows_le hz
    exact impl_countPaths A c m h1 h2 n w' hg
  pathsOf := by
    intro m n v w' _ hz ho
    obtain ⟨A, c, rfl, hg⟩ := ho
    obtain ⟨h1, h2, h3⟩ := rows_le hz
    exact (impl_pathsOf A c m n (by omega) h3 w' hg).mono fun _ _ ⟨v, he, ho, hb⟩ => ⟨v, he, OwnG.gridVC ho, hb⟩
  livelyOf := by
    intro m v w' _ hz ho
    obtain ⟨A, c, rfl, hg⟩ := ho
    obtain ⟨h1, h2, h3⟩ := rows_le hz
    exact (impl_livelyOf A c m (by omega) h3 w' hg).mono fun _ _ ⟨v, he, ho, hb⟩ => ⟨v, he, ho.rowV, hb⟩
  trimGraph := by
    intro m v w' _ hz ho
    obtain ⟨A, c, rfl, hg⟩ := ho
    obtain ⟨h1, h2, h3⟩ := rows_le hz
    exact (impl_trimGraph A c m (by omega) h3 w' hg).mono fun _ _ ⟨v, he, ho, hb⟩ => ⟨v, he, ho.gridV, hb⟩
  isLively := by
    intro m v w' _ hz ho
    obtain ⟨A, c, rfl, hg⟩ := ho
    obtain ⟨h1, h2, h3⟩ := rows_le hz
    exact impl_isLively A c m (by omega) h3 w' hg
  sumOf := by
    intro m v w' _ hz ho
    obtain ⟨A, c, rfl, hg⟩ := ho
    obtain ⟨h1, h2, h3⟩ := rows_le hz
    exact (impl_sumOf A c m (by omega) h3 w' hg).mono fun e w2 ⟨he, hw⟩ => ⟨he, hw ▸ Below.refl _ _⟩
end Go.Proofs.Ythljogoggiejmaa
