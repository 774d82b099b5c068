/-
  PLAIN FACTS ON WHAT CountSources AND FirstSource ANSWER (no program in this text).
-/
import Derived.Test.YtcoiodfggaanbaaSrcNum
namespace Go.Proofs.Ytcoiodfggaanbaa
open Go Go.RowKit

/-- What CountSources answers. -/
def countS (K N : Int) (o v : ByteArray) : Int := if fitsB K N o v = true then ((srcs K.toNat N.toNat o v v.size).length : Int) else -1
/-- What FirstSource answers. -/
def firstS (K N : Int) (o v : ByteArray) : Option ByteArray := if fitsB K N o v = true then (srcs K.toNat N.toNat o v v.size).head? else none
theorem fits_of {K N : Int} {o v : ByteArray} (h : fitsB K N o v = true) : ∃ k n : Nat, K = (k : Int) ∧ N = (n : Int) ∧ CodeOk k n o ∧ v.size ≤ 8 ∧ v.data.toList.all (isL (k : Int)) = true := by
  unfold fitsB at h
  rw [Bool.and_eq_true] at h
  obtain ⟨k, n, rfl, rfl, ok, _, ha⟩ := appOk_of h.1
  exact ⟨k, n, rfl, rfl, ok, by simpa using h.2, ha⟩
theorem countS_no {K N : Int} {o v : ByteArray} (h : fitsB K N o v = false) : countS K N o v = -1 := by unfold countS; rw [h]; rfl
theorem countS_yes {k n : Nat} {o v : ByteArray} (h : fitsB (k : Int) (n : Int) o v = true) : countS (k : Int) (n : Int) o v = ((srcs k n o v v.size).length : Int) := by
  unfold countS; rw [if_pos h, Int.toNat_natCast, Int.toNat_natCast]
theorem firstS_no {K N : Int} {o v : ByteArray} (h : fitsB K N o v = false) : firstS K N o v = none := by unfold firstS; rw [h]; rfl
theorem firstS_yes {k n : Nat} {o v : ByteArray} (h : fitsB (k : Int) (n : Int) o v = true) : firstS (k : Int) (n : Int) o v = (srcs k n o v v.size).head? := by
  unfold firstS; rw [if_pos h, Int.toNat_natCast, Int.toNat_natCast]

end Go.Proofs.Ytcoiodfggaanbaa
