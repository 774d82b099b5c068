/-
  The contract of slices.Reverse at the functions of this translation, at bytes: every block of bytes; it is the guide library's own theorem, applied.
-/
import Derived.Shelf.SlicesE.Reverse
import Derived.Ground.SlgnProg
import Derived.Test.YtomaanpmjlgpfaaProg
namespace Go.Proofs
open Go.Shelf
def Try.rev77_ren : Go.Shelf.Ren := ⟨fun | 35 => 77 | n => n, fun | 22 => 22 | 23 => 5 | 3 => 3 | 4 => 4 | 0 => 0 | n => n, fun | n => n⟩
theorem Try.rev77 : Go.Proofs.SlLaysE.n35 Try.prog Try.rev77_ren := {
  mixed := by kernel_rfl
  f35 := ⟨Try.f77.name, by decide, Try.func77.trans (congrArg some (by kernel_rfl))⟩
  t0 := Try.underlying0
  a0 := Try.isAgg0
  z0 := Try.sizeOf0
  v0 := Try.zeroValue0
  t3 := Try.underlying3
  a3 := Try.isAgg3
  z3 := Try.sizeOf3
  v3 := Try.zeroValue3
  t4 := Try.underlying4
  a4 := Try.isAgg4
  z4 := Try.sizeOf4
  v4 := Try.zeroValue4
  t22 := Try.underlying22
  a22 := Try.isAgg22
  z22 := Try.sizeOf22
  v22 := Try.zeroValue22
  a23 := Try.isAgg5
  z23 := Try.sizeOf5 }
open Go.RowKit Go.Lib Go.Sort in
/-- slices.Reverse at bytes. -/
theorem Try.slices_Reverse_bytes (blk off cap : Nat) (zs : List UInt8) (w : World) (hH : Holds (fun b : UInt8 => Value.int .u8 b.toNat) w blk off zs.toArray) (hsz : zs.length ≤ 9223372036854775807) :
    Calls Try.prog 77 #[.slice (some ⟨blk, off, none⟩) zs.length cap] w fun e w' => e = .returned (.tuple #[]) ∧ ∃ n, w' = putRow (fun b : UInt8 => Value.int .u8 b.toNat) (Sort.ahead w n) blk off zs.reverse.toArray :=
  AnyE.slices_Reverse Try.rev77 (fun b : UInt8 => Value.int .u8 b.toNat) (fun _ => rfl) blk off cap zs w hH hsz
end Go.Proofs
