import Derived.Shelf.SlCmpFuncs.BinarySearchFunc
import Derived.Shelf.SlCmpFuncs.None
import Derived.Ground.SlsgProg
import Derived.Test.YtkinilhapgagcaaProg
namespace Go.Proofs
open Go.Shelf
def Try.bsf_ren : Go.Shelf.Ren := ⟨fun | 14 => 33 | n => n, fun | 22 => 25 | 24 => 3 | 29 => 3 | 32 => 45 | 3 => 3 | 4 => 4 | 35 => 48 | 0 => 0 | n => n, fun | n => n⟩
theorem Try.bsf : Go.Proofs.SlLaysG2.n14 Try.prog Try.bsf_ren := {
  mixed := by kernel_rfl
  f14 := ⟨Try.f33.name, by decide, Try.func33.trans (congrArg some (by kernel_rfl))⟩
  t0 := Try.underlying0
  a0 := Try.isAgg0
  z0 := Try.sizeOf0
  v0 := Try.zeroValue0
  t3 := Try.underlying3
  a3 := Try.isAgg3
  z3 := Try.sizeOf3
  v3 := Try.zeroValue3
  t4 := Try.underlying4
  a4 := Try.isAgg4
  z4 := Try.sizeOf4
  v4 := Try.zeroValue4
  t22 := Try.underlying25
  a22 := Try.isAgg25
  z22 := Try.sizeOf25
  v22 := Try.zeroValue25
  a24 := Try.isAgg3
  z24 := Try.sizeOf3
  a29 := Try.isAgg3
  z29 := Try.sizeOf3
  t32 := Try.underlying45
  a32 := Try.isAgg45
  z32 := Try.sizeOf45
  v32 := Try.zeroValue45
  t35 := Try.underlying48
  a35 := Try.isAgg48
  z35 := Try.sizeOf48
  v35 := Try.zeroValue48 }
end Go.Proofs
