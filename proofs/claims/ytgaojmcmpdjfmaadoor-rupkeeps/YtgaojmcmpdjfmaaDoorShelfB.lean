import Derived.Shelf.SlCmpFuncs.BinarySearchFunc
import Derived.Shelf.SlCmpFuncs.None
import Derived.Ground.SlsgProg
import Derived.Test.YtgaojmcmpdjfmaaDoorProg
namespace Go.Proofs
open Go.Shelf
def Tryd.bsf_ren : Go.Shelf.Ren := ⟨fun | 14 => 44 | n => n, fun | 22 => 25 | 24 => 3 | 29 => 3 | 32 => 48 | 3 => 3 | 4 => 4 | 35 => 92 | 0 => 0 | n => n, fun | n => n⟩
theorem Tryd.bsf : Go.Proofs.SlLaysG2.n14 Tryd.prog Tryd.bsf_ren := {
  mixed := by kernel_rfl
  f14 := ⟨Tryd.f44.name, by decide, Tryd.func44.trans (congrArg some (by kernel_rfl))⟩
  t0 := Tryd.underlying0
  a0 := Tryd.isAgg0
  z0 := Tryd.sizeOf0
  v0 := Tryd.zeroValue0
  t3 := Tryd.underlying3
  a3 := Tryd.isAgg3
  z3 := Tryd.sizeOf3
  v3 := Tryd.zeroValue3
  t4 := Tryd.underlying4
  a4 := Tryd.isAgg4
  z4 := Tryd.sizeOf4
  v4 := Tryd.zeroValue4
  t22 := Tryd.underlying25
  a22 := Tryd.isAgg25
  z22 := Tryd.sizeOf25
  v22 := Tryd.zeroValue25
  a24 := Tryd.isAgg3
  z24 := Tryd.sizeOf3
  a29 := Tryd.isAgg3
  z29 := Tryd.sizeOf3
  t32 := Tryd.underlying48
  a32 := Tryd.isAgg48
  z32 := Tryd.sizeOf48
  v32 := Tryd.zeroValue48
  t35 := Tryd.underlying92
  a35 := Tryd.isAgg92
  z35 := Tryd.sizeOf92
  v35 := Tryd.zeroValue92 }
end Go.Proofs
