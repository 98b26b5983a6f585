import Derived.Shelf.SlCmpFuncs.BinarySearchFunc
import Derived.Shelf.SlCmpFuncs.None
import Derived.Ground.SlsgProg
import Derived.Test.YtkinilhapgagcabDoorProg
namespace Go.Proofs
open Go.Shelf
def Tryd.bsf_ren : Go.Shelf.Ren := ⟨fun | 14 => 51 | n => n, fun | 22 => 25 | 24 => 3 | 29 => 3 | 32 => 34 | 3 => 3 | 4 => 4 | 35 => 75 | 0 => 0 | n => n, fun | n => n⟩
theorem Tryd.bsf : Go.Proofs.SlLaysG2.n14 Tryd.prog Tryd.bsf_ren := {
  mixed := by kernel_rfl
  f14 := ⟨Tryd.f51.name, by decide, Tryd.func51.trans (congrArg some (by kernel_rfl))⟩
  t0 := Tryd.underlying0
  a0 := Tryd.isAgg0
  z0 := Tryd.sizeOf0
  v0 := Tryd.zeroValue0
  t3 := Tryd.underlying3
  a3 := Tryd.isAgg3
  z3 := Tryd.sizeOf3
  v3 := Tryd.zeroValue3
  t4 := Tryd.underlying4
  a4 := Tryd.isAgg4
  z4 := Tryd.sizeOf4
  v4 := Tryd.zeroValue4
  t22 := Tryd.underlying25
  a22 := Tryd.isAgg25
  z22 := Tryd.sizeOf25
  v22 := Tryd.zeroValue25
  a24 := Tryd.isAgg3
  z24 := Tryd.sizeOf3
  a29 := Tryd.isAgg3
  z29 := Tryd.sizeOf3
  t32 := Tryd.underlying34
  a32 := Tryd.isAgg34
  z32 := Tryd.sizeOf34
  v32 := Tryd.zeroValue34
  t35 := Tryd.underlying75
  a35 := Tryd.isAgg75
  z35 := Tryd.sizeOf75
  v35 := Tryd.zeroValue75 }
end Go.Proofs
