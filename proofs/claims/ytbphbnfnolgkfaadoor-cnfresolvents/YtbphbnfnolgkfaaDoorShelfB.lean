import Derived.Shelf.SlCmpFuncs.BinarySearchFunc
import Derived.Shelf.SlCmpFuncs.None
import Derived.Ground.SlsgProg
import Derived.Test.YtbphbnfnolgkfaaDoorProg
namespace Go.Proofs
open Go.Shelf
def Tryd.bsf_ren : Go.Shelf.Ren := ⟨fun | 14 => 60 | n => n, fun | 22 => 31 | 24 => 3 | 29 => 3 | 32 => 85 | 3 => 3 | 4 => 4 | 35 => 88 | 0 => 0 | n => n, fun | n => n⟩
theorem Tryd.bsf : Go.Proofs.SlLaysG2.n14 Tryd.prog Tryd.bsf_ren := {
  mixed := by kernel_rfl
  f14 := ⟨Tryd.f60.name, by decide, Tryd.func60.trans (congrArg some (by kernel_rfl))⟩
  t0 := Tryd.underlying0
  a0 := Tryd.isAgg0
  z0 := Tryd.sizeOf0
  v0 := Tryd.zeroValue0
  t3 := Tryd.underlying3
  a3 := Tryd.isAgg3
  z3 := Tryd.sizeOf3
  v3 := Tryd.zeroValue3
  t4 := Tryd.underlying4
  a4 := Tryd.isAgg4
  z4 := Tryd.sizeOf4
  v4 := Tryd.zeroValue4
  t22 := Tryd.underlying31
  a22 := Tryd.isAgg31
  z22 := Tryd.sizeOf31
  v22 := Tryd.zeroValue31
  a24 := Tryd.isAgg3
  z24 := Tryd.sizeOf3
  a29 := Tryd.isAgg3
  z29 := Tryd.sizeOf3
  t32 := Tryd.underlying85
  a32 := Tryd.isAgg85
  z32 := Tryd.sizeOf85
  v32 := Tryd.zeroValue85
  t35 := Tryd.underlying88
  a35 := Tryd.isAgg88
  z35 := Tryd.sizeOf88
  v35 := Tryd.zeroValue88 }
end Go.Proofs
