/-
  A contract of the library, laid at this program's own numbers. No condition.
-/
import Derived.Shelf.SlSortCmp.Insertion1
import Derived.Test.YtlfncplldppncaaDoorProg
namespace Go.Proofs.YtlfncplldppncaaDoor
open Go.Shelf

def insInt_ren : Go.Shelf.Ren := ⟨fun | 20 => 45 | n => n, fun | 24 => 3 | 22 => 22 | 3 => 3 | 25 => 59 | 4 => 4 | 0 => 0 | n => n, fun | n => n⟩
theorem insInt : SlLaysF.n20 Tryd.prog insInt_ren :=
  {
    mixed := by kernel_rfl,
    f20 := ⟨Tryd.f45.name, by decide, Tryd.func45.trans (congrArg some (by kernel_rfl))⟩,
    t0 := Tryd.underlying0,
    a0 := Tryd.isAgg0,
    z0 := Tryd.sizeOf0,
    v0 := Tryd.zeroValue0,
    t3 := Tryd.underlying3,
    a3 := Tryd.isAgg3,
    z3 := Tryd.sizeOf3,
    v3 := Tryd.zeroValue3,
    t4 := Tryd.underlying4,
    a4 := Tryd.isAgg4,
    z4 := Tryd.sizeOf4,
    v4 := Tryd.zeroValue4,
    t22 := Tryd.underlying22,
    a22 := Tryd.isAgg22,
    z22 := Tryd.sizeOf22,
    v22 := Tryd.zeroValue22,
    a24 := Tryd.isAgg3,
    z24 := Tryd.sizeOf3,
    t25 := Tryd.underlying59,
    a25 := Tryd.isAgg59,
    z25 := Tryd.sizeOf59,
    v25 := Tryd.zeroValue59 }
end Go.Proofs.YtlfncplldppncaaDoor
