/-
  A contract of the library, laid at this program's own numbers. No condition.
-/
import Derived.Shelf.SlSortCmp.Insertion1
import Derived.Test.YtldhcmoecmfigaaDoorProg
namespace Go.Proofs.YtldhcmoecmfigaaDoor
open Go.Shelf

def insInt_ren : Go.Shelf.Ren := ⟨fun | 20 => 54 | n => n, fun | 24 => 3 | 22 => 38 | 3 => 3 | 25 => 64 | 4 => 4 | 0 => 0 | n => n, fun | n => n⟩
theorem insInt : SlLaysF.n20 Tryd.prog insInt_ren :=
  {
    mixed := by kernel_rfl,
    f20 := ⟨Tryd.f54.name, by decide, Tryd.func54.trans (congrArg some (by kernel_rfl))⟩,
    t0 := Tryd.underlying0,
    a0 := Tryd.isAgg0,
    z0 := Tryd.sizeOf0,
    v0 := Tryd.zeroValue0,
    t3 := Tryd.underlying3,
    a3 := Tryd.isAgg3,
    z3 := Tryd.sizeOf3,
    v3 := Tryd.zeroValue3,
    t4 := Tryd.underlying4,
    a4 := Tryd.isAgg4,
    z4 := Tryd.sizeOf4,
    v4 := Tryd.zeroValue4,
    t22 := Tryd.underlying38,
    a22 := Tryd.isAgg38,
    z22 := Tryd.sizeOf38,
    v22 := Tryd.zeroValue38,
    a24 := Tryd.isAgg3,
    z24 := Tryd.sizeOf3,
    t25 := Tryd.underlying64,
    a25 := Tryd.isAgg64,
    z25 := Tryd.sizeOf64,
    v25 := Tryd.zeroValue64 }
end Go.Proofs.YtldhcmoecmfigaaDoor
