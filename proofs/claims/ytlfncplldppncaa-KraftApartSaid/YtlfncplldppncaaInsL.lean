/-
  A contract of the library, laid at this program's own numbers. No condition.
-/
import Derived.Shelf.SlSortCmp.Insertion1
import Derived.Test.YtlfncplldppncaaProg
namespace Go.Proofs.Ytlfncplldppncaa
open Go.Shelf

def insInt_ren : Go.Shelf.Ren := ⟨fun | 20 => 46 | n => n, fun | 24 => 3 | 22 => 28 | 3 => 3 | 25 => 66 | 4 => 4 | 0 => 0 | n => n, fun | n => n⟩
theorem insInt : SlLaysF.n20 Try.prog insInt_ren :=
  {
    mixed := by kernel_rfl,
    f20 := ⟨Try.f46.name, by decide, Try.func46.trans (congrArg some (by kernel_rfl))⟩,
    t0 := Try.underlying0,
    a0 := Try.isAgg0,
    z0 := Try.sizeOf0,
    v0 := Try.zeroValue0,
    t3 := Try.underlying3,
    a3 := Try.isAgg3,
    z3 := Try.sizeOf3,
    v3 := Try.zeroValue3,
    t4 := Try.underlying4,
    a4 := Try.isAgg4,
    z4 := Try.sizeOf4,
    v4 := Try.zeroValue4,
    t22 := Try.underlying28,
    a22 := Try.isAgg28,
    z22 := Try.sizeOf28,
    v22 := Try.zeroValue28,
    a24 := Try.isAgg3,
    z24 := Try.sizeOf3,
    t25 := Try.underlying66,
    a25 := Try.isAgg66,
    z25 := Try.sizeOf66,
    v25 := Try.zeroValue66 }
end Go.Proofs.Ytlfncplldppncaa
