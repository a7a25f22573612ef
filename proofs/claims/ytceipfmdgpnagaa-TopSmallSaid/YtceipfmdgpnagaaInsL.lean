/-
  A contract of the library, laid at this program's own numbers. No condition.
-/
import Derived.Shelf.SlSortCmp.Insertion1
import Derived.Test.YtceipfmdgpnagaaProg
namespace Go.Proofs.Ytceipfmdgpnagaa
open Go.Shelf

def insInt_ren : Go.Shelf.Ren := ⟨fun | 20 => 53 | n => n, fun | 24 => 3 | 22 => 22 | 3 => 3 | 25 => 70 | 4 => 4 | 0 => 0 | n => n, fun | n => n⟩
theorem insInt : SlLaysF.n20 Try.prog insInt_ren :=
  {
    mixed := by kernel_rfl,
    f20 := ⟨Try.f53.name, by decide, Try.func53.trans (congrArg some (by kernel_rfl))⟩,
    t0 := Try.underlying0,
    a0 := Try.isAgg0,
    z0 := Try.sizeOf0,
    v0 := Try.zeroValue0,
    t3 := Try.underlying3,
    a3 := Try.isAgg3,
    z3 := Try.sizeOf3,
    v3 := Try.zeroValue3,
    t4 := Try.underlying4,
    a4 := Try.isAgg4,
    z4 := Try.sizeOf4,
    v4 := Try.zeroValue4,
    t22 := Try.underlying22,
    a22 := Try.isAgg22,
    z22 := Try.sizeOf22,
    v22 := Try.zeroValue22,
    a24 := Try.isAgg3,
    z24 := Try.sizeOf3,
    t25 := Try.underlying70,
    a25 := Try.isAgg70,
    z25 := Try.sizeOf70,
    v25 := Try.zeroValue70 }
end Go.Proofs.Ytceipfmdgpnagaa
