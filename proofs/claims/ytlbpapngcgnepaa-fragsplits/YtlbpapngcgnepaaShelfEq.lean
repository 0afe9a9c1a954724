/- A contract of the library's, laid at this program: slices.Equal of packets. -/
import Derived.Shelf.SlicesQ.Equal
import Derived.Test.YtlbpapngcgnepaaProg
namespace Go.Proofs
open Go.Shelf
def Try.eqPk_ren : Go.Shelf.Ren := ⟨fun | 8 => 11 | n => n, fun | 22 => 25 | 24 => 24 | 4 => 4 | 3 => 3 | 0 => 0 | n => n, fun | n => n⟩
theorem Try.eqPk : Go.Proofs.SlLaysQ.n8 Try.prog Try.eqPk_ren := {
  mixed := by kernel_rfl
  f8 := ⟨Try.f11.name, by decide, Try.func11.trans (congrArg some (by kernel_rfl))⟩
  t0 := Try.underlying0
  a0 := Try.isAgg0
  z0 := Try.sizeOf0
  v0 := Try.zeroValue0
  t3 := Try.underlying3
  a3 := Try.isAgg3
  z3 := Try.sizeOf3
  v3 := Try.zeroValue3
  t4 := Try.underlying4
  a4 := Try.isAgg4
  z4 := Try.sizeOf4
  v4 := Try.zeroValue4
  t22 := Try.underlying25
  a22 := Try.isAgg25
  z22 := Try.sizeOf25
  v22 := Try.zeroValue25 }
end Go.Proofs
