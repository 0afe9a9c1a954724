/- The package variables that the rows list: a world in which they stand as listed. -/
import Derived.Test.YtpcknkpddinccaaDoorRows
import Derived.WalkKit
import Derived.ProofKit
import Derived.Lib.LaidTab
import Derived.Deep.DeepHandedRow
import Derived.LaidLaws
namespace Go.Proofs.YtpcknkpddinccaaDoor.ipld
open Go.ChangeShapes Go.WideShapes Go.ChangeAt Go.RowKit
open Go.Proofs.YtpcknkpddinccaaDoor

/-- what a listed datum lays in cells, two levels deep -/
def lits (d : DataW Unit) : Array Value :=
  match d with
  | .agg ps => (ps.flatMap fun p => match p with
    | .lit (.int k n) => [Value.int k n]
    | .agg qs => qs.map fun q => match q with
      | .lit (.int k n) => Value.int k n
      | _ => undef
    | _ => []).toArray
  | _ => #[]
def lay (cs : Array Value) : Obj → Obj
  | .cells _ t frozen => .cells cs t frozen
  | o => o
noncomputable def laidHeap (h : Array Obj) : Array Obj :=
  (h.modify 1 (lay (Go.Pinned.utf8FirstZ.map fun (z : Nat) => Value.int .u8 (z : Int)).toArray)).modify 2 (lay (lits Rows.laid_unicode_utf8_acceptRanges))
noncomputable def laidWorld (os : Os) : World :=
  { World.holding Tryd.prog os ⟨#[], #[], []⟩ with heap := laidHeap (World.holding Tryd.prog os ⟨#[], #[], []⟩).heap }
end Go.Proofs.YtpcknkpddinccaaDoor.ipld
