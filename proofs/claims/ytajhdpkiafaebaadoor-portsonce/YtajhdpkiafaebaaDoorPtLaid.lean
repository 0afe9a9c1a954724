/- The package variable that the rows list: a world in which it stands as listed; what a walk has of the list. -/
import Derived.Test.YtajhdpkiafaebaaDoorPtBase
namespace Go.Proofs.YtajhdpkiafaebaaDoor.ipld
open Go.ChangeShapes Go.WideShapes Go.ChangeAt Go.RowKit
open Go.Proofs.YtajhdpkiafaebaaDoor Go.Proofs.YtajhdpkiafaebaaDoor.pt

def lits (d : DataW Unit) : Array Value :=
  match d with
  | .agg ps => (ps.flatMap fun p => match p with
    | .lit (.int k n) => [Value.int k n]
    | _ => []).toArray
  | _ => #[]
def lay (cs : Array Value) : Obj → Obj
  | .cells _ t frozen => .cells cs t frozen
  | o => o
noncomputable def laidHeap (h : Array Obj) : Array Obj := h.modify 0 (lay (lits Rows.laid_math_bits_deBruijn64tab))
noncomputable def laidWorld (os : Os) : World :=
  { World.holding Tryd.prog os ⟨#[], #[], []⟩ with heap := laidHeap (World.holding Tryd.prog os ⟨#[], #[], []⟩).heap }
theorem tab_data : (Rows.laid_math_bits_deBruijn64tab : DataW Unit) = Lib.tabData .u8 (Lib.deBruijn64tab.map fun (n : Nat) => (n : Int)) := by kernel_rfl
theorem tab_of {W : World} {rest : List (String × DataW Unit)} (h : laidMet Tryd.prog (("math/bits.deBruijn64tab", Rows.laid_math_bits_deBruijn64tab) :: rest) W) : Tb W := by
  rw [tab_data] at h
  exact Lib.tabIs_of_head (g := 0) (by kernel_rfl) (by kernel_rfl) Tryd.underlying48 Tryd.underlying5 (by kernel_rfl) (by kernel_rfl) h
end Go.Proofs.YtajhdpkiafaebaaDoor.ipld
