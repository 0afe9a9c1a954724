/- Ports as they lie in memory; the table of the library's by which the least bit is told. -/
import Derived.Test.YtajhdpkiafaebaaDoorPtPop
import Derived.Test.YtajhdpkiafaebaaDoorRwsRd
import Derived.Test.YtajhdpkiafaebaaDoorAb
import Derived.Test.YtajhdpkiafaebaaDoorBlkRets
import Derived.Test.YtajhdpkiafaebaaDoorLastn
import Derived.Lib.LaidTab
import Derived.Lib.AppendIntMem
import Derived.LaidLaws
import Derived.Deep.DeepHandedRow
import Derived.WalkSpells
import Derived.WalkLawsBesides
import Derived.BigQuiet
import Derived.Deep.RegionWith
import Derived.Deep.DeepCutAuto
import Derived.LoopN
namespace Go.Proofs.YtajhdpkiafaebaaDoor.pt
open Go.ChangeShapes Go.WideShapes Go.ChangeAt Go.RowKit
open Go.Proofs.YtajhdpkiafaebaaDoor.pm Go.Proofs.YtajhdpkiafaebaaDoor.pp Go.Proofs.YtajhdpkiafaebaaDoor.boxes Go.Proofs.YtajhdpkiafaebaaDoor.rwr
open Go.Proofs.YtajhdpkiafaebaaDoor.rws (Knd Own)

/-- ports as they lie: Base, Taken -/
abbrev PC (b : Int) (t : Nat) : Array Value := #[.int .i64 b, .int .u64 (t : Int)]
abbrev Z2 : Array Value := #[.int .i64 0, .int .u64 0]
def NK : Knd Int := { e := 3, s := 33, k := 1, by_ := 8, z := .int .i64 0, enc := fun v => #[.int .i64 v], hk := fun _ => rfl, h1 := fun _ => by simp [Value.oneCell'], pos := by decide, hz := rfl, hs := Tryd.underlying33, info := by kernel_rfl }
theorem pt_info : (Tryd.prog.info? 24).map (·.size) = some 2 := by kernel_rfl
theorem pt_one (b t : Int) : (#[Value.int .i64 b, Value.int .u64 t]).all (·.oneCell') = true := by simp [Value.oneCell']
theorem ret_int {k : IntKind} {a b : Int} (h : a = b) : Ending.returned (.int k a) = .returned (.int k b) := by rw [h]
theorem ret_bool {a b : Bool} (h : a = b) : Ending.returned (.bool a) = .returned (.bool b) := by rw [h]
/-- are they right? -/
def perr (b : Int) : Int := if 64 ≤ b ∧ b ≤ 65472 ∧ b % 64 = 0 then 0 else 1
theorem perr_cases (b : Int) : (perr b = 0 ∧ 64 ≤ b ∧ b ≤ 65472 ∧ b % 64 = 0) ∨ (perr b = 1 ∧ ¬ (64 ≤ b ∧ b ≤ 65472 ∧ b % 64 = 0)) := by
  unfold perr
  split
  · rename_i h; exact Or.inl ⟨rfl, h⟩
  · rename_i h; exact Or.inr ⟨rfl, h⟩
/-- the table -/
abbrev Tb (w : World) : Prop := Lib.TabIs Tryd.prog w "math/bits.deBruijn64tab" .u8 (Lib.deBruijn64tab.map fun (n : Nat) => (n : Int))
theorem Tb.below {w w' : World} (h : Tb w) (hb : Below w.heap.size w w') : Tb w' := Lib.tabBelow_of_tabIs h w' hb
theorem tb_cell {w : World} (h : Tb w) (i : Nat) (hi : i < 64) : w.cell? ⟨0, i, none⟩ = some (.int .u8 (Lib.deBruijn64tab.getD i 0 : Nat)) := by
  have := Lib.TabIs.cell h (g := 0) (by kernel_rfl) i (by rw [List.length_map]; exact hi)
  rw [this]
  simp only [List.getD_eq_getElem?_getD, List.getElem?_map]
  cases Lib.deBruijn64tab[i]? <;> rfl
end Go.Proofs.YtajhdpkiafaebaaDoor.pt
