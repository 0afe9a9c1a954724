/-
  No cell of these rows narrows 'for every input' (looked for: loops, veiled, ifaces, maps, wideKeys, modest, calm, conditions, laid).
  DERIVED. THE GIVEN ROWS OF THIS SEAT. 5 by the template 'for every input the law returns true; each argument reads behind the call as it read before'; 0 by the template 'total and deterministic' (their statements: YtohonfpmaafnaaaTotals.lean).
  GIVEN WITH THE SEED: the statements are not yours to turn. If you find one false, say at which input.
  Laid BY PROGRAM, IN A SANDBOX (cutbox-rows.mjs): the forced cells as the released guide's own fill.sh prints them over the translation 8a4f679215a58607… (all of the seat's roots in one cut). By AI agents, Wed Nov 11 2026. No macro, syntax, notation, axiom, sorry.
-/
import Derived.Test.YtohonfpmaafnaaaChecked
import GoSem.Claim
import GoSem.ClaimJoined
import GoSem.ClaimMapViews
import Derived.JoinedTies
import Derived.KernelRfl
namespace Go.Proofs.Ytohonfpmaafnaaa
/- THE CELL 'sum', in the pinned program and in every row, IS THE sha256 OF THE DUMP (.gsa) THAT YtohonfpmaafnaaaProg.lean LOADS. Nothing in Lean hashes anything: it is a label: what it is worth is what the hold of that sum in a sandbox is worth. -/
noncomputable def Try.pinned : Pinned := { name := "ytohonfpmaafnaaa", sum := "8a4f679215a586076065c00d9c327f5aa68b4cd5b1ee40320c1ef7396a945ef0", checked := Try.checked }
namespace Rows
def none {H : Type} : Left H := { results := [], args := [] }

/-- 'custlaw.DgramLetters': WHATEVER THE INPUT: true; the input reads as it did. -/
def dgramLettersSpec : ChangeSpec := { name := "dgramLetters", fn := fun _ => fun
  | [d1, d2, d3, d4, d5, d6] => { results := [.lit (.bool true)], args := [d1, d2, d3, d4, d5, d6] }
  | _ => none }
def dgramLettersRow : OpenClaim := { program := "ytohonfpmaafnaaa", sum := "8a4f679215a586076065c00d9c327f5aa68b4cd5b1ee40320c1ef7396a945ef0", func := "customshouse/custlaw.DgramLetters", spec := "dgramLetters", apart := false }
def DgramLettersSaid : Prop := dgramLettersRow.holds Try.pinned (OpenSpec.ofChange dgramLettersSpec)

/-- ITS FALSE NEIGHBOUR: 'it returns false'. Refute it at one input. -/
def dgramLettersWrong : ChangeSpec := { name := "dgramLetters", fn := fun _ => fun
  | [d1, d2, d3, d4, d5, d6] => { results := [.lit (.bool false)], args := [d1, d2, d3, d4, d5, d6] }
  | _ => none }
def DgramLettersWrongFalsely : Prop := dgramLettersRow.holds Try.pinned (OpenSpec.ofChange dgramLettersWrong)

/-- 'custlaw.DgramNotes': WHATEVER THE INPUT: true; the input reads as it did. -/
def dgramNotesSpec : ChangeSpec := { name := "dgramNotes", fn := fun _ => fun
  | [d1, d2] => { results := [.lit (.bool true)], args := [d1, d2] }
  | _ => none }
def dgramNotesRow : OpenClaim := { program := "ytohonfpmaafnaaa", sum := "8a4f679215a586076065c00d9c327f5aa68b4cd5b1ee40320c1ef7396a945ef0", func := "customshouse/custlaw.DgramNotes", spec := "dgramNotes", apart := false }
def DgramNotesSaid : Prop := dgramNotesRow.holds Try.pinned (OpenSpec.ofChange dgramNotesSpec)

/-- ITS FALSE NEIGHBOUR: 'it returns false'. Refute it at one input. -/
def dgramNotesWrong : ChangeSpec := { name := "dgramNotes", fn := fun _ => fun
  | [d1, d2] => { results := [.lit (.bool false)], args := [d1, d2] }
  | _ => none }
def DgramNotesWrongFalsely : Prop := dgramNotesRow.holds Try.pinned (OpenSpec.ofChange dgramNotesWrong)

/-- 'custkeep.DgramBack': WHATEVER THE INPUT: true; the input reads as it did. -/
def dgramBackSpec : ChangeSpec := { name := "dgramBack", fn := fun _ => fun
  | [d1, d2, d3, d4] => { results := [.lit (.bool true)], args := [d1, d2, d3, d4] }
  | _ => none }
def dgramBackRow : OpenClaim := { program := "ytohonfpmaafnaaa", sum := "8a4f679215a586076065c00d9c327f5aa68b4cd5b1ee40320c1ef7396a945ef0", func := "customshouse/custkeep.DgramBack", spec := "dgramBack", apart := false }
def DgramBackSaid : Prop := dgramBackRow.holds Try.pinned (OpenSpec.ofChange dgramBackSpec)

/-- ITS FALSE NEIGHBOUR: 'it returns false'. Refute it at one input. -/
def dgramBackWrong : ChangeSpec := { name := "dgramBack", fn := fun _ => fun
  | [d1, d2, d3, d4] => { results := [.lit (.bool false)], args := [d1, d2, d3, d4] }
  | _ => none }
def DgramBackWrongFalsely : Prop := dgramBackRow.holds Try.pinned (OpenSpec.ofChange dgramBackWrong)

/-- 'custkeep.DgramTold': WHATEVER THE INPUT: true; the input reads as it did. -/
def dgramToldSpec : ChangeSpec := { name := "dgramTold", fn := fun _ => fun
  | [d1, d2, d3, d4, d5] => { results := [.lit (.bool true)], args := [d1, d2, d3, d4, d5] }
  | _ => none }
def dgramToldRow : OpenClaim := { program := "ytohonfpmaafnaaa", sum := "8a4f679215a586076065c00d9c327f5aa68b4cd5b1ee40320c1ef7396a945ef0", func := "customshouse/custkeep.DgramTold", spec := "dgramTold", apart := false }
def DgramToldSaid : Prop := dgramToldRow.holds Try.pinned (OpenSpec.ofChange dgramToldSpec)

/-- ITS FALSE NEIGHBOUR: 'it returns false'. Refute it at one input. -/
def dgramToldWrong : ChangeSpec := { name := "dgramTold", fn := fun _ => fun
  | [d1, d2, d3, d4, d5] => { results := [.lit (.bool false)], args := [d1, d2, d3, d4, d5] }
  | _ => none }
def DgramToldWrongFalsely : Prop := dgramToldRow.holds Try.pinned (OpenSpec.ofChange dgramToldWrong)

/-- 'custkeep.DgramFixed': WHATEVER THE INPUT: true; the input reads as it did. -/
def dgramFixedSpec : ChangeSpec := { name := "dgramFixed", fn := fun _ => fun
  | [d1, d2, d3, d4, d5] => { results := [.lit (.bool true)], args := [d1, d2, d3, d4, d5] }
  | _ => none }
def dgramFixedRow : OpenClaim := { program := "ytohonfpmaafnaaa", sum := "8a4f679215a586076065c00d9c327f5aa68b4cd5b1ee40320c1ef7396a945ef0", func := "customshouse/custkeep.DgramFixed", spec := "dgramFixed", apart := false }
def DgramFixedSaid : Prop := dgramFixedRow.holds Try.pinned (OpenSpec.ofChange dgramFixedSpec)

/-- ITS FALSE NEIGHBOUR: 'it returns false'. Refute it at one input. -/
def dgramFixedWrong : ChangeSpec := { name := "dgramFixed", fn := fun _ => fun
  | [d1, d2, d3, d4, d5] => { results := [.lit (.bool false)], args := [d1, d2, d3, d4, d5] }
  | _ => none }
def DgramFixedWrongFalsely : Prop := dgramFixedRow.holds Try.pinned (OpenSpec.ofChange dgramFixedWrong)

/- THE SECOND FORM. 'bulk': how many values and letters a reading holds, each counted each time it is reached (what is shared counts as often as it is met; a slice's spare places count too). A statement '..UptoSaid' is the law's where the arguments, and the package variables that the reading takes, are together of bulk at most 1048576: NARROWER than '..Said'. Prove '..Said' where nothing that the law and all that it calls make is longer than what came in: it says more and counts as full. Else prove '..UptoSaid'. A law counts once. -/
mutual
def uptoBulk {H : Type} : DataW H → Nat
  | .lit (.string bytes) => bytes.length + 1
  | .lit _ => 1
  | .nil => 1
  | .ptr d => uptoBulk d + 1
  | .slice elems spare => uptoBulkAll elems + uptoBulkAll spare + 1
  | .agg parts => uptoBulkAll parts + 1
  | .iface _ d => uptoBulk d + 1
  | .map entries => uptoBulkEntries entries + 1
  | .held _ => 1
def uptoBulkAll {H : Type} : List (DataW H) → Nat
  | [] => 0
  | d :: r => uptoBulk d + uptoBulkAll r
def uptoBulkEntries {H : Type} : List (Lit × DataW H) → Nat
  | [] => 0
  | x :: r => uptoBulkEntry x + uptoBulkEntries r
def uptoBulkEntry {H : Type} : Lit × DataW H → Nat
  | (.string bytes, d) => bytes.length + uptoBulk d + 1
  | (_, d) => uptoBulk d + 1
 end
def uptoSmall : (H : Type) → List (DataW H) → Bool := fun _ ds => decide (uptoBulkAll ds ≤ 1048576)
def OpenSpec.upto (s : _root_.Go.ChangeSpec) : _root_.Go.OpenSpec := { _root_.Go.OpenSpec.ofChange s with cond := some uptoSmall }

/-- 'custlaw.DgramLetters', WHERE WHAT IT READS IS OF BULK AT MOST 1048576: true; the input reads as it did. -/
def dgramLettersUptoRow : OpenClaim := { program := "ytohonfpmaafnaaa", sum := "8a4f679215a586076065c00d9c327f5aa68b4cd5b1ee40320c1ef7396a945ef0", func := "customshouse/custlaw.DgramLetters", spec := "dgramLetters", apart := false, narrowed := true }
def DgramLettersUptoSaid : Prop := dgramLettersUptoRow.holds Try.pinned (OpenSpec.upto dgramLettersSpec)

/-- 'custlaw.DgramNotes', WHERE WHAT IT READS IS OF BULK AT MOST 1048576: true; the input reads as it did. -/
def dgramNotesUptoRow : OpenClaim := { program := "ytohonfpmaafnaaa", sum := "8a4f679215a586076065c00d9c327f5aa68b4cd5b1ee40320c1ef7396a945ef0", func := "customshouse/custlaw.DgramNotes", spec := "dgramNotes", apart := false, narrowed := true }
def DgramNotesUptoSaid : Prop := dgramNotesUptoRow.holds Try.pinned (OpenSpec.upto dgramNotesSpec)

/-- 'custkeep.DgramBack', WHERE WHAT IT READS IS OF BULK AT MOST 1048576: true; the input reads as it did. -/
def dgramBackUptoRow : OpenClaim := { program := "ytohonfpmaafnaaa", sum := "8a4f679215a586076065c00d9c327f5aa68b4cd5b1ee40320c1ef7396a945ef0", func := "customshouse/custkeep.DgramBack", spec := "dgramBack", apart := false, narrowed := true }
def DgramBackUptoSaid : Prop := dgramBackUptoRow.holds Try.pinned (OpenSpec.upto dgramBackSpec)

/-- 'custkeep.DgramTold', WHERE WHAT IT READS IS OF BULK AT MOST 1048576: true; the input reads as it did. -/
def dgramToldUptoRow : OpenClaim := { program := "ytohonfpmaafnaaa", sum := "8a4f679215a586076065c00d9c327f5aa68b4cd5b1ee40320c1ef7396a945ef0", func := "customshouse/custkeep.DgramTold", spec := "dgramTold", apart := false, narrowed := true }
def DgramToldUptoSaid : Prop := dgramToldUptoRow.holds Try.pinned (OpenSpec.upto dgramToldSpec)

/-- 'custkeep.DgramFixed', WHERE WHAT IT READS IS OF BULK AT MOST 1048576: true; the input reads as it did. -/
def dgramFixedUptoRow : OpenClaim := { program := "ytohonfpmaafnaaa", sum := "8a4f679215a586076065c00d9c327f5aa68b4cd5b1ee40320c1ef7396a945ef0", func := "customshouse/custkeep.DgramFixed", spec := "dgramFixed", apart := false, narrowed := true }
def DgramFixedUptoSaid : Prop := dgramFixedUptoRow.holds Try.pinned (OpenSpec.upto dgramFixedSpec)

end Rows
end Go.Proofs.Ytohonfpmaafnaaa
