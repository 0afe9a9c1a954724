/-
  No cell of these rows narrows 'for every input' (looked for: loops, veiled, ifaces, maps, wideKeys, modest, calm, conditions, laid).
  DERIVED. THE GIVEN ROWS OF THIS SEAT. 3 by the template 'for every input the law returns true; each argument reads behind the call as it read before'; 0 by the template 'total and deterministic' (their statements: YtolhmmnaohadcaaTotals.lean).
  GIVEN WITH THE SEED: the statements are not yours to turn. If you find one false, say at which input.
  Laid BY PROGRAM, IN A SANDBOX (cutbox-rows.mjs): the forced cells as the released guide's own fill.sh prints them over the translation a5be42a249763fa9… (all of the seat's roots in one cut). By AI agents, Wed Nov 11 2026. No macro, syntax, notation, axiom, sorry.
-/
import Derived.Test.YtolhmmnaohadcaaChecked
import GoSem.Claim
import GoSem.ClaimJoined
import GoSem.ClaimMapViews
import Derived.JoinedTies
import Derived.KernelRfl
namespace Go.Proofs.Ytolhmmnaohadcaa
/- THE CELL 'sum', in the pinned program and in every row, IS THE sha256 OF THE DUMP (.gsa) THAT YtolhmmnaohadcaaProg.lean LOADS. Nothing in Lean hashes anything: it is a label: what it is worth is what the hold of that sum in a sandbox is worth. -/
noncomputable def Try.pinned : Pinned := { name := "ytolhmmnaohadcaa", sum := "a5be42a249763fa92d3de8d0fa4f8168257c7e1bffea2e131a3769ad9d865031", checked := Try.checked }
namespace Rows
def none {H : Type} : Left H := { results := [], args := [] }

/-- 'custlaw.EthFrames': WHATEVER THE INPUT: true; the input reads as it did. -/
def ethFramesSpec : ChangeSpec := { name := "ethFrames", fn := fun _ => fun
  | [d1, d2] => { results := [.lit (.bool true)], args := [d1, d2] }
  | _ => none }
def ethFramesRow : OpenClaim := { program := "ytolhmmnaohadcaa", sum := "a5be42a249763fa92d3de8d0fa4f8168257c7e1bffea2e131a3769ad9d865031", func := "customshouse/custlaw.EthFrames", spec := "ethFrames", apart := false }
def EthFramesSaid : Prop := ethFramesRow.holds Try.pinned (OpenSpec.ofChange ethFramesSpec)

/-- ITS FALSE NEIGHBOUR: 'it returns false'. Refute it at one input. -/
def ethFramesWrong : ChangeSpec := { name := "ethFrames", fn := fun _ => fun
  | [d1, d2] => { results := [.lit (.bool false)], args := [d1, d2] }
  | _ => none }
def EthFramesWrongFalsely : Prop := ethFramesRow.holds Try.pinned (OpenSpec.ofChange ethFramesWrong)

/-- 'custkeep.EthBack': WHATEVER THE INPUT: true; the input reads as it did. -/
def ethBackSpec : ChangeSpec := { name := "ethBack", fn := fun _ => fun
  | [d1, d2, d3] => { results := [.lit (.bool true)], args := [d1, d2, d3] }
  | _ => none }
def ethBackRow : OpenClaim := { program := "ytolhmmnaohadcaa", sum := "a5be42a249763fa92d3de8d0fa4f8168257c7e1bffea2e131a3769ad9d865031", func := "customshouse/custkeep.EthBack", spec := "ethBack", inPlace := ["internal/bytealg.IndexByteString"], apart := false }
def EthBackSaid : Prop := ethBackRow.holds Try.pinned (OpenSpec.ofChange ethBackSpec)

/-- ITS FALSE NEIGHBOUR: 'it returns false'. Refute it at one input. -/
def ethBackWrong : ChangeSpec := { name := "ethBack", fn := fun _ => fun
  | [d1, d2, d3] => { results := [.lit (.bool false)], args := [d1, d2, d3] }
  | _ => none }
def EthBackWrongFalsely : Prop := ethBackRow.holds Try.pinned (OpenSpec.ofChange ethBackWrong)

/-- 'custkeep.EthRest': WHATEVER THE INPUT: true; the input reads as it did. -/
def ethRestSpec : ChangeSpec := { name := "ethRest", fn := fun _ => fun
  | [d1, d2] => { results := [.lit (.bool true)], args := [d1, d2] }
  | _ => none }
def ethRestRow : OpenClaim := { program := "ytolhmmnaohadcaa", sum := "a5be42a249763fa92d3de8d0fa4f8168257c7e1bffea2e131a3769ad9d865031", func := "customshouse/custkeep.EthRest", spec := "ethRest", apart := false }
def EthRestSaid : Prop := ethRestRow.holds Try.pinned (OpenSpec.ofChange ethRestSpec)

/-- ITS FALSE NEIGHBOUR: 'it returns false'. Refute it at one input. -/
def ethRestWrong : ChangeSpec := { name := "ethRest", fn := fun _ => fun
  | [d1, d2] => { results := [.lit (.bool false)], args := [d1, d2] }
  | _ => none }
def EthRestWrongFalsely : Prop := ethRestRow.holds Try.pinned (OpenSpec.ofChange ethRestWrong)

/- THE SECOND FORM. 'bulk': how many values and letters a reading holds, each counted each time it is reached (what is shared counts as often as it is met; a slice's spare places count too). A statement '..UptoSaid' is the law's where the arguments, and the package variables that the reading takes, are together of bulk at most 1048576: NARROWER than '..Said'. Prove '..Said' where nothing that the law and all that it calls make is longer than what came in: it says more and counts as full. Else prove '..UptoSaid'. A law counts once. -/
mutual
def uptoBulk {H : Type} : DataW H → Nat
  | .lit (.string bytes) => bytes.length + 1
  | .lit _ => 1
  | .nil => 1
  | .ptr d => uptoBulk d + 1
  | .slice elems spare => uptoBulkAll elems + uptoBulkAll spare + 1
  | .agg parts => uptoBulkAll parts + 1
  | .iface _ d => uptoBulk d + 1
  | .map entries => uptoBulkEntries entries + 1
  | .held _ => 1
def uptoBulkAll {H : Type} : List (DataW H) → Nat
  | [] => 0
  | d :: r => uptoBulk d + uptoBulkAll r
def uptoBulkEntries {H : Type} : List (Lit × DataW H) → Nat
  | [] => 0
  | x :: r => uptoBulkEntry x + uptoBulkEntries r
def uptoBulkEntry {H : Type} : Lit × DataW H → Nat
  | (.string bytes, d) => bytes.length + uptoBulk d + 1
  | (_, d) => uptoBulk d + 1
 end
def uptoSmall : (H : Type) → List (DataW H) → Bool := fun _ ds => decide (uptoBulkAll ds ≤ 1048576)
def OpenSpec.upto (s : _root_.Go.ChangeSpec) : _root_.Go.OpenSpec := { _root_.Go.OpenSpec.ofChange s with cond := some uptoSmall }

/-- 'custlaw.EthFrames', WHERE WHAT IT READS IS OF BULK AT MOST 1048576: true; the input reads as it did. -/
def ethFramesUptoRow : OpenClaim := { program := "ytolhmmnaohadcaa", sum := "a5be42a249763fa92d3de8d0fa4f8168257c7e1bffea2e131a3769ad9d865031", func := "customshouse/custlaw.EthFrames", spec := "ethFrames", apart := false, narrowed := true }
def EthFramesUptoSaid : Prop := ethFramesUptoRow.holds Try.pinned (OpenSpec.upto ethFramesSpec)

/-- 'custkeep.EthBack', WHERE WHAT IT READS IS OF BULK AT MOST 1048576: true; the input reads as it did. -/
def ethBackUptoRow : OpenClaim := { program := "ytolhmmnaohadcaa", sum := "a5be42a249763fa92d3de8d0fa4f8168257c7e1bffea2e131a3769ad9d865031", func := "customshouse/custkeep.EthBack", spec := "ethBack", inPlace := ["internal/bytealg.IndexByteString"], apart := false, narrowed := true }
def EthBackUptoSaid : Prop := ethBackUptoRow.holds Try.pinned (OpenSpec.upto ethBackSpec)

/-- 'custkeep.EthRest', WHERE WHAT IT READS IS OF BULK AT MOST 1048576: true; the input reads as it did. -/
def ethRestUptoRow : OpenClaim := { program := "ytolhmmnaohadcaa", sum := "a5be42a249763fa92d3de8d0fa4f8168257c7e1bffea2e131a3769ad9d865031", func := "customshouse/custkeep.EthRest", spec := "ethRest", apart := false, narrowed := true }
def EthRestUptoSaid : Prop := ethRestUptoRow.holds Try.pinned (OpenSpec.upto ethRestSpec)

end Rows
end Go.Proofs.Ytolhmmnaohadcaa
