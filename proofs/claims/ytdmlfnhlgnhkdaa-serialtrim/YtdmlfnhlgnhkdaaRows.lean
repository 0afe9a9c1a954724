/-
  No cell of these rows narrows 'for every input' (looked for: loops, veiled, ifaces, maps, wideKeys, modest, calm, conditions, laid).
  DERIVED. THE GIVEN ROWS OF THIS SEAT. 5 by the template 'for every input the law returns true; each argument reads behind the call as it read before'; 0 by the template 'total and deterministic' (their statements: YtdmlfnhlgnhkdaaTotals.lean).
  GIVEN WITH THE SEED: the statements are not yours to turn. If you find one false, say at which input.
  Laid BY PROGRAM, IN A SANDBOX (cutbox-rows.mjs): the forced cells as the released guide's own fill.sh prints them over the translation 2d1165cd0724711a… (all of the seat's roots in one cut). By AI agents, Wed Nov 11 2026. No macro, syntax, notation, axiom, sorry.
-/
import Derived.Test.YtdmlfnhlgnhkdaaChecked
import GoSem.Claim
import GoSem.ClaimJoined
import GoSem.ClaimMapViews
import Derived.JoinedTies
import Derived.KernelRfl
namespace Go.Proofs.Ytdmlfnhlgnhkdaa
/- THE CELL 'sum', in the pinned program and in every row, IS THE sha256 OF THE DUMP (.gsa) THAT YtdmlfnhlgnhkdaaProg.lean LOADS. Nothing in Lean hashes anything: it is a label: what it is worth is what the hold of that sum in a sandbox is worth. -/
noncomputable def Try.pinned : Pinned := { name := "ytdmlfnhlgnhkdaa", sum := "2d1165cd0724711a3f2152ccefcf0d642a194232d185d2195ef83214efb26cd0", checked := Try.checked }
namespace Rows
def none {H : Type} : Left H := { results := [], args := [] }

/-- 'custlaw.SerialSays': WHATEVER THE INPUT: true; the input reads as it did. -/
def serialSaysSpec : ChangeSpec := { name := "serialSays", fn := fun _ => fun
  | [d1, d2, d3, d4] => { results := [.lit (.bool true)], args := [d1, d2, d3, d4] }
  | _ => none }
def serialSaysRow : OpenClaim := { program := "ytdmlfnhlgnhkdaa", sum := "2d1165cd0724711a3f2152ccefcf0d642a194232d185d2195ef83214efb26cd0", func := "customshouse/custlaw.SerialSays", spec := "serialSays", apart := false }
def SerialSaysSaid : Prop := serialSaysRow.holds Try.pinned (OpenSpec.ofChange serialSaysSpec)

/-- ITS FALSE NEIGHBOUR: 'it returns false'. Refute it at one input. -/
def serialSaysWrong : ChangeSpec := { name := "serialSays", fn := fun _ => fun
  | [d1, d2, d3, d4] => { results := [.lit (.bool false)], args := [d1, d2, d3, d4] }
  | _ => none }
def SerialSaysWrongFalsely : Prop := serialSaysRow.holds Try.pinned (OpenSpec.ofChange serialSaysWrong)

/-- 'custlaw.SerialTrims': WHATEVER THE INPUT: true; the input reads as it did. -/
def serialTrimsSpec : ChangeSpec := { name := "serialTrims", fn := fun _ => fun
  | [d1, d2, d3, d4] => { results := [.lit (.bool true)], args := [d1, d2, d3, d4] }
  | _ => none }
def serialTrimsRow : OpenClaim := { program := "ytdmlfnhlgnhkdaa", sum := "2d1165cd0724711a3f2152ccefcf0d642a194232d185d2195ef83214efb26cd0", func := "customshouse/custlaw.SerialTrims", spec := "serialTrims", apart := false }
def SerialTrimsSaid : Prop := serialTrimsRow.holds Try.pinned (OpenSpec.ofChange serialTrimsSpec)

/-- ITS FALSE NEIGHBOUR: 'it returns false'. Refute it at one input. -/
def serialTrimsWrong : ChangeSpec := { name := "serialTrims", fn := fun _ => fun
  | [d1, d2, d3, d4] => { results := [.lit (.bool false)], args := [d1, d2, d3, d4] }
  | _ => none }
def SerialTrimsWrongFalsely : Prop := serialTrimsRow.holds Try.pinned (OpenSpec.ofChange serialTrimsWrong)

/-- 'custkeep.SerialOrder': WHATEVER THE INPUT: true; the input reads as it did. -/
def serialOrderSpec : ChangeSpec := { name := "serialOrder", fn := fun _ => fun
  | [d1, d2, d3, d4] => { results := [.lit (.bool true)], args := [d1, d2, d3, d4] }
  | _ => none }
def serialOrderRow : OpenClaim := { program := "ytdmlfnhlgnhkdaa", sum := "2d1165cd0724711a3f2152ccefcf0d642a194232d185d2195ef83214efb26cd0", func := "customshouse/custkeep.SerialOrder", spec := "serialOrder", apart := false }
def SerialOrderSaid : Prop := serialOrderRow.holds Try.pinned (OpenSpec.ofChange serialOrderSpec)

/-- ITS FALSE NEIGHBOUR: 'it returns false'. Refute it at one input. -/
def serialOrderWrong : ChangeSpec := { name := "serialOrder", fn := fun _ => fun
  | [d1, d2, d3, d4] => { results := [.lit (.bool false)], args := [d1, d2, d3, d4] }
  | _ => none }
def SerialOrderWrongFalsely : Prop := serialOrderRow.holds Try.pinned (OpenSpec.ofChange serialOrderWrong)

/-- 'custkeep.SerialMeets': WHATEVER THE INPUT: true; the input reads as it did. -/
def serialMeetsSpec : ChangeSpec := { name := "serialMeets", fn := fun _ => fun
  | [d1, d2, d3, d4, d5] => { results := [.lit (.bool true)], args := [d1, d2, d3, d4, d5] }
  | _ => none }
def serialMeetsRow : OpenClaim := { program := "ytdmlfnhlgnhkdaa", sum := "2d1165cd0724711a3f2152ccefcf0d642a194232d185d2195ef83214efb26cd0", func := "customshouse/custkeep.SerialMeets", spec := "serialMeets", apart := false }
def SerialMeetsSaid : Prop := serialMeetsRow.holds Try.pinned (OpenSpec.ofChange serialMeetsSpec)

/-- ITS FALSE NEIGHBOUR: 'it returns false'. Refute it at one input. -/
def serialMeetsWrong : ChangeSpec := { name := "serialMeets", fn := fun _ => fun
  | [d1, d2, d3, d4, d5] => { results := [.lit (.bool false)], args := [d1, d2, d3, d4, d5] }
  | _ => none }
def SerialMeetsWrongFalsely : Prop := serialMeetsRow.holds Try.pinned (OpenSpec.ofChange serialMeetsWrong)

/-- 'custkeep.SerialTrim': WHATEVER THE INPUT: true; the input reads as it did. -/
def serialTrimSpec : ChangeSpec := { name := "serialTrim", fn := fun _ => fun
  | [d1, d2, d3, d4] => { results := [.lit (.bool true)], args := [d1, d2, d3, d4] }
  | _ => none }
def serialTrimRow : OpenClaim := { program := "ytdmlfnhlgnhkdaa", sum := "2d1165cd0724711a3f2152ccefcf0d642a194232d185d2195ef83214efb26cd0", func := "customshouse/custkeep.SerialTrim", spec := "serialTrim", inPlace := ["internal/bytealg.IndexByteString", "internal/bytealg.IndexString"], named := ["internal/bytealg.MaxLen"], apart := false }
def SerialTrimSaid : Prop := serialTrimRow.holds Try.pinned (OpenSpec.ofChange serialTrimSpec)

/-- ITS FALSE NEIGHBOUR: 'it returns false'. Refute it at one input. -/
def serialTrimWrong : ChangeSpec := { name := "serialTrim", fn := fun _ => fun
  | [d1, d2, d3, d4] => { results := [.lit (.bool false)], args := [d1, d2, d3, d4] }
  | _ => none }
def SerialTrimWrongFalsely : Prop := serialTrimRow.holds Try.pinned (OpenSpec.ofChange serialTrimWrong)

/- THE SECOND FORM. 'bulk': how many values and letters a reading holds, each counted each time it is reached (what is shared counts as often as it is met; a slice's spare places count too). A statement '..UptoSaid' is the law's where the arguments, and the package variables that the reading takes, are together of bulk at most 1048576: NARROWER than '..Said'. Prove '..Said' where nothing that the law and all that it calls make is longer than what came in: it says more and counts as full. Else prove '..UptoSaid'. A law counts once. -/
mutual
def uptoBulk {H : Type} : DataW H → Nat
  | .lit (.string bytes) => bytes.length + 1
  | .lit _ => 1
  | .nil => 1
  | .ptr d => uptoBulk d + 1
  | .slice elems spare => uptoBulkAll elems + uptoBulkAll spare + 1
  | .agg parts => uptoBulkAll parts + 1
  | .iface _ d => uptoBulk d + 1
  | .map entries => uptoBulkEntries entries + 1
  | .held _ => 1
def uptoBulkAll {H : Type} : List (DataW H) → Nat
  | [] => 0
  | d :: r => uptoBulk d + uptoBulkAll r
def uptoBulkEntries {H : Type} : List (Lit × DataW H) → Nat
  | [] => 0
  | x :: r => uptoBulkEntry x + uptoBulkEntries r
def uptoBulkEntry {H : Type} : Lit × DataW H → Nat
  | (.string bytes, d) => bytes.length + uptoBulk d + 1
  | (_, d) => uptoBulk d + 1
 end
def uptoSmall : (H : Type) → List (DataW H) → Bool := fun _ ds => decide (uptoBulkAll ds ≤ 1048576)
def OpenSpec.upto (s : _root_.Go.ChangeSpec) : _root_.Go.OpenSpec := { _root_.Go.OpenSpec.ofChange s with cond := some uptoSmall }

/-- 'custlaw.SerialSays', WHERE WHAT IT READS IS OF BULK AT MOST 1048576: true; the input reads as it did. -/
def serialSaysUptoRow : OpenClaim := { program := "ytdmlfnhlgnhkdaa", sum := "2d1165cd0724711a3f2152ccefcf0d642a194232d185d2195ef83214efb26cd0", func := "customshouse/custlaw.SerialSays", spec := "serialSays", apart := false, narrowed := true }
def SerialSaysUptoSaid : Prop := serialSaysUptoRow.holds Try.pinned (OpenSpec.upto serialSaysSpec)

/-- 'custlaw.SerialTrims', WHERE WHAT IT READS IS OF BULK AT MOST 1048576: true; the input reads as it did. -/
def serialTrimsUptoRow : OpenClaim := { program := "ytdmlfnhlgnhkdaa", sum := "2d1165cd0724711a3f2152ccefcf0d642a194232d185d2195ef83214efb26cd0", func := "customshouse/custlaw.SerialTrims", spec := "serialTrims", apart := false, narrowed := true }
def SerialTrimsUptoSaid : Prop := serialTrimsUptoRow.holds Try.pinned (OpenSpec.upto serialTrimsSpec)

/-- 'custkeep.SerialOrder', WHERE WHAT IT READS IS OF BULK AT MOST 1048576: true; the input reads as it did. -/
def serialOrderUptoRow : OpenClaim := { program := "ytdmlfnhlgnhkdaa", sum := "2d1165cd0724711a3f2152ccefcf0d642a194232d185d2195ef83214efb26cd0", func := "customshouse/custkeep.SerialOrder", spec := "serialOrder", apart := false, narrowed := true }
def SerialOrderUptoSaid : Prop := serialOrderUptoRow.holds Try.pinned (OpenSpec.upto serialOrderSpec)

/-- 'custkeep.SerialMeets', WHERE WHAT IT READS IS OF BULK AT MOST 1048576: true; the input reads as it did. -/
def serialMeetsUptoRow : OpenClaim := { program := "ytdmlfnhlgnhkdaa", sum := "2d1165cd0724711a3f2152ccefcf0d642a194232d185d2195ef83214efb26cd0", func := "customshouse/custkeep.SerialMeets", spec := "serialMeets", apart := false, narrowed := true }
def SerialMeetsUptoSaid : Prop := serialMeetsUptoRow.holds Try.pinned (OpenSpec.upto serialMeetsSpec)

/-- 'custkeep.SerialTrim', WHERE WHAT IT READS IS OF BULK AT MOST 1048576: true; the input reads as it did. -/
def serialTrimUptoRow : OpenClaim := { program := "ytdmlfnhlgnhkdaa", sum := "2d1165cd0724711a3f2152ccefcf0d642a194232d185d2195ef83214efb26cd0", func := "customshouse/custkeep.SerialTrim", spec := "serialTrim", inPlace := ["internal/bytealg.IndexByteString", "internal/bytealg.IndexString"], named := ["internal/bytealg.MaxLen"], apart := false, narrowed := true }
def SerialTrimUptoSaid : Prop := serialTrimUptoRow.holds Try.pinned (OpenSpec.upto serialTrimSpec)

end Rows
end Go.Proofs.Ytdmlfnhlgnhkdaa
