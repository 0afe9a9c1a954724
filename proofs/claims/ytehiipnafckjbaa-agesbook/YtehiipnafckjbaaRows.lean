/-
  No cell of these rows narrows 'for every input' (looked for: loops, veiled, ifaces, maps, wideKeys, modest, calm, conditions, laid).
  DERIVED. THE GIVEN ROWS OF THIS SEAT. 5 by the template 'for every input the law returns true; each argument reads behind the call as it read before'; 0 by the template 'total and deterministic' (their statements: YtehiipnafckjbaaTotals.lean).
  GIVEN WITH THE SEED: the statements are not yours to turn. If you find one false, say at which input.
  Laid BY PROGRAM, IN A SANDBOX (cutbox-rows.mjs): the forced cells as the released guide's own fill.sh prints them over the translation 81a3a48a628a4afc… (all of the seat's roots in one cut). By AI agents, Wed Nov 11 2026. No macro, syntax, notation, axiom, sorry.
-/
import Derived.Test.YtehiipnafckjbaaChecked
import GoSem.Claim
import GoSem.ClaimJoined
import GoSem.ClaimMapViews
import Derived.JoinedTies
import Derived.KernelRfl
namespace Go.Proofs.Ytehiipnafckjbaa
/- THE CELL 'sum', in the pinned program and in every row, IS THE sha256 OF THE DUMP (.gsa) THAT YtehiipnafckjbaaProg.lean LOADS. Nothing in Lean hashes anything: it is a label: what it is worth is what the hold of that sum in a sandbox is worth. -/
noncomputable def Try.pinned : Pinned := { name := "ytehiipnafckjbaa", sum := "81a3a48a628a4afc759627315c5538d0a894fa7923e5445029596242a239f0c7", checked := Try.checked }
namespace Rows
def none {H : Type} : Left H := { results := [], args := [] }

/-- 'custlaw.AgesTakes': WHATEVER THE INPUT: true; the input reads as it did. -/
def agesTakesSpec : ChangeSpec := { name := "agesTakes", fn := fun _ => fun
  | [d1, d2, d3] => { results := [.lit (.bool true)], args := [d1, d2, d3] }
  | _ => none }
def agesTakesRow : OpenClaim := { program := "ytehiipnafckjbaa", sum := "81a3a48a628a4afc759627315c5538d0a894fa7923e5445029596242a239f0c7", func := "customshouse/custlaw.AgesTakes", spec := "agesTakes", unfollowed := true, recurses := true, apart := false }
def AgesTakesSaid : Prop := agesTakesRow.holds Try.pinned (OpenSpec.ofChange agesTakesSpec)

/-- ITS FALSE NEIGHBOUR: 'it returns false'. Refute it at one input. -/
def agesTakesWrong : ChangeSpec := { name := "agesTakes", fn := fun _ => fun
  | [d1, d2, d3] => { results := [.lit (.bool false)], args := [d1, d2, d3] }
  | _ => none }
def AgesTakesWrongFalsely : Prop := agesTakesRow.holds Try.pinned (OpenSpec.ofChange agesTakesWrong)

/-- 'custlaw.AgesGoes': WHATEVER THE INPUT: true; the input reads as it did. -/
def agesGoesSpec : ChangeSpec := { name := "agesGoes", fn := fun _ => fun
  | [d1, d2, d3] => { results := [.lit (.bool true)], args := [d1, d2, d3] }
  | _ => none }
def agesGoesRow : OpenClaim := { program := "ytehiipnafckjbaa", sum := "81a3a48a628a4afc759627315c5538d0a894fa7923e5445029596242a239f0c7", func := "customshouse/custlaw.AgesGoes", spec := "agesGoes", unfollowed := true, recurses := true, apart := false }
def AgesGoesSaid : Prop := agesGoesRow.holds Try.pinned (OpenSpec.ofChange agesGoesSpec)

/-- ITS FALSE NEIGHBOUR: 'it returns false'. Refute it at one input. -/
def agesGoesWrong : ChangeSpec := { name := "agesGoes", fn := fun _ => fun
  | [d1, d2, d3] => { results := [.lit (.bool false)], args := [d1, d2, d3] }
  | _ => none }
def AgesGoesWrongFalsely : Prop := agesGoesRow.holds Try.pinned (OpenSpec.ofChange agesGoesWrong)

/-- 'custkeep.AgesBook': WHATEVER THE INPUT: true; the input reads as it did. -/
def agesBookSpec : ChangeSpec := { name := "agesBook", fn := fun _ => fun
  | [d1, d2, d3] => { results := [.lit (.bool true)], args := [d1, d2, d3] }
  | _ => none }
def agesBookRow : OpenClaim := { program := "ytehiipnafckjbaa", sum := "81a3a48a628a4afc759627315c5538d0a894fa7923e5445029596242a239f0c7", func := "customshouse/custkeep.AgesBook", spec := "agesBook", unfollowed := true, recurses := true, apart := false }
def AgesBookSaid : Prop := agesBookRow.holds Try.pinned (OpenSpec.ofChange agesBookSpec)

/-- ITS FALSE NEIGHBOUR: 'it returns false'. Refute it at one input. -/
def agesBookWrong : ChangeSpec := { name := "agesBook", fn := fun _ => fun
  | [d1, d2, d3] => { results := [.lit (.bool false)], args := [d1, d2, d3] }
  | _ => none }
def AgesBookWrongFalsely : Prop := agesBookRow.holds Try.pinned (OpenSpec.ofChange agesBookWrong)

/-- 'custkeep.AgesRoom': WHATEVER THE INPUT: true; the input reads as it did. -/
def agesRoomSpec : ChangeSpec := { name := "agesRoom", fn := fun _ => fun
  | [d1, d2, d3] => { results := [.lit (.bool true)], args := [d1, d2, d3] }
  | _ => none }
def agesRoomRow : OpenClaim := { program := "ytehiipnafckjbaa", sum := "81a3a48a628a4afc759627315c5538d0a894fa7923e5445029596242a239f0c7", func := "customshouse/custkeep.AgesRoom", spec := "agesRoom", unfollowed := true, recurses := true, apart := false }
def AgesRoomSaid : Prop := agesRoomRow.holds Try.pinned (OpenSpec.ofChange agesRoomSpec)

/-- ITS FALSE NEIGHBOUR: 'it returns false'. Refute it at one input. -/
def agesRoomWrong : ChangeSpec := { name := "agesRoom", fn := fun _ => fun
  | [d1, d2, d3] => { results := [.lit (.bool false)], args := [d1, d2, d3] }
  | _ => none }
def AgesRoomWrongFalsely : Prop := agesRoomRow.holds Try.pinned (OpenSpec.ofChange agesRoomWrong)

/-- 'custkeep.AgesOwn': WHATEVER THE INPUT: true; the input reads as it did. -/
def agesOwnSpec : ChangeSpec := { name := "agesOwn", fn := fun _ => fun
  | [d1, d2, d3] => { results := [.lit (.bool true)], args := [d1, d2, d3] }
  | _ => none }
def agesOwnRow : OpenClaim := { program := "ytehiipnafckjbaa", sum := "81a3a48a628a4afc759627315c5538d0a894fa7923e5445029596242a239f0c7", func := "customshouse/custkeep.AgesOwn", spec := "agesOwn", unfollowed := true, recurses := true, apart := false }
def AgesOwnSaid : Prop := agesOwnRow.holds Try.pinned (OpenSpec.ofChange agesOwnSpec)

/-- ITS FALSE NEIGHBOUR: 'it returns false'. Refute it at one input. -/
def agesOwnWrong : ChangeSpec := { name := "agesOwn", fn := fun _ => fun
  | [d1, d2, d3] => { results := [.lit (.bool false)], args := [d1, d2, d3] }
  | _ => none }
def AgesOwnWrongFalsely : Prop := agesOwnRow.holds Try.pinned (OpenSpec.ofChange agesOwnWrong)

/- THE SECOND FORM. 'bulk': how many values and letters a reading holds, each counted each time it is reached (what is shared counts as often as it is met; a slice's spare places count too). A statement '..UptoSaid' is the law's where the arguments, and the package variables that the reading takes, are together of bulk at most 1048576: NARROWER than '..Said'. Prove '..Said' where nothing that the law and all that it calls make is longer than what came in: it says more and counts as full. Else prove '..UptoSaid'. A law counts once. -/
mutual
def uptoBulk {H : Type} : DataW H → Nat
  | .lit (.string bytes) => bytes.length + 1
  | .lit _ => 1
  | .nil => 1
  | .ptr d => uptoBulk d + 1
  | .slice elems spare => uptoBulkAll elems + uptoBulkAll spare + 1
  | .agg parts => uptoBulkAll parts + 1
  | .iface _ d => uptoBulk d + 1
  | .map entries => uptoBulkEntries entries + 1
  | .held _ => 1
def uptoBulkAll {H : Type} : List (DataW H) → Nat
  | [] => 0
  | d :: r => uptoBulk d + uptoBulkAll r
def uptoBulkEntries {H : Type} : List (Lit × DataW H) → Nat
  | [] => 0
  | x :: r => uptoBulkEntry x + uptoBulkEntries r
def uptoBulkEntry {H : Type} : Lit × DataW H → Nat
  | (.string bytes, d) => bytes.length + uptoBulk d + 1
  | (_, d) => uptoBulk d + 1
 end
def uptoSmall : (H : Type) → List (DataW H) → Bool := fun _ ds => decide (uptoBulkAll ds ≤ 1048576)
def OpenSpec.upto (s : _root_.Go.ChangeSpec) : _root_.Go.OpenSpec := { _root_.Go.OpenSpec.ofChange s with cond := some uptoSmall }

/-- 'custlaw.AgesTakes', WHERE WHAT IT READS IS OF BULK AT MOST 1048576: true; the input reads as it did. -/
def agesTakesUptoRow : OpenClaim := { program := "ytehiipnafckjbaa", sum := "81a3a48a628a4afc759627315c5538d0a894fa7923e5445029596242a239f0c7", func := "customshouse/custlaw.AgesTakes", spec := "agesTakes", unfollowed := true, recurses := true, apart := false, narrowed := true }
def AgesTakesUptoSaid : Prop := agesTakesUptoRow.holds Try.pinned (OpenSpec.upto agesTakesSpec)

/-- 'custlaw.AgesGoes', WHERE WHAT IT READS IS OF BULK AT MOST 1048576: true; the input reads as it did. -/
def agesGoesUptoRow : OpenClaim := { program := "ytehiipnafckjbaa", sum := "81a3a48a628a4afc759627315c5538d0a894fa7923e5445029596242a239f0c7", func := "customshouse/custlaw.AgesGoes", spec := "agesGoes", unfollowed := true, recurses := true, apart := false, narrowed := true }
def AgesGoesUptoSaid : Prop := agesGoesUptoRow.holds Try.pinned (OpenSpec.upto agesGoesSpec)

/-- 'custkeep.AgesBook', WHERE WHAT IT READS IS OF BULK AT MOST 1048576: true; the input reads as it did. -/
def agesBookUptoRow : OpenClaim := { program := "ytehiipnafckjbaa", sum := "81a3a48a628a4afc759627315c5538d0a894fa7923e5445029596242a239f0c7", func := "customshouse/custkeep.AgesBook", spec := "agesBook", unfollowed := true, recurses := true, apart := false, narrowed := true }
def AgesBookUptoSaid : Prop := agesBookUptoRow.holds Try.pinned (OpenSpec.upto agesBookSpec)

/-- 'custkeep.AgesRoom', WHERE WHAT IT READS IS OF BULK AT MOST 1048576: true; the input reads as it did. -/
def agesRoomUptoRow : OpenClaim := { program := "ytehiipnafckjbaa", sum := "81a3a48a628a4afc759627315c5538d0a894fa7923e5445029596242a239f0c7", func := "customshouse/custkeep.AgesRoom", spec := "agesRoom", unfollowed := true, recurses := true, apart := false, narrowed := true }
def AgesRoomUptoSaid : Prop := agesRoomUptoRow.holds Try.pinned (OpenSpec.upto agesRoomSpec)

/-- 'custkeep.AgesOwn', WHERE WHAT IT READS IS OF BULK AT MOST 1048576: true; the input reads as it did. -/
def agesOwnUptoRow : OpenClaim := { program := "ytehiipnafckjbaa", sum := "81a3a48a628a4afc759627315c5538d0a894fa7923e5445029596242a239f0c7", func := "customshouse/custkeep.AgesOwn", spec := "agesOwn", unfollowed := true, recurses := true, apart := false, narrowed := true }
def AgesOwnUptoSaid : Prop := agesOwnUptoRow.holds Try.pinned (OpenSpec.upto agesOwnSpec)

end Rows
end Go.Proofs.Ytehiipnafckjbaa
