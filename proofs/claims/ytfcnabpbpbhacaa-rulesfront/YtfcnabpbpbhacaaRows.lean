/-
  No cell of these rows narrows 'for every input' (looked for: loops, veiled, ifaces, maps, wideKeys, modest, calm, conditions, laid).
  DERIVED. THE GIVEN ROWS OF THIS SEAT. 5 by the template 'for every input the law returns true; each argument reads behind the call as it read before'; 0 by the template 'total and deterministic' (their statements: YtfcnabpbpbhacaaTotals.lean).
  GIVEN WITH THE SEED: the statements are not yours to turn. If you find one false, say at which input.
  Laid BY PROGRAM, IN A SANDBOX (cutbox-rows.mjs): the forced cells as the released guide's own fill.sh prints them over the translation 7b8f0bc99bf904e5… (all of the seat's roots in one cut). By AI agents, Wed Nov 11 2026. No macro, syntax, notation, axiom, sorry.
-/
import Derived.Test.YtfcnabpbpbhacaaChecked
import GoSem.Claim
import GoSem.ClaimJoined
import GoSem.ClaimMapViews
import Derived.JoinedTies
import Derived.KernelRfl
namespace Go.Proofs.Ytfcnabpbpbhacaa
/- THE CELL 'sum', in the pinned program and in every row, IS THE sha256 OF THE DUMP (.gsa) THAT YtfcnabpbpbhacaaProg.lean LOADS. Nothing in Lean hashes anything: it is a label: what it is worth is what the hold of that sum in a sandbox is worth. -/
noncomputable def Try.pinned : Pinned := { name := "ytfcnabpbpbhacaa", sum := "7b8f0bc99bf904e55487cd120d31fa3825a50b9fabefeb55534428a7bf928af5", checked := Try.checked }
namespace Rows
def none {H : Type} : Left H := { results := [], args := [] }

/-- 'custlaw.RulesDecide': WHATEVER THE INPUT: true; the input reads as it did. -/
def rulesDecideSpec : ChangeSpec := { name := "rulesDecide", fn := fun _ => fun
  | [d1, d2, d3] => { results := [.lit (.bool true)], args := [d1, d2, d3] }
  | _ => none }
def rulesDecideRow : OpenClaim := { program := "ytfcnabpbpbhacaa", sum := "7b8f0bc99bf904e55487cd120d31fa3825a50b9fabefeb55534428a7bf928af5", func := "customshouse/custlaw.RulesDecide", spec := "rulesDecide", inPlace := ["internal/bytealg.IndexByteString", "internal/bytealg.IndexString"], unfollowed := true, recurses := true, named := ["internal/bytealg.MaxLen"], apart := false }
def RulesDecideSaid : Prop := rulesDecideRow.holds Try.pinned (OpenSpec.ofChange rulesDecideSpec)

/-- ITS FALSE NEIGHBOUR: 'it returns false'. Refute it at one input. -/
def rulesDecideWrong : ChangeSpec := { name := "rulesDecide", fn := fun _ => fun
  | [d1, d2, d3] => { results := [.lit (.bool false)], args := [d1, d2, d3] }
  | _ => none }
def RulesDecideWrongFalsely : Prop := rulesDecideRow.holds Try.pinned (OpenSpec.ofChange rulesDecideWrong)

/-- 'custlaw.RulesSlim': WHATEVER THE INPUT: true; the input reads as it did. -/
def rulesSlimSpec : ChangeSpec := { name := "rulesSlim", fn := fun _ => fun
  | [d1, d2, d3] => { results := [.lit (.bool true)], args := [d1, d2, d3] }
  | _ => none }
def rulesSlimRow : OpenClaim := { program := "ytfcnabpbpbhacaa", sum := "7b8f0bc99bf904e55487cd120d31fa3825a50b9fabefeb55534428a7bf928af5", func := "customshouse/custlaw.RulesSlim", spec := "rulesSlim", inPlace := ["internal/bytealg.IndexByteString", "internal/bytealg.IndexString"], unfollowed := true, recurses := true, named := ["internal/bytealg.MaxLen"], apart := false }
def RulesSlimSaid : Prop := rulesSlimRow.holds Try.pinned (OpenSpec.ofChange rulesSlimSpec)

/-- ITS FALSE NEIGHBOUR: 'it returns false'. Refute it at one input. -/
def rulesSlimWrong : ChangeSpec := { name := "rulesSlim", fn := fun _ => fun
  | [d1, d2, d3] => { results := [.lit (.bool false)], args := [d1, d2, d3] }
  | _ => none }
def RulesSlimWrongFalsely : Prop := rulesSlimRow.holds Try.pinned (OpenSpec.ofChange rulesSlimWrong)

/-- 'custkeep.RulesSame': WHATEVER THE INPUT: true; the input reads as it did. -/
def rulesSameSpec : ChangeSpec := { name := "rulesSame", fn := fun _ => fun
  | [d1, d2, d3] => { results := [.lit (.bool true)], args := [d1, d2, d3] }
  | _ => none }
def rulesSameRow : OpenClaim := { program := "ytfcnabpbpbhacaa", sum := "7b8f0bc99bf904e55487cd120d31fa3825a50b9fabefeb55534428a7bf928af5", func := "customshouse/custkeep.RulesSame", spec := "rulesSame", unfollowed := true, recurses := true, apart := false }
def RulesSameSaid : Prop := rulesSameRow.holds Try.pinned (OpenSpec.ofChange rulesSameSpec)

/-- ITS FALSE NEIGHBOUR: 'it returns false'. Refute it at one input. -/
def rulesSameWrong : ChangeSpec := { name := "rulesSame", fn := fun _ => fun
  | [d1, d2, d3] => { results := [.lit (.bool false)], args := [d1, d2, d3] }
  | _ => none }
def RulesSameWrongFalsely : Prop := rulesSameRow.holds Try.pinned (OpenSpec.ofChange rulesSameWrong)

/-- 'custkeep.RulesCover': WHATEVER THE INPUT: true; the input reads as it did. -/
def rulesCoverSpec : ChangeSpec := { name := "rulesCover", fn := fun _ => fun
  | [d1, d2, d3, d4] => { results := [.lit (.bool true)], args := [d1, d2, d3, d4] }
  | _ => none }
def rulesCoverRow : OpenClaim := { program := "ytfcnabpbpbhacaa", sum := "7b8f0bc99bf904e55487cd120d31fa3825a50b9fabefeb55534428a7bf928af5", func := "customshouse/custkeep.RulesCover", spec := "rulesCover", unfollowed := true, recurses := true, apart := false }
def RulesCoverSaid : Prop := rulesCoverRow.holds Try.pinned (OpenSpec.ofChange rulesCoverSpec)

/-- ITS FALSE NEIGHBOUR: 'it returns false'. Refute it at one input. -/
def rulesCoverWrong : ChangeSpec := { name := "rulesCover", fn := fun _ => fun
  | [d1, d2, d3, d4] => { results := [.lit (.bool false)], args := [d1, d2, d3, d4] }
  | _ => none }
def RulesCoverWrongFalsely : Prop := rulesCoverRow.holds Try.pinned (OpenSpec.ofChange rulesCoverWrong)

/-- 'custkeep.RulesFront': WHATEVER THE INPUT: true; the input reads as it did. -/
def rulesFrontSpec : ChangeSpec := { name := "rulesFront", fn := fun _ => fun
  | [d1, d2, d3, d4, d5] => { results := [.lit (.bool true)], args := [d1, d2, d3, d4, d5] }
  | _ => none }
def rulesFrontRow : OpenClaim := { program := "ytfcnabpbpbhacaa", sum := "7b8f0bc99bf904e55487cd120d31fa3825a50b9fabefeb55534428a7bf928af5", func := "customshouse/custkeep.RulesFront", spec := "rulesFront", unfollowed := true, recurses := true, apart := false }
def RulesFrontSaid : Prop := rulesFrontRow.holds Try.pinned (OpenSpec.ofChange rulesFrontSpec)

/-- ITS FALSE NEIGHBOUR: 'it returns false'. Refute it at one input. -/
def rulesFrontWrong : ChangeSpec := { name := "rulesFront", fn := fun _ => fun
  | [d1, d2, d3, d4, d5] => { results := [.lit (.bool false)], args := [d1, d2, d3, d4, d5] }
  | _ => none }
def RulesFrontWrongFalsely : Prop := rulesFrontRow.holds Try.pinned (OpenSpec.ofChange rulesFrontWrong)

/- THE SECOND FORM. 'bulk': how many values and letters a reading holds, each counted each time it is reached (what is shared counts as often as it is met; a slice's spare places count too). A statement '..UptoSaid' is the law's where the arguments, and the package variables that the reading takes, are together of bulk at most 1048576: NARROWER than '..Said'. Prove '..Said' where nothing that the law and all that it calls make is longer than what came in: it says more and counts as full. Else prove '..UptoSaid'. A law counts once. -/
mutual
def uptoBulk {H : Type} : DataW H → Nat
  | .lit (.string bytes) => bytes.length + 1
  | .lit _ => 1
  | .nil => 1
  | .ptr d => uptoBulk d + 1
  | .slice elems spare => uptoBulkAll elems + uptoBulkAll spare + 1
  | .agg parts => uptoBulkAll parts + 1
  | .iface _ d => uptoBulk d + 1
  | .map entries => uptoBulkEntries entries + 1
  | .held _ => 1
def uptoBulkAll {H : Type} : List (DataW H) → Nat
  | [] => 0
  | d :: r => uptoBulk d + uptoBulkAll r
def uptoBulkEntries {H : Type} : List (Lit × DataW H) → Nat
  | [] => 0
  | x :: r => uptoBulkEntry x + uptoBulkEntries r
def uptoBulkEntry {H : Type} : Lit × DataW H → Nat
  | (.string bytes, d) => bytes.length + uptoBulk d + 1
  | (_, d) => uptoBulk d + 1
 end
def uptoSmall : (H : Type) → List (DataW H) → Bool := fun _ ds => decide (uptoBulkAll ds ≤ 1048576)
def OpenSpec.upto (s : _root_.Go.ChangeSpec) : _root_.Go.OpenSpec := { _root_.Go.OpenSpec.ofChange s with cond := some uptoSmall }

/-- 'custlaw.RulesDecide', WHERE WHAT IT READS IS OF BULK AT MOST 1048576: true; the input reads as it did. -/
def rulesDecideUptoRow : OpenClaim := { program := "ytfcnabpbpbhacaa", sum := "7b8f0bc99bf904e55487cd120d31fa3825a50b9fabefeb55534428a7bf928af5", func := "customshouse/custlaw.RulesDecide", spec := "rulesDecide", inPlace := ["internal/bytealg.IndexByteString", "internal/bytealg.IndexString"], unfollowed := true, recurses := true, named := ["internal/bytealg.MaxLen"], apart := false, narrowed := true }
def RulesDecideUptoSaid : Prop := rulesDecideUptoRow.holds Try.pinned (OpenSpec.upto rulesDecideSpec)

/-- 'custlaw.RulesSlim', WHERE WHAT IT READS IS OF BULK AT MOST 1048576: true; the input reads as it did. -/
def rulesSlimUptoRow : OpenClaim := { program := "ytfcnabpbpbhacaa", sum := "7b8f0bc99bf904e55487cd120d31fa3825a50b9fabefeb55534428a7bf928af5", func := "customshouse/custlaw.RulesSlim", spec := "rulesSlim", inPlace := ["internal/bytealg.IndexByteString", "internal/bytealg.IndexString"], unfollowed := true, recurses := true, named := ["internal/bytealg.MaxLen"], apart := false, narrowed := true }
def RulesSlimUptoSaid : Prop := rulesSlimUptoRow.holds Try.pinned (OpenSpec.upto rulesSlimSpec)

/-- 'custkeep.RulesSame', WHERE WHAT IT READS IS OF BULK AT MOST 1048576: true; the input reads as it did. -/
def rulesSameUptoRow : OpenClaim := { program := "ytfcnabpbpbhacaa", sum := "7b8f0bc99bf904e55487cd120d31fa3825a50b9fabefeb55534428a7bf928af5", func := "customshouse/custkeep.RulesSame", spec := "rulesSame", unfollowed := true, recurses := true, apart := false, narrowed := true }
def RulesSameUptoSaid : Prop := rulesSameUptoRow.holds Try.pinned (OpenSpec.upto rulesSameSpec)

/-- 'custkeep.RulesCover', WHERE WHAT IT READS IS OF BULK AT MOST 1048576: true; the input reads as it did. -/
def rulesCoverUptoRow : OpenClaim := { program := "ytfcnabpbpbhacaa", sum := "7b8f0bc99bf904e55487cd120d31fa3825a50b9fabefeb55534428a7bf928af5", func := "customshouse/custkeep.RulesCover", spec := "rulesCover", unfollowed := true, recurses := true, apart := false, narrowed := true }
def RulesCoverUptoSaid : Prop := rulesCoverUptoRow.holds Try.pinned (OpenSpec.upto rulesCoverSpec)

/-- 'custkeep.RulesFront', WHERE WHAT IT READS IS OF BULK AT MOST 1048576: true; the input reads as it did. -/
def rulesFrontUptoRow : OpenClaim := { program := "ytfcnabpbpbhacaa", sum := "7b8f0bc99bf904e55487cd120d31fa3825a50b9fabefeb55534428a7bf928af5", func := "customshouse/custkeep.RulesFront", spec := "rulesFront", unfollowed := true, recurses := true, apart := false, narrowed := true }
def RulesFrontUptoSaid : Prop := rulesFrontUptoRow.holds Try.pinned (OpenSpec.upto rulesFrontSpec)

end Rows
end Go.Proofs.Ytfcnabpbpbhacaa
