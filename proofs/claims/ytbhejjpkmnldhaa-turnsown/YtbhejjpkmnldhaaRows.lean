/-
  No cell of these rows narrows 'for every input' (looked for: loops, veiled, ifaces, maps, wideKeys, modest, calm, conditions, laid).
  DERIVED. THE GIVEN ROWS OF THIS SEAT. 6 by the template 'for every input the law returns true; each argument reads behind the call as it read before'; 0 by the template 'total and deterministic' (their statements: YtbhejjpkmnldhaaTotals.lean).
  GIVEN WITH THE SEED: the statements are not yours to turn. If you find one false, say at which input.
  Laid BY PROGRAM, IN A SANDBOX (cutbox-rows.mjs): the forced cells as the released guide's own fill.sh prints them over the translation 7312bb55fb6aca5f… (all of the seat's roots in one cut). By AI agents, Wed Nov 11 2026. No macro, syntax, notation, axiom, sorry.
-/
import Derived.Test.YtbhejjpkmnldhaaChecked
import GoSem.Claim
import GoSem.ClaimJoined
import GoSem.ClaimMapViews
import Derived.JoinedTies
import Derived.KernelRfl
namespace Go.Proofs.Ytbhejjpkmnldhaa
/- THE CELL 'sum', in the pinned program and in every row, IS THE sha256 OF THE DUMP (.gsa) THAT YtbhejjpkmnldhaaProg.lean LOADS. Nothing in Lean hashes anything: it is a label: what it is worth is what the hold of that sum in a sandbox is worth. -/
noncomputable def Try.pinned : Pinned := { name := "ytbhejjpkmnldhaa", sum := "7312bb55fb6aca5f93b9d5f9259f076123032057d81f259ee1efda0eb8ce73db", checked := Try.checked }
namespace Rows
def none {H : Type} : Left H := { results := [], args := [] }

/-- 'custlaw.TurnsRound': WHATEVER THE INPUT: true; the input reads as it did. -/
def turnsRoundSpec : ChangeSpec := { name := "turnsRound", fn := fun _ => fun
  | [d] => { results := [.lit (.bool true)], args := [d] }
  | _ => none }
def turnsRoundRow : OpenClaim := { program := "ytbhejjpkmnldhaa", sum := "7312bb55fb6aca5f93b9d5f9259f076123032057d81f259ee1efda0eb8ce73db", func := "customshouse/custlaw.TurnsRound", spec := "turnsRound", unfollowed := true, recurses := true, apart := false }
def TurnsRoundSaid : Prop := turnsRoundRow.holds Try.pinned (OpenSpec.ofChange turnsRoundSpec)

/-- ITS FALSE NEIGHBOUR: 'it returns false'. Refute it at one input. -/
def turnsRoundWrong : ChangeSpec := { name := "turnsRound", fn := fun _ => fun
  | [d] => { results := [.lit (.bool false)], args := [d] }
  | _ => none }
def TurnsRoundWrongFalsely : Prop := turnsRoundRow.holds Try.pinned (OpenSpec.ofChange turnsRoundWrong)

/-- 'custlaw.TurnsPut': WHATEVER THE INPUT: true; the input reads as it did. -/
def turnsPutSpec : ChangeSpec := { name := "turnsPut", fn := fun _ => fun
  | [d1, d2, d3] => { results := [.lit (.bool true)], args := [d1, d2, d3] }
  | _ => none }
def turnsPutRow : OpenClaim := { program := "ytbhejjpkmnldhaa", sum := "7312bb55fb6aca5f93b9d5f9259f076123032057d81f259ee1efda0eb8ce73db", func := "customshouse/custlaw.TurnsPut", spec := "turnsPut", unfollowed := true, recurses := true, apart := false }
def TurnsPutSaid : Prop := turnsPutRow.holds Try.pinned (OpenSpec.ofChange turnsPutSpec)

/-- ITS FALSE NEIGHBOUR: 'it returns false'. Refute it at one input. -/
def turnsPutWrong : ChangeSpec := { name := "turnsPut", fn := fun _ => fun
  | [d1, d2, d3] => { results := [.lit (.bool false)], args := [d1, d2, d3] }
  | _ => none }
def TurnsPutWrongFalsely : Prop := turnsPutRow.holds Try.pinned (OpenSpec.ofChange turnsPutWrong)

/-- 'custkeep.TurnsFair': WHATEVER THE INPUT: true; the input reads as it did. -/
def turnsFairSpec : ChangeSpec := { name := "turnsFair", fn := fun _ => fun
  | [d1, d2] => { results := [.lit (.bool true)], args := [d1, d2] }
  | _ => none }
def turnsFairRow : OpenClaim := { program := "ytbhejjpkmnldhaa", sum := "7312bb55fb6aca5f93b9d5f9259f076123032057d81f259ee1efda0eb8ce73db", func := "customshouse/custkeep.TurnsFair", spec := "turnsFair", unfollowed := true, recurses := true, apart := false }
def TurnsFairSaid : Prop := turnsFairRow.holds Try.pinned (OpenSpec.ofChange turnsFairSpec)

/-- ITS FALSE NEIGHBOUR: 'it returns false'. Refute it at one input. -/
def turnsFairWrong : ChangeSpec := { name := "turnsFair", fn := fun _ => fun
  | [d1, d2] => { results := [.lit (.bool false)], args := [d1, d2] }
  | _ => none }
def TurnsFairWrongFalsely : Prop := turnsFairRow.holds Try.pinned (OpenSpec.ofChange turnsFairWrong)

/-- 'custkeep.TurnsServed': WHATEVER THE INPUT: true; the input reads as it did. -/
def turnsServedSpec : ChangeSpec := { name := "turnsServed", fn := fun _ => fun
  | [d1, d2] => { results := [.lit (.bool true)], args := [d1, d2] }
  | _ => none }
def turnsServedRow : OpenClaim := { program := "ytbhejjpkmnldhaa", sum := "7312bb55fb6aca5f93b9d5f9259f076123032057d81f259ee1efda0eb8ce73db", func := "customshouse/custkeep.TurnsServed", spec := "turnsServed", unfollowed := true, recurses := true, apart := false }
def TurnsServedSaid : Prop := turnsServedRow.holds Try.pinned (OpenSpec.ofChange turnsServedSpec)

/-- ITS FALSE NEIGHBOUR: 'it returns false'. Refute it at one input. -/
def turnsServedWrong : ChangeSpec := { name := "turnsServed", fn := fun _ => fun
  | [d1, d2] => { results := [.lit (.bool false)], args := [d1, d2] }
  | _ => none }
def TurnsServedWrongFalsely : Prop := turnsServedRow.holds Try.pinned (OpenSpec.ofChange turnsServedWrong)

/-- 'custkeep.TurnsOrder': WHATEVER THE INPUT: true; the input reads as it did. -/
def turnsOrderSpec : ChangeSpec := { name := "turnsOrder", fn := fun _ => fun
  | [d1, d2] => { results := [.lit (.bool true)], args := [d1, d2] }
  | _ => none }
def turnsOrderRow : OpenClaim := { program := "ytbhejjpkmnldhaa", sum := "7312bb55fb6aca5f93b9d5f9259f076123032057d81f259ee1efda0eb8ce73db", func := "customshouse/custkeep.TurnsOrder", spec := "turnsOrder", unfollowed := true, recurses := true, apart := false }
def TurnsOrderSaid : Prop := turnsOrderRow.holds Try.pinned (OpenSpec.ofChange turnsOrderSpec)

/-- ITS FALSE NEIGHBOUR: 'it returns false'. Refute it at one input. -/
def turnsOrderWrong : ChangeSpec := { name := "turnsOrder", fn := fun _ => fun
  | [d1, d2] => { results := [.lit (.bool false)], args := [d1, d2] }
  | _ => none }
def TurnsOrderWrongFalsely : Prop := turnsOrderRow.holds Try.pinned (OpenSpec.ofChange turnsOrderWrong)

/-- 'custkeep.TurnsOwn': WHATEVER THE INPUT: true; the input reads as it did. -/
def turnsOwnSpec : ChangeSpec := { name := "turnsOwn", fn := fun _ => fun
  | [d1, d2, d3] => { results := [.lit (.bool true)], args := [d1, d2, d3] }
  | _ => none }
def turnsOwnRow : OpenClaim := { program := "ytbhejjpkmnldhaa", sum := "7312bb55fb6aca5f93b9d5f9259f076123032057d81f259ee1efda0eb8ce73db", func := "customshouse/custkeep.TurnsOwn", spec := "turnsOwn", unfollowed := true, recurses := true, apart := false }
def TurnsOwnSaid : Prop := turnsOwnRow.holds Try.pinned (OpenSpec.ofChange turnsOwnSpec)

/-- ITS FALSE NEIGHBOUR: 'it returns false'. Refute it at one input. -/
def turnsOwnWrong : ChangeSpec := { name := "turnsOwn", fn := fun _ => fun
  | [d1, d2, d3] => { results := [.lit (.bool false)], args := [d1, d2, d3] }
  | _ => none }
def TurnsOwnWrongFalsely : Prop := turnsOwnRow.holds Try.pinned (OpenSpec.ofChange turnsOwnWrong)

/- THE SECOND FORM. 'bulk': how many values and letters a reading holds, each counted each time it is reached (what is shared counts as often as it is met; a slice's spare places count too). A statement '..UptoSaid' is the law's where the arguments, and the package variables that the reading takes, are together of bulk at most 1048576: NARROWER than '..Said'. Prove '..Said' where nothing that the law and all that it calls make is longer than what came in: it says more and counts as full. Else prove '..UptoSaid'. A law counts once. -/
mutual
def uptoBulk {H : Type} : DataW H → Nat
  | .lit (.string bytes) => bytes.length + 1
  | .lit _ => 1
  | .nil => 1
  | .ptr d => uptoBulk d + 1
  | .slice elems spare => uptoBulkAll elems + uptoBulkAll spare + 1
  | .agg parts => uptoBulkAll parts + 1
  | .iface _ d => uptoBulk d + 1
  | .map entries => uptoBulkEntries entries + 1
  | .held _ => 1
def uptoBulkAll {H : Type} : List (DataW H) → Nat
  | [] => 0
  | d :: r => uptoBulk d + uptoBulkAll r
def uptoBulkEntries {H : Type} : List (Lit × DataW H) → Nat
  | [] => 0
  | x :: r => uptoBulkEntry x + uptoBulkEntries r
def uptoBulkEntry {H : Type} : Lit × DataW H → Nat
  | (.string bytes, d) => bytes.length + uptoBulk d + 1
  | (_, d) => uptoBulk d + 1
 end
def uptoSmall : (H : Type) → List (DataW H) → Bool := fun _ ds => decide (uptoBulkAll ds ≤ 1048576)
def OpenSpec.upto (s : _root_.Go.ChangeSpec) : _root_.Go.OpenSpec := { _root_.Go.OpenSpec.ofChange s with cond := some uptoSmall }

/-- 'custlaw.TurnsRound', WHERE WHAT IT READS IS OF BULK AT MOST 1048576: true; the input reads as it did. -/
def turnsRoundUptoRow : OpenClaim := { program := "ytbhejjpkmnldhaa", sum := "7312bb55fb6aca5f93b9d5f9259f076123032057d81f259ee1efda0eb8ce73db", func := "customshouse/custlaw.TurnsRound", spec := "turnsRound", unfollowed := true, recurses := true, apart := false, narrowed := true }
def TurnsRoundUptoSaid : Prop := turnsRoundUptoRow.holds Try.pinned (OpenSpec.upto turnsRoundSpec)

/-- 'custlaw.TurnsPut', WHERE WHAT IT READS IS OF BULK AT MOST 1048576: true; the input reads as it did. -/
def turnsPutUptoRow : OpenClaim := { program := "ytbhejjpkmnldhaa", sum := "7312bb55fb6aca5f93b9d5f9259f076123032057d81f259ee1efda0eb8ce73db", func := "customshouse/custlaw.TurnsPut", spec := "turnsPut", unfollowed := true, recurses := true, apart := false, narrowed := true }
def TurnsPutUptoSaid : Prop := turnsPutUptoRow.holds Try.pinned (OpenSpec.upto turnsPutSpec)

/-- 'custkeep.TurnsFair', WHERE WHAT IT READS IS OF BULK AT MOST 1048576: true; the input reads as it did. -/
def turnsFairUptoRow : OpenClaim := { program := "ytbhejjpkmnldhaa", sum := "7312bb55fb6aca5f93b9d5f9259f076123032057d81f259ee1efda0eb8ce73db", func := "customshouse/custkeep.TurnsFair", spec := "turnsFair", unfollowed := true, recurses := true, apart := false, narrowed := true }
def TurnsFairUptoSaid : Prop := turnsFairUptoRow.holds Try.pinned (OpenSpec.upto turnsFairSpec)

/-- 'custkeep.TurnsServed', WHERE WHAT IT READS IS OF BULK AT MOST 1048576: true; the input reads as it did. -/
def turnsServedUptoRow : OpenClaim := { program := "ytbhejjpkmnldhaa", sum := "7312bb55fb6aca5f93b9d5f9259f076123032057d81f259ee1efda0eb8ce73db", func := "customshouse/custkeep.TurnsServed", spec := "turnsServed", unfollowed := true, recurses := true, apart := false, narrowed := true }
def TurnsServedUptoSaid : Prop := turnsServedUptoRow.holds Try.pinned (OpenSpec.upto turnsServedSpec)

/-- 'custkeep.TurnsOrder', WHERE WHAT IT READS IS OF BULK AT MOST 1048576: true; the input reads as it did. -/
def turnsOrderUptoRow : OpenClaim := { program := "ytbhejjpkmnldhaa", sum := "7312bb55fb6aca5f93b9d5f9259f076123032057d81f259ee1efda0eb8ce73db", func := "customshouse/custkeep.TurnsOrder", spec := "turnsOrder", unfollowed := true, recurses := true, apart := false, narrowed := true }
def TurnsOrderUptoSaid : Prop := turnsOrderUptoRow.holds Try.pinned (OpenSpec.upto turnsOrderSpec)

/-- 'custkeep.TurnsOwn', WHERE WHAT IT READS IS OF BULK AT MOST 1048576: true; the input reads as it did. -/
def turnsOwnUptoRow : OpenClaim := { program := "ytbhejjpkmnldhaa", sum := "7312bb55fb6aca5f93b9d5f9259f076123032057d81f259ee1efda0eb8ce73db", func := "customshouse/custkeep.TurnsOwn", spec := "turnsOwn", unfollowed := true, recurses := true, apart := false, narrowed := true }
def TurnsOwnUptoSaid : Prop := turnsOwnUptoRow.holds Try.pinned (OpenSpec.upto turnsOwnSpec)

end Rows
end Go.Proofs.Ytbhejjpkmnldhaa
