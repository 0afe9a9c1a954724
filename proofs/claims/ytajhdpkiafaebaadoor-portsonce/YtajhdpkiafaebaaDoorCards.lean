/-
  DERIVED. GIVEN WITH THE SEED: THE CARDS: each row of YtajhdpkiafaebaaDoorRows.lean that lists a variable, with what it lists TIED to the program's text (the seventh form; the later family's looks); each row that meets fmt, with fmt's text TOLD by the authors' own Lean function (tested against real Go, not proved from fmt's source: count such statements apart). THE CARD IS WHAT COUNTS. Prove the row's statement (the work); the ties are given (YtajhdpkiafaebaaDoorTie.lean); close each card by the builder's one call (the guide's Derived/Test/ToyasCard.lean, 'card_holds'). Laid BY PROGRAM, IN A SANDBOX (cutbox-door.mjs). By AI agents, Wed Nov 11 2026. No macro, syntax, notation, axiom, sorry.
-/
import Derived.Test.YtajhdpkiafaebaaDoorRows
import GoSem.ClaimSeven
namespace Go.Proofs.YtajhdpkiafaebaaDoor
namespace Rows

/-- THE TIED CARD OF 'custlaw.PortsSays'. -/
def portsSaysCard : Claim7 := { stood := { row := portsSaysRow, standIns := [], harness := (true, "8685c2ef42409fcf1f8be6d32ecc54065bef822bbc57476d68541ebd86eb15fc"), looks := false }, kinds := [], alts := [], laidByText := true, laidKinds := [.data], laidTests := true, laidLooks := .later }
def PortsSaysCardSaid : Prop := Claim7.holds Tryd.pinned (.plain (OpenSpec.ofChange portsSaysSpec)) portsSaysCard

/-- THE TIED CARD OF 'custkeep.PortsOnce'. -/
def portsOnceCard : Claim7 := { stood := { row := portsOnceRow, standIns := [], harness := (true, "8685c2ef42409fcf1f8be6d32ecc54065bef822bbc57476d68541ebd86eb15fc"), looks := false }, kinds := [], alts := [], laidByText := true, laidKinds := [.data], laidTests := true, laidLooks := .later }
def PortsOnceCardSaid : Prop := Claim7.holds Tryd.pinned (.plain (OpenSpec.ofChange portsOnceSpec)) portsOnceCard

/-- THE TIED CARD OF 'custkeep.PortsKind'. -/
def portsKindCard : Claim7 := { stood := { row := portsKindRow, standIns := [], harness := (true, "8685c2ef42409fcf1f8be6d32ecc54065bef822bbc57476d68541ebd86eb15fc"), looks := false }, kinds := [], alts := [], laidByText := true, laidKinds := [.data], laidTests := true, laidLooks := .later }
def PortsKindCardSaid : Prop := Claim7.holds Tryd.pinned (.plain (OpenSpec.ofChange portsKindSpec)) portsKindCard

/-- THE SECOND FORM's CARD OF 'custlaw.PortsSays'. -/
def portsSaysUptoCard : Claim7 := { stood := { row := portsSaysUptoRow, standIns := [], harness := (true, "8685c2ef42409fcf1f8be6d32ecc54065bef822bbc57476d68541ebd86eb15fc"), looks := false }, kinds := [], alts := [], laidByText := true, laidKinds := [.data], laidTests := true, laidLooks := .later }
def PortsSaysUptoCardSaid : Prop := Claim7.holds Tryd.pinned (.plain (OpenSpec.upto portsSaysSpec)) portsSaysUptoCard

/-- THE SECOND FORM's CARD OF 'custkeep.PortsOnce'. -/
def portsOnceUptoCard : Claim7 := { stood := { row := portsOnceUptoRow, standIns := [], harness := (true, "8685c2ef42409fcf1f8be6d32ecc54065bef822bbc57476d68541ebd86eb15fc"), looks := false }, kinds := [], alts := [], laidByText := true, laidKinds := [.data], laidTests := true, laidLooks := .later }
def PortsOnceUptoCardSaid : Prop := Claim7.holds Tryd.pinned (.plain (OpenSpec.upto portsOnceSpec)) portsOnceUptoCard

/-- THE SECOND FORM's CARD OF 'custkeep.PortsKind'. -/
def portsKindUptoCard : Claim7 := { stood := { row := portsKindUptoRow, standIns := [], harness := (true, "8685c2ef42409fcf1f8be6d32ecc54065bef822bbc57476d68541ebd86eb15fc"), looks := false }, kinds := [], alts := [], laidByText := true, laidKinds := [.data], laidTests := true, laidLooks := .later }
def PortsKindUptoCardSaid : Prop := Claim7.holds Tryd.pinned (.plain (OpenSpec.upto portsKindSpec)) portsKindUptoCard
end Rows
end Go.Proofs.YtajhdpkiafaebaaDoor
