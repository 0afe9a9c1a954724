/-
  DERIVED. GIVEN WITH THE SEED: THE CARDS: each row of YtpcknkpddinccaaDoorRows.lean that lists a variable, with what it lists TIED to the program's text (the seventh form; the later family's looks); each row that meets fmt, with fmt's text TOLD by the authors' own Lean function (tested against real Go, not proved from fmt's source: count such statements apart). THE CARD IS WHAT COUNTS. Prove the row's statement (the work); the ties are given (YtpcknkpddinccaaDoorTie.lean); close each card by the builder's one call (the guide's Derived/Test/ToyasCard.lean, 'card_holds'). Laid BY PROGRAM, IN A SANDBOX (cutbox-door.mjs). By AI agents, Wed Nov 11 2026. No macro, syntax, notation, axiom, sorry.
-/
import Derived.Test.YtpcknkpddinccaaDoorRows
import GoSem.ClaimSeven
namespace Go.Proofs.YtpcknkpddinccaaDoor
namespace Rows

/-- THE TIED CARD OF 'custlaw.TcpWrites'. -/
def tcpWritesCard : Claim7 := { stood := { row := tcpWritesRow, standIns := [], harness := (true, "4cbae1753dd62242189a4d5aa6ec414fdb78462c3153d59af86929479c1d2d5a"), looks := false }, kinds := [], alts := [], laidByText := true, laidKinds := [.data, .pinned], laidTests := true, laidLooks := .later }
def TcpWritesCardSaid : Prop := Claim7.holds Tryd.pinned (.plain (OpenSpec.ofChange tcpWritesSpec)) tcpWritesCard

/-- THE TIED CARD OF 'custkeep.TcpBack'. -/
def tcpBackCard : Claim7 := { stood := { row := tcpBackRow, standIns := [], harness := (true, "4cbae1753dd62242189a4d5aa6ec414fdb78462c3153d59af86929479c1d2d5a"), looks := false }, kinds := [], alts := [], laidByText := true, laidKinds := [.data, .pinned], laidTests := true, laidLooks := .later }
def TcpBackCardSaid : Prop := Claim7.holds Tryd.pinned (.plain (OpenSpec.ofChange tcpBackSpec)) tcpBackCard

/-- THE TIED CARD OF 'custkeep.TcpShifts'. -/
def tcpShiftsCard : Claim7 := { stood := { row := tcpShiftsRow, standIns := [], harness := (true, "4cbae1753dd62242189a4d5aa6ec414fdb78462c3153d59af86929479c1d2d5a"), looks := false }, kinds := [], alts := [], laidByText := true, laidKinds := [.data, .pinned], laidTests := true, laidLooks := .later }
def TcpShiftsCardSaid : Prop := Claim7.holds Tryd.pinned (.plain (OpenSpec.ofChange tcpShiftsSpec)) tcpShiftsCard

/-- THE TIED CARD OF 'custkeep.TcpTold'. -/
def tcpToldCard : Claim7 := { stood := { row := tcpToldRow, standIns := [], harness := (true, "4cbae1753dd62242189a4d5aa6ec414fdb78462c3153d59af86929479c1d2d5a"), looks := false }, kinds := [], alts := [], laidByText := true, laidKinds := [.data, .pinned], laidTests := true, laidLooks := .later }
def TcpToldCardSaid : Prop := Claim7.holds Tryd.pinned (.plain (OpenSpec.ofChange tcpToldSpec)) tcpToldCard

/-- THE TIED CARD OF 'custkeep.TcpOwn'. -/
def tcpOwnCard : Claim7 := { stood := { row := tcpOwnRow, standIns := [], harness := (true, "4cbae1753dd62242189a4d5aa6ec414fdb78462c3153d59af86929479c1d2d5a"), looks := false }, kinds := [], alts := [], laidByText := true, laidKinds := [.data, .pinned], laidTests := true, laidLooks := .later }
def TcpOwnCardSaid : Prop := Claim7.holds Tryd.pinned (.plain (OpenSpec.ofChange tcpOwnSpec)) tcpOwnCard

/-- THE SECOND FORM's CARD OF 'custlaw.TcpWrites'. -/
def tcpWritesUptoCard : Claim7 := { stood := { row := tcpWritesUptoRow, standIns := [], harness := (true, "4cbae1753dd62242189a4d5aa6ec414fdb78462c3153d59af86929479c1d2d5a"), looks := false }, kinds := [], alts := [], laidByText := true, laidKinds := [.data, .pinned], laidTests := true, laidLooks := .later }
def TcpWritesUptoCardSaid : Prop := Claim7.holds Tryd.pinned (.plain (OpenSpec.upto tcpWritesSpec)) tcpWritesUptoCard

/-- THE SECOND FORM's CARD OF 'custkeep.TcpBack'. -/
def tcpBackUptoCard : Claim7 := { stood := { row := tcpBackUptoRow, standIns := [], harness := (true, "4cbae1753dd62242189a4d5aa6ec414fdb78462c3153d59af86929479c1d2d5a"), looks := false }, kinds := [], alts := [], laidByText := true, laidKinds := [.data, .pinned], laidTests := true, laidLooks := .later }
def TcpBackUptoCardSaid : Prop := Claim7.holds Tryd.pinned (.plain (OpenSpec.upto tcpBackSpec)) tcpBackUptoCard

/-- THE SECOND FORM's CARD OF 'custkeep.TcpShifts'. -/
def tcpShiftsUptoCard : Claim7 := { stood := { row := tcpShiftsUptoRow, standIns := [], harness := (true, "4cbae1753dd62242189a4d5aa6ec414fdb78462c3153d59af86929479c1d2d5a"), looks := false }, kinds := [], alts := [], laidByText := true, laidKinds := [.data, .pinned], laidTests := true, laidLooks := .later }
def TcpShiftsUptoCardSaid : Prop := Claim7.holds Tryd.pinned (.plain (OpenSpec.upto tcpShiftsSpec)) tcpShiftsUptoCard

/-- THE SECOND FORM's CARD OF 'custkeep.TcpTold'. -/
def tcpToldUptoCard : Claim7 := { stood := { row := tcpToldUptoRow, standIns := [], harness := (true, "4cbae1753dd62242189a4d5aa6ec414fdb78462c3153d59af86929479c1d2d5a"), looks := false }, kinds := [], alts := [], laidByText := true, laidKinds := [.data, .pinned], laidTests := true, laidLooks := .later }
def TcpToldUptoCardSaid : Prop := Claim7.holds Tryd.pinned (.plain (OpenSpec.upto tcpToldSpec)) tcpToldUptoCard

/-- THE SECOND FORM's CARD OF 'custkeep.TcpOwn'. -/
def tcpOwnUptoCard : Claim7 := { stood := { row := tcpOwnUptoRow, standIns := [], harness := (true, "4cbae1753dd62242189a4d5aa6ec414fdb78462c3153d59af86929479c1d2d5a"), looks := false }, kinds := [], alts := [], laidByText := true, laidKinds := [.data, .pinned], laidTests := true, laidLooks := .later }
def TcpOwnUptoCardSaid : Prop := Claim7.holds Tryd.pinned (.plain (OpenSpec.upto tcpOwnSpec)) tcpOwnUptoCard
end Rows
end Go.Proofs.YtpcknkpddinccaaDoor
