/-
  No cell of these rows narrows 'for every input' (looked for: loops, veiled, ifaces, maps, wideKeys, modest, calm, conditions, laid).
  DERIVED. THE GIVEN ROWS OF THIS SEAT. 4 by the template 'for every input the law returns true; each argument reads behind the call as it read before'; 0 by the template 'total and deterministic' (their statements: YtfaebenhjilkgaaTotals.lean).
  GIVEN WITH THE SEED: the statements are not yours to turn. If you find one false, say at which input.
  Laid BY PROGRAM, IN A SANDBOX (cutbox-rows.mjs): the forced cells as the released guide's own fill.sh prints them over the translation d4c69f89b35f7df2… (all of the seat's roots in one cut). By AI agents, Wed Nov 11 2026. No macro, syntax, notation, axiom, sorry.
-/
import Derived.Test.YtfaebenhjilkgaaChecked
import GoSem.Claim
import GoSem.ClaimJoined
import GoSem.ClaimMapViews
import Derived.JoinedTies
import Derived.KernelRfl
namespace Go.Proofs.Ytfaebenhjilkgaa
/- THE CELL 'sum', in the pinned program and in every row, IS THE sha256 OF THE DUMP (.gsa) THAT YtfaebenhjilkgaaProg.lean LOADS. Nothing in Lean hashes anything: it is a label: what it is worth is what the hold of that sum in a sandbox is worth. -/
noncomputable def Try.pinned : Pinned := { name := "ytfaebenhjilkgaa", sum := "d4c69f89b35f7df227d804d1e92eca8be00d274d1f4acb8ecfa2789cb60176e7", checked := Try.checked }
namespace Rows
def none {H : Type} : Left H := { results := [], args := [] }

/-- 'custlaw.CookieSays': WHATEVER THE INPUT: true; the input reads as it did. -/
def cookieSaysSpec : ChangeSpec := { name := "cookieSays", fn := fun _ => fun
  | [d1, d2, d3, d4, d5, d6, d7, d8] => { results := [.lit (.bool true)], args := [d1, d2, d3, d4, d5, d6, d7, d8] }
  | _ => none }
def cookieSaysRow : OpenClaim := { program := "ytfaebenhjilkgaa", sum := "d4c69f89b35f7df227d804d1e92eca8be00d274d1f4acb8ecfa2789cb60176e7", func := "customshouse/custlaw.CookieSays", spec := "cookieSays", apart := false }
def CookieSaysSaid : Prop := cookieSaysRow.holds Try.pinned (OpenSpec.ofChange cookieSaysSpec)

/-- ITS FALSE NEIGHBOUR: 'it returns false'. Refute it at one input. -/
def cookieSaysWrong : ChangeSpec := { name := "cookieSays", fn := fun _ => fun
  | [d1, d2, d3, d4, d5, d6, d7, d8] => { results := [.lit (.bool false)], args := [d1, d2, d3, d4, d5, d6, d7, d8] }
  | _ => none }
def CookieSaysWrongFalsely : Prop := cookieSaysRow.holds Try.pinned (OpenSpec.ofChange cookieSaysWrong)

/-- 'custkeep.CookieBack': WHATEVER THE INPUT: true; the input reads as it did. -/
def cookieBackSpec : ChangeSpec := { name := "cookieBack", fn := fun _ => fun
  | [d1, d2, d3, d4, d5, d6] => { results := [.lit (.bool true)], args := [d1, d2, d3, d4, d5, d6] }
  | _ => none }
def cookieBackRow : OpenClaim := { program := "ytfaebenhjilkgaa", sum := "d4c69f89b35f7df227d804d1e92eca8be00d274d1f4acb8ecfa2789cb60176e7", func := "customshouse/custkeep.CookieBack", spec := "cookieBack", apart := false }
def CookieBackSaid : Prop := cookieBackRow.holds Try.pinned (OpenSpec.ofChange cookieBackSpec)

/-- ITS FALSE NEIGHBOUR: 'it returns false'. Refute it at one input. -/
def cookieBackWrong : ChangeSpec := { name := "cookieBack", fn := fun _ => fun
  | [d1, d2, d3, d4, d5, d6] => { results := [.lit (.bool false)], args := [d1, d2, d3, d4, d5, d6] }
  | _ => none }
def CookieBackWrongFalsely : Prop := cookieBackRow.holds Try.pinned (OpenSpec.ofChange cookieBackWrong)

/-- 'custkeep.CookieOnly': WHATEVER THE INPUT: true; the input reads as it did. -/
def cookieOnlySpec : ChangeSpec := { name := "cookieOnly", fn := fun _ => fun
  | [d1, d2, d3, d4, d5] => { results := [.lit (.bool true)], args := [d1, d2, d3, d4, d5] }
  | _ => none }
def cookieOnlyRow : OpenClaim := { program := "ytfaebenhjilkgaa", sum := "d4c69f89b35f7df227d804d1e92eca8be00d274d1f4acb8ecfa2789cb60176e7", func := "customshouse/custkeep.CookieOnly", spec := "cookieOnly", apart := false }
def CookieOnlySaid : Prop := cookieOnlyRow.holds Try.pinned (OpenSpec.ofChange cookieOnlySpec)

/-- ITS FALSE NEIGHBOUR: 'it returns false'. Refute it at one input. -/
def cookieOnlyWrong : ChangeSpec := { name := "cookieOnly", fn := fun _ => fun
  | [d1, d2, d3, d4, d5] => { results := [.lit (.bool false)], args := [d1, d2, d3, d4, d5] }
  | _ => none }
def CookieOnlyWrongFalsely : Prop := cookieOnlyRow.holds Try.pinned (OpenSpec.ofChange cookieOnlyWrong)

/-- 'custkeep.CookieIndex': WHATEVER THE INPUT: true; the input reads as it did. -/
def cookieIndexSpec : ChangeSpec := { name := "cookieIndex", fn := fun _ => fun
  | [d] => { results := [.lit (.bool true)], args := [d] }
  | _ => none }
def cookieIndexRow : OpenClaim := { program := "ytfaebenhjilkgaa", sum := "d4c69f89b35f7df227d804d1e92eca8be00d274d1f4acb8ecfa2789cb60176e7", func := "customshouse/custkeep.CookieIndex", spec := "cookieIndex", apart := false }
def CookieIndexSaid : Prop := cookieIndexRow.holds Try.pinned (OpenSpec.ofChange cookieIndexSpec)

/-- ITS FALSE NEIGHBOUR: 'it returns false'. Refute it at one input. -/
def cookieIndexWrong : ChangeSpec := { name := "cookieIndex", fn := fun _ => fun
  | [d] => { results := [.lit (.bool false)], args := [d] }
  | _ => none }
def CookieIndexWrongFalsely : Prop := cookieIndexRow.holds Try.pinned (OpenSpec.ofChange cookieIndexWrong)

/- THE SECOND FORM. 'bulk': how many values and letters a reading holds, each counted each time it is reached (what is shared counts as often as it is met; a slice's spare places count too). A statement '..UptoSaid' is the law's where the arguments, and the package variables that the reading takes, are together of bulk at most 1048576: NARROWER than '..Said'. Prove '..Said' where nothing that the law and all that it calls make is longer than what came in: it says more and counts as full. Else prove '..UptoSaid'. A law counts once. -/
mutual
def uptoBulk {H : Type} : DataW H → Nat
  | .lit (.string bytes) => bytes.length + 1
  | .lit _ => 1
  | .nil => 1
  | .ptr d => uptoBulk d + 1
  | .slice elems spare => uptoBulkAll elems + uptoBulkAll spare + 1
  | .agg parts => uptoBulkAll parts + 1
  | .iface _ d => uptoBulk d + 1
  | .map entries => uptoBulkEntries entries + 1
  | .held _ => 1
def uptoBulkAll {H : Type} : List (DataW H) → Nat
  | [] => 0
  | d :: r => uptoBulk d + uptoBulkAll r
def uptoBulkEntries {H : Type} : List (Lit × DataW H) → Nat
  | [] => 0
  | x :: r => uptoBulkEntry x + uptoBulkEntries r
def uptoBulkEntry {H : Type} : Lit × DataW H → Nat
  | (.string bytes, d) => bytes.length + uptoBulk d + 1
  | (_, d) => uptoBulk d + 1
 end
def uptoSmall : (H : Type) → List (DataW H) → Bool := fun _ ds => decide (uptoBulkAll ds ≤ 1048576)
def OpenSpec.upto (s : _root_.Go.ChangeSpec) : _root_.Go.OpenSpec := { _root_.Go.OpenSpec.ofChange s with cond := some uptoSmall }

/-- 'custlaw.CookieSays', WHERE WHAT IT READS IS OF BULK AT MOST 1048576: true; the input reads as it did. -/
def cookieSaysUptoRow : OpenClaim := { program := "ytfaebenhjilkgaa", sum := "d4c69f89b35f7df227d804d1e92eca8be00d274d1f4acb8ecfa2789cb60176e7", func := "customshouse/custlaw.CookieSays", spec := "cookieSays", apart := false, narrowed := true }
def CookieSaysUptoSaid : Prop := cookieSaysUptoRow.holds Try.pinned (OpenSpec.upto cookieSaysSpec)

/-- 'custkeep.CookieBack', WHERE WHAT IT READS IS OF BULK AT MOST 1048576: true; the input reads as it did. -/
def cookieBackUptoRow : OpenClaim := { program := "ytfaebenhjilkgaa", sum := "d4c69f89b35f7df227d804d1e92eca8be00d274d1f4acb8ecfa2789cb60176e7", func := "customshouse/custkeep.CookieBack", spec := "cookieBack", apart := false, narrowed := true }
def CookieBackUptoSaid : Prop := cookieBackUptoRow.holds Try.pinned (OpenSpec.upto cookieBackSpec)

/-- 'custkeep.CookieOnly', WHERE WHAT IT READS IS OF BULK AT MOST 1048576: true; the input reads as it did. -/
def cookieOnlyUptoRow : OpenClaim := { program := "ytfaebenhjilkgaa", sum := "d4c69f89b35f7df227d804d1e92eca8be00d274d1f4acb8ecfa2789cb60176e7", func := "customshouse/custkeep.CookieOnly", spec := "cookieOnly", apart := false, narrowed := true }
def CookieOnlyUptoSaid : Prop := cookieOnlyUptoRow.holds Try.pinned (OpenSpec.upto cookieOnlySpec)

/-- 'custkeep.CookieIndex', WHERE WHAT IT READS IS OF BULK AT MOST 1048576: true; the input reads as it did. -/
def cookieIndexUptoRow : OpenClaim := { program := "ytfaebenhjilkgaa", sum := "d4c69f89b35f7df227d804d1e92eca8be00d274d1f4acb8ecfa2789cb60176e7", func := "customshouse/custkeep.CookieIndex", spec := "cookieIndex", apart := false, narrowed := true }
def CookieIndexUptoSaid : Prop := cookieIndexUptoRow.holds Try.pinned (OpenSpec.upto cookieIndexSpec)

end Rows
end Go.Proofs.Ytfaebenhjilkgaa
