/- What cookies are made and opened with, by plain functions. -/
import Derived.Test.YtfaebenhjilkgaaCkMath
import Derived.Test.YtfaebenhjilkgaaSipOf
namespace Go.Proofs.Ytfaebenhjilkgaa.ckb
open Go.ChangeShapes Go.WideShapes Go.ChangeAt Go.RowKit
open Go.Proofs.Ytfaebenhjilkgaa Go.Proofs.Ytfaebenhjilkgaa.ckm Go.Proofs.Ytfaebenhjilkgaa.sipe

/-- the mark -/
def mkm (k l : UInt64) (r : Ro) (s c i : Int) : Int := ((ofv k l (utx r s c i)).toNat : Int) % 16777216
theorem mkm_bd (k l : UInt64) (r : Ro) (s c i : Int) : 0 ≤ mkm k l r s c i ∧ mkm k l r s c i < 16777216 := by unfold mkm; omega
/-- a cookie -/
def mk (k l : UInt64) (r : Ro) (s c i : Int) : Int := ckn c i (mkm k l r s c i)
/-- the error that one is made with; what is told -/
def mke (r : Ro) (c i : Int) : Int := if (r.ok && am c 32 && am i 8) = true then 0 else 1
def mkv (k l : UInt64) (r : Ro) (s c i : Int) : Int := if (r.ok && am c 32 && am i 8) = true then mk k l r s c i else 0
/-- sizes -/
def szl : List Int := [216, 536, 1220, 1300, 1360, 1440, 1460, 8960]
def sz (n : Int) : Int := szl.getD n.toNat 0
/-- the last place so far whose size is at most n -/
def pl (n : Int) : Nat → Int
  | 0 => 0
  | j + 1 => if sz j ≤ n then (j : Int) else pl n j
/-- the error that one is opened with; what is told -/
def ope (k l : UInt64) (r : Ro) (s x n : Int) : Int :=
  if (r.ok && am n 32) = true then (if x / 134217728 ≠ n ∧ (x / 134217728 + 1) % 32 ≠ n then 9 else if mk k l r s (x / 134217728) (x / 16777216 % 8) = x then 0 else 5) else 1
def opv (k l : UInt64) (r : Ro) (s x n : Int) : Int := if ope k l r s x n = 0 then sz (x / 16777216 % 8) else 0
end Go.Proofs.Ytfaebenhjilkgaa.ckb
