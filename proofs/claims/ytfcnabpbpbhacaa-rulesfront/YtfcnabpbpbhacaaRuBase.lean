/- Rules and flows as they lie in memory. -/
import Derived.Test.YtfcnabpbpbhacaaRuMath
import Derived.Test.YtfcnabpbpbhacaaNetSmall
namespace Go.Proofs.Ytfcnabpbpbhacaa.ru
open Go.ChangeShapes Go.WideShapes Go.ChangeAt Go.RowKit
open Go.Proofs.Ytfcnabpbpbhacaa.pm Go.Proofs.Ytfcnabpbpbhacaa.pf Go.Proofs.Ytfcnabpbpbhacaa.boxes Go.Proofs.Ytfcnabpbpbhacaa.rwr
open Go.Proofs.Ytfcnabpbpbhacaa.rws (Knd Own)

abbrev XC (fa : Nat) (fl : Int) (ta : Nat) (tl pr a b c d : Int) (ps : Bool) : Array Value := #[.int .u32 (fa : Int), .int .i64 fl, .int .u32 (ta : Int), .int .i64 tl, .int .i64 pr, .int .i64 a, .int .i64 b, .int .i64 c, .int .i64 d, .bool ps]
abbrev Ru.cells (r : Ru) : Array Value := XC r.fa r.fl r.ta r.tl r.pr r.a r.b r.c r.d r.ps
abbrev Fw.cells (f : Fw) : Array Value := #[.int .u32 (f.f : Int), .int .u32 (f.t : Int), .int .i64 f.pr, .int .i64 f.p, .int .i64 f.q]
theorem ru_one (x : Ru) : (Ru.cells x).all (·.oneCell') = true := by simp [Value.oneCell']
theorem ru_info : (Try.prog.info? 34).map (·.size) = some 10 := by kernel_rfl
theorem fw_info : (Try.prog.info? 25).map (·.size) = some 5 := by kernel_rfl
def UK : Knd Ru := { e := 34, s := 22, k := 10, by_ := 80, z := .agg #[.int .u32 0, .int .i64 0, .int .u32 0, .int .i64 0, .int .i64 0, .int .i64 0, .int .i64 0, .int .i64 0, .int .i64 0, .bool false], enc := Ru.cells, hk := fun _ => rfl, h1 := ru_one, pos := by decide, hz := rfl, hs := Try.underlying22, info := by kernel_rfl }
/-- numbers that fit into their cells -/
def fits (r : Ru) : Prop := r.fa < 4294967296 ∧ r.ta < 4294967296
def fitsF (f : Fw) : Prop := f.f < 4294967296 ∧ f.t < 4294967296
end Go.Proofs.Ytfcnabpbpbhacaa.ru
