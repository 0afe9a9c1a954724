/- Nodes, nets, rows, visits, texts of bits: as they lie in memory. -/
import Derived.Test.YtiddpkppfpdfhaaNetBase
namespace Go.Proofs.Ytiddpkppfpdfhaa.pf
open Go.ChangeShapes Go.WideShapes Go.ChangeAt Go.RowKit
open Go.Proofs.Ytiddpkppfpdfhaa.pm Go.Proofs.Ytiddpkppfpdfhaa.boxes Go.Proofs.Ytiddpkppfpdfhaa.rwr
open Go.Proofs.Ytiddpkppfpdfhaa.rws (Knd Own)

abbrev DC (a b : Int) (s : Bool) (v : Int) : Array Value := #[.int .i64 a, .int .i64 b, .bool s, .int .i64 v]
abbrev Nd.cells (x : Nd) : Array Value := DC x.a x.b x.s x.v
abbrev rwc (x : Rw) : Array Value := #[.string (en x.1), .int .i64 x.2]
abbrev vsc (x : Nat × Pth) : Array Value := #[.int .i64 (x.1 : Int), .string (en x.2)]
abbrev stc (p : Pth) : Array Value := #[.string (en p)]
abbrev TC (v : Value) : Array Value := #[v]
theorem nd_one (x : Nd) : (Nd.cells x).all (·.oneCell') = true := by simp [Value.oneCell']
theorem rw_one (x : Rw) : (rwc x).all (·.oneCell') = true := by simp [Value.oneCell']
theorem vs_one (x : Nat × Pth) : (vsc x).all (·.oneCell') = true := by simp [Value.oneCell']
theorem st_one (x : Pth) : (stc x).all (·.oneCell') = true := by simp [Value.oneCell']
def DK : Knd Nd := { e := 57, s := 22, k := 4, by_ := 32, z := .agg #[.int .i64 0, .int .i64 0, .bool false, .int .i64 0], enc := Nd.cells, hk := fun _ => rfl, h1 := nd_one, pos := by decide, hz := rfl, hs := Try.underlying22, info := by kernel_rfl }
def TK : Knd Nt := { e := 27, s := 37, k := 2, by_ := 16, z := .agg #[.int .u32 0, .int .i64 0], enc := Nt.cells, hk := fun _ => rfl, h1 := nt_one, pos := by decide, hz := rfl, hs := Try.underlying37, info := by kernel_rfl }
def RK : Knd Rw := { e := 45, s := 41, k := 2, by_ := 24, z := .agg #[.string ⟨#[]⟩, .int .i64 0], enc := rwc, hk := fun _ => rfl, h1 := rw_one, pos := by decide, hz := rfl, hs := Try.underlying41, info := by kernel_rfl }
def VK : Knd (Nat × Pth) := { e := 73, s := 74, k := 2, by_ := 24, z := .agg #[.int .i64 0, .string ⟨#[]⟩], enc := vsc, hk := fun _ => rfl, h1 := vs_one, pos := by decide, hz := rfl, hs := Try.underlying74, info := by kernel_rfl }
def SK : Knd Pth := { e := 9, s := 80, k := 1, by_ := 16, z := .string ⟨#[]⟩, enc := stc, hk := fun _ => rfl, h1 := st_one, pos := by decide, hz := rfl, hs := Try.underlying80, info := by kernel_rfl }
def NK : Knd Int := { e := 3, s := 38, k := 1, by_ := 8, z := .int .i64 0, enc := fun v => #[.int .i64 v], hk := fun _ => rfl, h1 := fun _ => by simp [Value.oneCell'], pos := by decide, hz := rfl, hs := Try.underlying38, info := by kernel_rfl }
theorem nd_info : (Try.prog.info? 57).map (·.size) = some 4 := by kernel_rfl
theorem tr_info : (Try.prog.info? 24).map (·.size) = some 1 := by kernel_rfl
/-- the net of a path -/
def nt (p : Pth) : Nt := ⟨ad 32 p, p.length⟩
end Go.Proofs.Ytiddpkppfpdfhaa.pf
