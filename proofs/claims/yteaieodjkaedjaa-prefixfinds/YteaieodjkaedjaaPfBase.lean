/- Nodes, nets, rows, visits, texts of bits: as they lie in memory. -/
import Derived.Test.YteaieodjkaedjaaPfMath3
import Derived.Test.YteaieodjkaedjaaRwsCut
import Derived.Test.YteaieodjkaedjaaRwsRd
import Derived.Test.YteaieodjkaedjaaAb
import Derived.Test.YteaieodjkaedjaaBlkRets
import Derived.WalkSpells
import Derived.WalkLawsBesides
import Derived.BigQuiet
import Derived.Deep.RegionWith
import Derived.Deep.DeepCutAuto
import Derived.LoopN
namespace Go.Proofs.Yteaieodjkaedjaa.pf
open Go.ChangeShapes Go.WideShapes Go.ChangeAt Go.RowKit
open Go.Proofs.Yteaieodjkaedjaa.pm Go.Proofs.Yteaieodjkaedjaa.boxes Go.Proofs.Yteaieodjkaedjaa.rwr
open Go.Proofs.Yteaieodjkaedjaa.rws (Knd Own)

/-- a path as text -/
def en (p : Pth) : ByteArray := ⟨(p.map fun b => if b then (49 : UInt8) else 48).toArray⟩
theorem en_size (p : Pth) : (en p).size = p.length := by simp [en, ByteArray.size]
structure Nt where
  a : Nat
  l : Int
abbrev DC (a b : Int) (s : Bool) (v : Int) : Array Value := #[.int .i64 a, .int .i64 b, .bool s, .int .i64 v]
abbrev NC (a : Nat) (l : Int) : Array Value := #[.int .u32 (a : Int), .int .i64 l]
abbrev Nd.cells (x : Nd) : Array Value := DC x.a x.b x.s x.v
abbrev Nt.cells (x : Nt) : Array Value := NC x.a x.l
abbrev rwc (x : Rw) : Array Value := #[.string (en x.1), .int .i64 x.2]
abbrev vsc (x : Nat × Pth) : Array Value := #[.int .i64 (x.1 : Int), .string (en x.2)]
abbrev stc (p : Pth) : Array Value := #[.string (en p)]
abbrev TC (v : Value) : Array Value := #[v]
theorem nd_one (x : Nd) : (Nd.cells x).all (·.oneCell') = true := by simp [Value.oneCell']
theorem nt_one (x : Nt) : (Nt.cells x).all (·.oneCell') = true := by simp [Value.oneCell']
theorem rw_one (x : Rw) : (rwc x).all (·.oneCell') = true := by simp [Value.oneCell']
theorem vs_one (x : Nat × Pth) : (vsc x).all (·.oneCell') = true := by simp [Value.oneCell']
theorem st_one (x : Pth) : (stc x).all (·.oneCell') = true := by simp [Value.oneCell']
def DK : Knd Nd := { e := 57, s := 22, k := 4, by_ := 32, z := .agg #[.int .i64 0, .int .i64 0, .bool false, .int .i64 0], enc := Nd.cells, hk := fun _ => rfl, h1 := nd_one, pos := by decide, hz := rfl, hs := Try.underlying22, info := by kernel_rfl }
def TK : Knd Nt := { e := 27, s := 37, k := 2, by_ := 16, z := .agg #[.int .u32 0, .int .i64 0], enc := Nt.cells, hk := fun _ => rfl, h1 := nt_one, pos := by decide, hz := rfl, hs := Try.underlying37, info := by kernel_rfl }
def RK : Knd Rw := { e := 45, s := 41, k := 2, by_ := 24, z := .agg #[.string ⟨#[]⟩, .int .i64 0], enc := rwc, hk := fun _ => rfl, h1 := rw_one, pos := by decide, hz := rfl, hs := Try.underlying41, info := by kernel_rfl }
def VK : Knd (Nat × Pth) := { e := 73, s := 74, k := 2, by_ := 24, z := .agg #[.int .i64 0, .string ⟨#[]⟩], enc := vsc, hk := fun _ => rfl, h1 := vs_one, pos := by decide, hz := rfl, hs := Try.underlying74, info := by kernel_rfl }
def SK : Knd Pth := { e := 9, s := 80, k := 1, by_ := 16, z := .string ⟨#[]⟩, enc := stc, hk := fun _ => rfl, h1 := st_one, pos := by decide, hz := rfl, hs := Try.underlying80, info := by kernel_rfl }
def NK : Knd Int := { e := 3, s := 38, k := 1, by_ := 8, z := .int .i64 0, enc := fun v => #[.int .i64 v], hk := fun _ => rfl, h1 := fun _ => by simp [Value.oneCell'], pos := by decide, hz := rfl, hs := Try.underlying38, info := by kernel_rfl }
theorem nd_info : (Try.prog.info? 57).map (·.size) = some 4 := by kernel_rfl
theorem nt_info : (Try.prog.info? 27).map (·.size) = some 2 := by kernel_rfl
theorem tr_info : (Try.prog.info? 24).map (·.size) = some 1 := by kernel_rfl
theorem ret_int {k : IntKind} {a b : Int} (h : a = b) : Ending.returned (.int k a) = .returned (.int k b) := by rw [h]
theorem ret_bool {a b : Bool} (h : a = b) : Ending.returned (.bool a) = .returned (.bool b) := by rw [h]
/-- the net of a path -/
def nt (p : Pth) : Nt := ⟨ad 32 p, p.length⟩
theorem rd_len {α : Type} {K : Knd α} {w : World} {v : Value} {l : List α} (h : Rd K w v l) : l.length ≤ 9223372036854775807 := by
  obtain ⟨_, _, _, hm, _⟩ := h
  unfold maxLen at hm; omega
theorem rd_cap {α : Type} {K : Knd α} {w : World} {sa : Option Addr} {n sc : Nat} {l : List α} (h : Rd K w (.slice sa n sc) l) : n = l.length ∧ n ≤ sc := by
  obtain ⟨sa', sc', e, _, hf, _⟩ := h
  simp only [Value.slice.injEq] at e
  obtain ⟨rfl, rfl, rfl⟩ := e
  exact ⟨rfl, hf.le⟩
theorem rd_spot {α : Type} {K : Knd α} {w : World} {sa : Option Addr} {n sc : Nat} {l : List α} (h : Rd K w (.slice sa n sc) l) (hp : 0 < l.length) : ∃ b off, sa = some ⟨b, off, none⟩ ∧ b < w.heap.size ∧ ∀ j x, l[j]? = some x → ∀ i, i < K.k → w.cell? ⟨b, off + j * K.k + i, none⟩ = (K.enc x)[i]? := by
  obtain ⟨sa', sc', e, _, _, hc⟩ := h
  simp only [Value.slice.injEq] at e
  obtain ⟨rfl, _, _⟩ := e
  exact hc hp
theorem own_ne {α : Type} {K : Knd α} {w : World} {B g : Nat} {v : Value} {l : List α} (h : Own K w B v l) (hg : g < B) : v.ownBlock ≠ some g := by
  rcases h.forms with ⟨rfl, _⟩ | ⟨g', cap, rfl, hB, _⟩
  · simp [Value.ownBlock]
  · simp [Value.ownBlock]; omega
end Go.Proofs.Yteaieodjkaedjaa.pf
