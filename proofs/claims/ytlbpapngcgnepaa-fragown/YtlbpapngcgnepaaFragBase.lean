/- Packets in pieces: rows of packets; the pieces that a packet is split into, and the error that it is split with. -/
import Derived.Test.YtlbpapngcgnepaaIpBase
import Derived.Test.YtlbpapngcgnepaaRws
namespace Go.Proofs.Ytlbpapngcgnepaa.frb
open Go.ChangeShapes Go.WideShapes Go.ChangeAt Go.RowKit
open Go.Proofs.Ytlbpapngcgnepaa.ipb Go.Proofs.Ytlbpapngcgnepaa.boxes Go.Proofs.Ytlbpapngcgnepaa.rws

theorem cells_one (p : Pk) : p.cells.all (·.oneCell') = true := by simp [Value.oneCell']
/-- rows of packets -/
def PK : Knd Pk := { e := 24, s := 25, k := 11, by_ := 88, z := .agg zeroP.cells, enc := Pk.cells, hk := fun _ => rfl, h1 := cells_one, pos := by decide, hz := rfl, hs := Try.underlying25, info := by kernel_rfl }
/-- piece k of z bytes -/
def pc (p : Pk) (z k : Nat) : Pk := { p with st := p.st + (k * z / 8 : Nat), d := p.d.extract (k * z) (min (k * z + z) p.d.size), mo := p.mo || decide (k * z + z < p.d.size) }
def npc (z n : Nat) : Nat := (n + z - 1) / z
def pcs (p : Pk) (z : Nat) : List Pk := (List.range (npc z p.d.size)).map (pc p z)
theorem npc_lt {z n k : Nat} (hz : 0 < z) : k < npc z n ↔ k * z < n := by
  unfold npc
  rw [Nat.lt_iff_add_one_le, Nat.le_div_iff_mul_le hz, Nat.add_mul]; omega
/-- how many bytes a packet has -/
def Pk.sz (p : Pk) : Nat := 20 + p.o.size + p.d.size
/-- how many bytes each piece has -/
def each (p : Pk) (m : Int) : Nat := 8 * ((m - (20 + p.o.size : Nat)) / 8).toNat
/-- the error that a packet is split with -/
def spe (p : Pk) (m : Int) : Int :=
  if p.err ≠ 0 then p.err else if m < 68 ∨ 65535 < m then 1 else if (Pk.sz p : Int) ≤ m then 0 else if p.wh = true then 9 else if 65515 < 8 * p.st + p.d.size then 2 else 0
def spl (p : Pk) (m : Int) : List Pk := if spe p m ≠ 0 then [] else if (Pk.sz p : Int) ≤ m then [p] else pcs p (each p m)
theorem range_succ_map (f : Nat → Pk) (k : Nat) : (List.range k).map f ++ [f k] = (List.range (k + 1)).map f := by simp [List.range_succ]
end Go.Proofs.Ytlbpapngcgnepaa.frb
