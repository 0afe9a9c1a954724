/- Nets as they lie in memory; what is generic about rows that are read. -/
import Derived.Test.YtfcnabpbpbhacaaNetMath
import Derived.Test.YtfcnabpbpbhacaaRwsCut
import Derived.Test.YtfcnabpbpbhacaaRwsRd
import Derived.Test.YtfcnabpbpbhacaaAb
import Derived.Test.YtfcnabpbpbhacaaBlkRets
import Derived.WalkSpells
import Derived.WalkLawsBesides
import Derived.BigQuiet
import Derived.Deep.RegionWith
import Derived.Deep.DeepCutAuto
import Derived.LoopN
namespace Go.Proofs.Ytfcnabpbpbhacaa.pf
open Go.ChangeShapes Go.WideShapes Go.ChangeAt Go.RowKit
open Go.Proofs.Ytfcnabpbpbhacaa.pm Go.Proofs.Ytfcnabpbpbhacaa.boxes Go.Proofs.Ytfcnabpbpbhacaa.rwr
open Go.Proofs.Ytfcnabpbpbhacaa.rws (Knd Own)

/-- a path as text -/
def en (p : Pth) : ByteArray := ⟨(p.map fun b => if b then (49 : UInt8) else 48).toArray⟩
theorem en_size (p : Pth) : (en p).size = p.length := by simp [en, ByteArray.size]
structure Nt where
  a : Nat
  l : Int
abbrev NC (a : Nat) (l : Int) : Array Value := #[.int .u32 (a : Int), .int .i64 l]
abbrev Nt.cells (x : Nt) : Array Value := NC x.a x.l
theorem nt_one (x : Nt) : (Nt.cells x).all (·.oneCell') = true := by simp [Value.oneCell']
theorem nt_info : (Try.prog.info? 32).map (·.size) = some 2 := by kernel_rfl
theorem ret_int {k : IntKind} {a b : Int} (h : a = b) : Ending.returned (.int k a) = .returned (.int k b) := by rw [h]
theorem ret_bool {a b : Bool} (h : a = b) : Ending.returned (.bool a) = .returned (.bool b) := by rw [h]
theorem rd_len {α : Type} {K : Knd α} {w : World} {v : Value} {l : List α} (h : Rd K w v l) : l.length ≤ 9223372036854775807 := by
  obtain ⟨_, _, _, hm, _⟩ := h
  unfold maxLen at hm; omega
theorem rd_cap {α : Type} {K : Knd α} {w : World} {sa : Option Addr} {n sc : Nat} {l : List α} (h : Rd K w (.slice sa n sc) l) : n = l.length ∧ n ≤ sc := by
  obtain ⟨sa', sc', e, _, hf, _⟩ := h
  simp only [Value.slice.injEq] at e
  obtain ⟨rfl, rfl, rfl⟩ := e
  exact ⟨rfl, hf.le⟩
theorem rd_spot {α : Type} {K : Knd α} {w : World} {sa : Option Addr} {n sc : Nat} {l : List α} (h : Rd K w (.slice sa n sc) l) (hp : 0 < l.length) : ∃ b off, sa = some ⟨b, off, none⟩ ∧ b < w.heap.size ∧ ∀ j x, l[j]? = some x → ∀ i, i < K.k → w.cell? ⟨b, off + j * K.k + i, none⟩ = (K.enc x)[i]? := by
  obtain ⟨sa', sc', e, _, _, hc⟩ := h
  simp only [Value.slice.injEq] at e
  obtain ⟨rfl, _, _⟩ := e
  exact hc hp
theorem own_ne {α : Type} {K : Knd α} {w : World} {B g : Nat} {v : Value} {l : List α} (h : Own K w B v l) (hg : g < B) : v.ownBlock ≠ some g := by
  rcases h.forms with ⟨rfl, _⟩ | ⟨g', cap, rfl, hB, _⟩
  · simp [Value.ownBlock]
  · simp [Value.ownBlock]; omega
end Go.Proofs.Ytfcnabpbpbhacaa.pf
