/- Buckets, drops and rows of bools as they lie in memory. -/
import Derived.Test.YtfigjgefnmkkiaaBkMath
import Derived.Test.YtfigjgefnmkkiaaRwsCut
import Derived.Test.YtfigjgefnmkkiaaRwsRd
import Derived.Test.YtfigjgefnmkkiaaAb
import Derived.Test.YtfigjgefnmkkiaaBlkRets
import Derived.WalkSpells
import Derived.WalkLawsBesides
import Derived.BigQuiet
import Derived.Deep.RegionWith
import Derived.Deep.DeepCutAuto
import Derived.LoopN
namespace Go.Proofs.Ytfigjgefnmkkiaa.bkt
open Go.ChangeShapes Go.WideShapes Go.ChangeAt Go.RowKit
open Go.Proofs.Ytfigjgefnmkkiaa.boxes Go.Proofs.Ytfigjgefnmkkiaa.rwr
open Go.Proofs.Ytfigjgefnmkkiaa.rws (Knd Own)

abbrev BC (r m h a : Int) : Array Value := #[.int .i64 r, .int .i64 m, .int .i64 h, .int .i64 a]
abbrev Bu.cells (b : Bu) : Array Value := BC b.r b.m b.h b.a
abbrev Dp.cells (d : Dp) : Array Value := #[.int .i64 d.a, .int .i64 d.n]
theorem bu_one (x : Bu) : (Bu.cells x).all (·.oneCell') = true := by simp [Value.oneCell']
theorem dp_one (x : Dp) : (Dp.cells x).all (·.oneCell') = true := by simp [Value.oneCell']
theorem bu_info : (Try.prog.info? 23).map (·.size) = some 4 := by kernel_rfl
theorem dp_info : (Try.prog.info? 40).map (·.size) = some 2 := by kernel_rfl
def DK : Knd Dp := { e := 40, s := 24, k := 2, by_ := 16, z := .agg #[.int .i64 0, .int .i64 0], enc := Dp.cells, hk := fun _ => rfl, h1 := dp_one, pos := by decide, hz := rfl, hs := Try.underlying24, info := by kernel_rfl }
def BK : Knd Bool := { e := 4, s := 28, k := 1, by_ := 1, z := .bool false, enc := fun b => #[.bool b], hk := fun _ => rfl, h1 := fun b => by simp [Value.oneCell'], pos := by decide, hz := rfl, hs := Try.underlying28, info := by kernel_rfl }
theorem ret_int {k : IntKind} {a b : Int} (h : a = b) : Ending.returned (.int k a) = .returned (.int k b) := by rw [h]
theorem ret_bool {a b : Bool} (h : a = b) : Ending.returned (.bool a) = .returned (.bool b) := by rw [h]
theorem rd_len {α : Type} {K : Knd α} {w : World} {v : Value} {l : List α} (h : Rd K w v l) : l.length ≤ 9223372036854775807 := by
  obtain ⟨_, _, _, hm, _⟩ := h
  unfold maxLen at hm; omega
theorem rd_spot {α : Type} {K : Knd α} {w : World} {sa : Option Addr} {n sc : Nat} {l : List α} (h : Rd K w (.slice sa n sc) l) (hp : 0 < l.length) : ∃ b off, sa = some ⟨b, off, none⟩ ∧ b < w.heap.size ∧ ∀ j x, l[j]? = some x → ∀ i, i < K.k → w.cell? ⟨b, off + j * K.k + i, none⟩ = (K.enc x)[i]? := by
  obtain ⟨sa', sc', e, _, _, hc⟩ := h
  simp only [Value.slice.injEq] at e
  obtain ⟨rfl, _, _⟩ := e
  exact hc hp
theorem own_ne {α : Type} {K : Knd α} {w : World} {B g : Nat} {v : Value} {l : List α} (h : Own K w B v l) (hg : g < B) : v.ownBlock ≠ some g := by
  rcases h.forms with ⟨rfl, _⟩ | ⟨g', cap, rfl, hB, _⟩
  · simp [Value.ownBlock]
  · simp [Value.ownBlock]; omega
end Go.Proofs.Ytfigjgefnmkkiaa.bkt
