/- Stays as they lie in memory; rooms by their age: size and order. -/
import Derived.Test.YtehiipnafckjbaaAgMath2
import Derived.Test.YtehiipnafckjbaaRwsRd
import Derived.Test.YtehiipnafckjbaaAb
import Derived.Test.YtehiipnafckjbaaBlkRets
import Derived.WalkSpells
import Derived.WalkLawsBesides
import Derived.BigQuiet
import Derived.Deep.RegionWith
import Derived.Deep.DeepCutAuto
import Derived.LoopN
namespace Go.Proofs.Ytehiipnafckjbaa.ag
open Go.ChangeShapes Go.WideShapes Go.ChangeAt Go.RowKit
open Go.Proofs.Ytehiipnafckjbaa.am Go.Proofs.Ytehiipnafckjbaa.boxes Go.Proofs.Ytehiipnafckjbaa.rwr
open Go.Proofs.Ytehiipnafckjbaa.rws (Knd Own)

abbrev Sy.cells (s : Sy) : Array Value := #[.int .i64 s.r, .int .i64 s.a]
theorem sy_one (s : Sy) : (Sy.cells s).all (·.oneCell') = true := by simp [Value.oneCell']
def SK : Knd Sy := { e := 41, s := 22, k := 2, by_ := 16, z := .agg #[.int .i64 0, .int .i64 0], enc := Sy.cells, hk := fun _ => rfl, h1 := sy_one, pos := by decide, hz := rfl, hs := Try.underlying22, info := by kernel_rfl }
def NK : Knd Int := { e := 3, s := 37, k := 1, by_ := 8, z := .int .i64 0, enc := fun v => #[.int .i64 v], hk := fun _ => rfl, h1 := fun _ => by simp [Value.oneCell'], pos := by decide, hz := rfl, hs := Try.underlying37, info := by kernel_rfl }
theorem sy_info : (Try.prog.info? 41).map (·.size) = some 2 := by kernel_rfl
theorem ag_info : (Try.prog.info? 24).map (·.size) = some 2 := by kernel_rfl
/-- rooms as they lie: the size, the order -/
abbrev AC (n : Int) (v : Value) : Array Value := #[.int .i64 n, v]
abbrev Z2 : Array Value := #[.int .i64 0, .slice none 0 0]
theorem ag_one (n : Int) (sa : Option Addr) (m c : Nat) : (#[Value.int .i64 n, Value.slice sa m c]).all (·.oneCell') = true := by simp [Value.oneCell']
theorem ret_int {k : IntKind} {a b : Int} (h : a = b) : Ending.returned (.int k a) = .returned (.int k b) := by rw [h]
theorem ret_bool {a b : Bool} (h : a = b) : Ending.returned (.bool a) = .returned (.bool b) := by rw [h]
/-- a row of stays that isn't empty: where it lies -/
theorem rd_at {w : World} {v : Value} {l : List Sy} (h : Rd SK w v l) (hp : 0 < l.length) : ∃ b off sc, v = .slice (some ⟨b, off, none⟩) l.length sc ∧ b < w.heap.size ∧ l.length ≤ 9223372036854775807 ∧ l.length ≤ sc ∧ ∀ j x, l[j]? = some x → ∀ i, i < SK.k → w.cell? ⟨b, off + j * SK.k + i, none⟩ = (SK.enc x)[i]? := by
  obtain ⟨sa, sc, rfl, hm, hf, hc⟩ := h
  obtain ⟨b, off, rfl, hb, hx⟩ := hc hp
  exact ⟨b, off, sc, rfl, hb, by unfold maxLen at hm; omega, hf.le, hx⟩
theorem cell_r {w : World} {b off : Nat} {l : List Sy} (hx : ∀ j x, l[j]? = some x → ∀ i, i < SK.k → w.cell? ⟨b, off + j * SK.k + i, none⟩ = (SK.enc x)[i]?) {j : Nat} (hj : j < l.length) : w.cell? ⟨b, off + j * 2, none⟩ = some (.int .i64 (ax l j).r) := hx j _ (ax_get hj) 0 (by decide)
theorem cell_a {w : World} {b off : Nat} {l : List Sy} (hx : ∀ j x, l[j]? = some x → ∀ i, i < SK.k → w.cell? ⟨b, off + j * SK.k + i, none⟩ = (SK.enc x)[i]?) {j : Nat} (hj : j < l.length) : w.cell? ⟨b, off + j * 2 + 1, none⟩ = some (.int .i64 (ax l j).a) := hx j _ (ax_get hj) 1 (by decide)
theorem rd_spot {w : World} {sa : Option Addr} {n sc : Nat} {l : List Sy} (h : Rd SK w (.slice sa n sc) l) (hp : 0 < l.length) : ∃ b off, sa = some ⟨b, off, none⟩ ∧ b < w.heap.size ∧ ∀ j x, l[j]? = some x → ∀ i, i < SK.k → w.cell? ⟨b, off + j * SK.k + i, none⟩ = (SK.enc x)[i]? := by
  obtain ⟨sa', sc', e, _, _, hc⟩ := h
  simp only [Value.slice.injEq] at e
  obtain ⟨rfl, _, _⟩ := e
  exact hc hp
theorem rd_cap {w : World} {sa : Option Addr} {n sc : Nat} {l : List Sy} (h : Rd SK w (.slice sa n sc) l) : n = l.length ∧ n ≤ sc := by
  obtain ⟨sa', sc', e, _, hf, _⟩ := h
  simp only [Value.slice.injEq] at e
  obtain ⟨rfl, rfl, rfl⟩ := e
  exact ⟨rfl, hf.le⟩
theorem rd_len {w : World} {v : Value} {l : List Sy} (h : Rd SK w v l) : l.length ≤ 9223372036854775807 := by
  obtain ⟨_, _, _, hm, _⟩ := h
  unfold maxLen at hm; omega
theorem own_ne {α : Type} {K : Knd α} {w : World} {B g : Nat} {v : Value} {l : List α} (h : Own K w B v l) (hg : g < B) : v.ownBlock ≠ some g := by
  rcases h.forms with ⟨rfl, _⟩ | ⟨g', cap, rfl, hB, _⟩
  · simp [Value.ownBlock]
  · simp [Value.ownBlock]; omega
end Go.Proofs.Ytehiipnafckjbaa.ag
