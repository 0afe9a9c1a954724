/- Rows of numbers that came in as arguments: keys of 64 bits, ints. -/
import Derived.Test.YtmnmjmbfnecmoaaArgsTb
namespace Go.Proofs.Ytmnmjmbfnecmoaa.argn
open Go.ChangeShapes Go.WideShapes Go.ChangeAt Go.RowKit
open Go.Proofs.Ytmnmjmbfnecmoaa.argr Go.Proofs.Ytmnmjmbfnecmoaa.rwr Go.Proofs.Ytmnmjmbfnecmoaa.argtb
open Go.Proofs.Ytmnmjmbfnecmoaa.rws (Knd)

def UK : Knd Nat := { e := 25, s := 42, k := 1, by_ := 8, z := .int .u64 0, enc := fun k => #[.int .u64 (k : Int)], hk := fun _ => rfl, h1 := fun _ => by simp [Value.oneCell'], pos := by decide, hz := rfl, hs := Try.underlying42, info := by kernel_rfl }
def IK : Knd Int := { e := 3, s := 43, k := 1, by_ := 8, z := .int .i64 0, enc := fun v => #[.int .i64 v], hk := fun _ => rfl, h1 := fun _ => by simp [Value.oneCell'], pos := by decide, hz := rfl, hs := Try.underlying43, info := by kernel_rfl }
section
variable {H : Type} {enc : TypeId × Value → H} {w : World} {base : Nat} {spare : Nat → Bool} {held : Bool}
theorem open_keys {r : Reach} {b0 : Nat} {v : Value} {d' : DataW H} {p : List MemPlace} (m : Nat) (hv : Value.okWide Try.prog w r b0 42 v) (h : DataW.Trod enc Try.prog w base spare held 42 v d' p) (hm : (d'.weights Try.prog 42).all (· ≤ m) = true) :
    ∃ l : List Nat, Rd UK w v l ∧ ∀ k ∈ l, k < 18446744073709551616 := by
  obtain ⟨a0, n0, c0, rfl⟩ := okWide_slice Try.underlying42 hv
  have ku : Try.prog.cellsOf 25 = 1 := by kernel_rfl
  obtain ⟨fuel, hf⟩ := h
  obtain ⟨sa, sc, l, q, hr, _, hx⟩ := rows UK 42 m 0 (fun k : Nat => k < 18446744073709551616) ku Try.underlying42 (fun n cs x hx _ => by
    obtain ⟨k, q1, _, w1⟩ := DataW.trod_int Try.underlying25 hx
    obtain ⟨g0, g1⟩ := bounds_u64 w1
    obtain ⟨k', rfl⟩ : ∃ k' : Nat, k = (k' : Int) := ⟨k.toNat, by omega⟩
    exact ⟨k', q1, by omega⟩) hf hm
  simp [Value.cells] at q
  obtain ⟨rfl, rfl, rfl⟩ := q
  exact ⟨l, hr, hx⟩
theorem open_nums {r : Reach} {b0 : Nat} {v : Value} {d' : DataW H} {p : List MemPlace} (m : Nat) (hv : Value.okWide Try.prog w r b0 43 v) (h : DataW.Trod enc Try.prog w base spare held 43 v d' p) (hm : (d'.weights Try.prog 43).all (· ≤ m) = true) :
    ∃ l : List Int, Rd IK w v l ∧ ∀ k ∈ l, -9223372036854775808 ≤ k ∧ k ≤ 9223372036854775807 := by
  obtain ⟨a0, n0, c0, rfl⟩ := okWide_slice Try.underlying43 hv
  have ku : Try.prog.cellsOf 3 = 1 := by kernel_rfl
  obtain ⟨fuel, hf⟩ := h
  obtain ⟨sa, sc, l, q, hr, _, hx⟩ := rows IK 43 m 0 (fun k : Int => -9223372036854775808 ≤ k ∧ k ≤ 9223372036854775807) ku Try.underlying43 (fun n cs x hx _ => by
    obtain ⟨k, q1, _, w1⟩ := DataW.trod_int Try.underlying3 hx
    exact ⟨k, q1, bounds_i64 w1⟩) hf hm
  simp [Value.cells] at q
  obtain ⟨rfl, rfl, rfl⟩ := q
  exact ⟨l, hr, hx⟩
end
/-- a row of numbers that isn't empty: where it lies -/
theorem keys_at {w : World} {sa : Option Addr} {n sc : Nat} {l : List Nat} (h : Rd UK w (.slice sa n sc) l) (hn : 0 < n) : ∃ b off, sa = some ⟨b, off, none⟩ ∧ b < w.heap.size ∧ ∀ (j : Nat) x, l[j]? = some x → w.cell? ⟨b, off + j, none⟩ = some (.int .u64 (x : Int)) := by
  obtain ⟨sa', sc', e, _, _, hc⟩ := h
  simp only [Value.slice.injEq] at e
  obtain ⟨rfl, e2, _⟩ := e
  obtain ⟨b, off, rfl, hb, hx⟩ := hc (by omega)
  refine ⟨b, off, rfl, hb, fun j x hj => ?_⟩
  have := hx j x hj 0 (by decide)
  simpa [UK] using this
theorem nums_at {w : World} {sa : Option Addr} {n sc : Nat} {l : List Int} (h : Rd IK w (.slice sa n sc) l) (hn : 0 < n) : ∃ b off, sa = some ⟨b, off, none⟩ ∧ b < w.heap.size ∧ ∀ (j : Nat) x, l[j]? = some x → w.cell? ⟨b, off + j, none⟩ = some (.int .i64 x) := by
  obtain ⟨sa', sc', e, _, _, hc⟩ := h
  simp only [Value.slice.injEq] at e
  obtain ⟨rfl, e2, _⟩ := e
  obtain ⟨b, off, rfl, hb, hx⟩ := hc (by omega)
  refine ⟨b, off, rfl, hb, fun j x hj => ?_⟩
  have := hx j x hj 0 (by decide)
  simpa [IK] using this
end Go.Proofs.Ytmnmjmbfnecmoaa.argn
