/- Rooms by their age that came in as an argument; rows of ints. -/
import Derived.Test.YtehiipnafckjbaaArgsRd
import Derived.Test.YtehiipnafckjbaaAgBase
namespace Go.Proofs.Ytehiipnafckjbaa.argag
open Go.ChangeShapes Go.WideShapes Go.ChangeAt Go.RowKit
open Go.Proofs.Ytehiipnafckjbaa.argr Go.Proofs.Ytehiipnafckjbaa.am Go.Proofs.Ytehiipnafckjbaa.ag Go.Proofs.Ytehiipnafckjbaa.rwr

section
variable {H : Type} {enc : TypeId × Value → H} {w : World} {base : Nat} {spare : Nat → Bool} {held : Bool}
set_option maxRecDepth 100000 in
theorem stay_cells (m : Nat) (n : Nat) (cs : List Value) (x : DataW H × List MemPlace) (hf : DataW.trod enc Try.prog w base spare held n 41 cs = some x) (_ : (x.1.weights Try.prog 41).all (· ≤ m) = true) :
    ∃ q : Sy, cs = (Sy.cells q).toList ∧ -9223372036854775808 ≤ q.a := by
  have k2 : Try.prog.cellsOf 41 = 2 := by kernel_rfl
  have ki : Try.prog.cellsOf 3 = 1 := by kernel_rfl
  obtain ⟨xs, n, _, hd, hs, hl, hel⟩ := DataW.trod_struct Try.underlying41 hf
  obtain ⟨c0, c1, rfl⟩ : ∃ c0 c1, cs = [c0, c1] := by
    match cs, hs.trans k2 with
    | [c0, c1], _ => exact ⟨c0, c1, rfl⟩
  have hl2 : xs.length = 2 := by simpa using hl
  have g : ∀ (i : Nat), i < 2 → ∃ z, xs[i]? = some z := fun i hi => ⟨xs[i]'(by omega), List.getElem?_eq_getElem _⟩
  obtain ⟨z0, e0⟩ := g 0 (by omega)
  obtain ⟨z1, e1⟩ := g 1 (by omega)
  obtain ⟨r, q0, y0, w0⟩ := DataW.trod_int Try.underlying3 ((hel 0 _ rfl).trans e0)
  obtain ⟨a, q1, y1, w1⟩ := DataW.trod_int Try.underlying3 ((hel 1 _ rfl).trans e1)
  simp [ki] at q0 q1
  subst q0 q1
  exact ⟨⟨r, a⟩, rfl, (bounds_i64 w1).1⟩
set_option maxRecDepth 100000 in
/-- rooms that came in as an argument -/
theorem open_ages {r : Reach} {b0 : Nat} {v : Value} {d' : DataW H} {p : List MemPlace} (m : Nat) (hv : Value.okWide Try.prog w r b0 24 v) (h : DataW.Trod enc Try.prog w base spare held 24 v d' p) (hm : (d'.weights Try.prog 24).all (· ≤ m) = true) :
    ∃ (n : Int) (u : Value) (l : List Sy), v = .agg (AC n u) ∧ Rd SK w u l ∧ l.length * 16 ≤ m := by
  have k2 : Try.prog.cellsOf 24 = 2 := by kernel_rfl
  have ki : Try.prog.cellsOf 3 = 1 := by kernel_rfl
  have k3 : Try.prog.cellsOf 41 = 2 := by kernel_rfl
  have kp : Try.prog.cellsOf 22 = 1 := by kernel_rfl
  have b16 : Try.prog.bytesOf 41 = 16 := by kernel_rfl
  obtain ⟨cs, rfl, hs⟩ := okWide_struct Try.underlying24 hv
  obtain ⟨c0, c1, rfl⟩ : ∃ c0 c1, cs = #[c0, c1] := by
    obtain ⟨l⟩ := cs
    match l, hs.trans k2 with
    | [c0, c1], _ => exact ⟨c0, c1, rfl⟩
  obtain ⟨fuel, hf⟩ := h
  obtain ⟨xs, n, _, hd, _, hl, hel⟩ := DataW.trod_struct Try.underlying24 hf
  have hl2 : xs.length = 2 := by simpa using hl
  have g : ∀ (i : Nat), i < 2 → ∃ z, xs[i]? = some z := fun i hi => ⟨xs[i]'(by omega), List.getElem?_eq_getElem _⟩
  obtain ⟨y0, e0⟩ := g 0 (by omega)
  obtain ⟨y1, e1⟩ := g 1 (by omega)
  have hd1 : d' = .agg (xs.map (·.1)) := congrArg Prod.fst hd
  rw [hd1] at hm
  simp only [DataW.weights, Try.underlying24] at hm
  have g1 : (y1.1.weights Try.prog 22).all (· ≤ m) = true := List.all_eq_true.2 fun n hn => List.all_eq_true.1 hm n (DataW.weights_mem_each (j := 1) (t := 22) (d := y1.1) (by rfl) (by simp [e1]) n hn)
  obtain ⟨sz, q0, _, _⟩ := DataW.trod_int Try.underlying3 ((hel 0 _ rfl).trans e0)
  obtain ⟨sa, sc, os, q1, hr, hb, hx⟩ := rows SK 22 m (z0 : Sy) (fun q : Sy => -9223372036854775808 ≤ q.a) k3 Try.underlying22 (stay_cells m) ((hel 1 _ rfl).trans e1) g1
  simp [Value.cells, kp, ki] at q0 q1
  subst q0 q1
  have e : SK.e = 41 := rfl
  rw [e, b16] at hb
  exact ⟨sz, .slice sa os.length sc, os, rfl, hr, hb⟩
theorem open_ints {r : Reach} {b0 : Nat} {v : Value} {d' : DataW H} {p : List MemPlace} (m : Nat) (hv : Value.okWide Try.prog w r b0 37 v) (h : DataW.Trod enc Try.prog w base spare held 37 v d' p) (hm : (d'.weights Try.prog 37).all (· ≤ m) = true) :
    ∃ l : List Int, Rd NK w v l ∧ ∀ k ∈ l, -9223372036854775808 ≤ k ∧ k ≤ 9223372036854775807 := by
  obtain ⟨a0, n0, c0, rfl⟩ := okWide_slice Try.underlying37 hv
  have ku : Try.prog.cellsOf 3 = 1 := by kernel_rfl
  obtain ⟨fuel, hf⟩ := h
  obtain ⟨sa, sc, l, q, hr, _, hx⟩ := rows NK 37 m 0 (fun k : Int => -9223372036854775808 ≤ k ∧ k ≤ 9223372036854775807) ku Try.underlying37 (fun n cs x hx _ => by
    obtain ⟨k, q1, _, w1⟩ := DataW.trod_int Try.underlying3 hx
    exact ⟨k, q1, bounds_i64 w1⟩) hf hm
  simp [Value.cells] at q
  obtain ⟨rfl, rfl, rfl⟩ := q
  exact ⟨l, hr, hx⟩
end
end Go.Proofs.Ytehiipnafckjbaa.argag
