/- A road that came in as an argument: its cells. -/
import Derived.Test.YtfaebenhjilkgaaArgsSip
import Derived.Test.YtfaebenhjilkgaaCkMath
namespace Go.Proofs.Ytfaebenhjilkgaa.argck
open Go.ChangeShapes Go.WideShapes Go.ChangeAt Go.RowKit
open Go.Proofs.Ytfaebenhjilkgaa Go.Proofs.Ytfaebenhjilkgaa.argb Go.Proofs.Ytfaebenhjilkgaa.argsp Go.Proofs.Ytfaebenhjilkgaa.ckm

section
variable {H : Type} {enc : TypeId × Value → H} {w : World} {base : Nat} {spare : Nat → Bool} {held : Bool}
theorem array4 {α : Type} {cs : Array α} (h : cs.size = 4) : ∃ c0 c1 c2 c3, cs = #[c0, c1, c2, c3] := by
  obtain ⟨l⟩ := cs
  match l, h with
  | [c0, c1, c2, c3], _ => exact ⟨c0, c1, c2, c3, rfl⟩
theorem open_road {r : Reach} {b0 : Nat} {v : Value} {d : DataW H} {p : List MemPlace} (hv : Value.okWide Try.prog w r b0 27 v) (h : DataW.Trod enc Try.prog w base spare held 27 v d p) :
    ∃ x : Ro, v = .agg x.cells ∧ x.Ad ∧ (Lit.int .i64 x.p).wf = true ∧ (Lit.int .i64 x.q).wf = true := by
  have k4 : Try.prog.cellsOf 27 = 4 := by kernel_rfl
  have ku : Try.prog.cellsOf 25 = 1 := by kernel_rfl
  have k1 : Try.prog.cellsOf 3 = 1 := by kernel_rfl
  obtain ⟨cs, rfl, hs⟩ := argsp.okWide_struct Try.underlying27 hv
  obtain ⟨c0, c1, c2, c3, rfl⟩ := array4 (hs.trans k4)
  obtain ⟨fuel, hf⟩ := h
  obtain ⟨xs, n, _, _, _, hl, hel⟩ := DataW.trod_struct Try.underlying27 hf
  have hl4 : xs.length = 4 := by simpa using hl
  have g : ∀ (i : Nat), i < 4 → ∃ z, xs[i]? = some z := fun i hi => ⟨xs[i]'(by omega), List.getElem?_eq_getElem _⟩
  obtain ⟨z0, e0⟩ := g 0 (by omega)
  obtain ⟨z1, e1⟩ := g 1 (by omega)
  obtain ⟨z2, e2⟩ := g 2 (by omega)
  obtain ⟨z3, e3⟩ := g 3 (by omega)
  obtain ⟨a, q0, _, w0⟩ := DataW.trod_int Try.underlying25 ((hel 0 _ rfl).trans e0)
  obtain ⟨b, q1, _, w1⟩ := DataW.trod_int Try.underlying25 ((hel 1 _ rfl).trans e1)
  obtain ⟨c, q2, _, w2⟩ := DataW.trod_int Try.underlying3 ((hel 2 _ rfl).trans e2)
  obtain ⟨e, q3, _, w3⟩ := DataW.trod_int Try.underlying3 ((hel 3 _ rfl).trans e3)
  simp [Value.cells, k1, ku] at q0 q1 q2 q3
  subst q0 q1 q2 q3
  have b0 := bounds_u32 w0
  have b1 := bounds_u32 w1
  exact ⟨⟨a, b, c, e⟩, rfl, ⟨b0.1, b0.2, b1.1, b1.2⟩, w2, w3⟩
end
end Go.Proofs.Ytfaebenhjilkgaa.argck
