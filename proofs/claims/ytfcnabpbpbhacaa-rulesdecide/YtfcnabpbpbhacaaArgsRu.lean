/- Rules, a flow, rows of rules that came in as arguments. -/
import Derived.Test.YtfcnabpbpbhacaaArgsRd
import Derived.Test.YtfcnabpbpbhacaaRuBase
namespace Go.Proofs.Ytfcnabpbpbhacaa.argru
open Go.ChangeShapes Go.WideShapes Go.ChangeAt Go.RowKit
open Go.Proofs.Ytfcnabpbpbhacaa.argr Go.Proofs.Ytfcnabpbpbhacaa.ru Go.Proofs.Ytfcnabpbpbhacaa.rwr

section
variable {H : Type} {enc : TypeId × Value → H} {w : World} {base : Nat} {spare : Nat → Bool} {held : Bool}
theorem nat_u32 {a : Int} (w0 : (Lit.int .u32 a).wf = true) : ∃ n : Nat, a = (n : Int) ∧ n < 4294967296 := by
  obtain ⟨h0, h1⟩ := bounds_u32 w0
  exact ⟨a.toNat, by omega, by omega⟩
set_option maxRecDepth 100000 in
theorem net_cells (n : Nat) (cs : List Value) (x : DataW H × List MemPlace) (hf : DataW.trod enc Try.prog w base spare held n 32 cs = some x) :
    ∃ (a : Nat) (l : Int), cs = [.int .u32 (a : Int), .int .i64 l] ∧ a < 4294967296 := by
  have k2 : Try.prog.cellsOf 32 = 2 := by kernel_rfl
  have ku : Try.prog.cellsOf 23 = 1 := by kernel_rfl
  have ki : Try.prog.cellsOf 3 = 1 := by kernel_rfl
  obtain ⟨xs, n, _, hd, hs, hl, hel⟩ := DataW.trod_struct Try.underlying32 hf
  obtain ⟨c0, c1, rfl⟩ : ∃ c0 c1, cs = [c0, c1] := by
    match cs, hs.trans k2 with
    | [c0, c1], _ => exact ⟨c0, c1, rfl⟩
  have hl2 : xs.length = 2 := by simpa using hl
  have g : ∀ (i : Nat), i < 2 → ∃ z, xs[i]? = some z := fun i hi => ⟨xs[i]'(by omega), List.getElem?_eq_getElem _⟩
  obtain ⟨z0, e0⟩ := g 0 (by omega)
  obtain ⟨z1, e1⟩ := g 1 (by omega)
  obtain ⟨a, q0, _, w0⟩ := DataW.trod_int Try.underlying23 ((hel 0 _ rfl).trans e0)
  obtain ⟨l, q1, _, _⟩ := DataW.trod_int Try.underlying3 ((hel 1 _ rfl).trans e1)
  simp [ku, ki] at q0 q1
  subst q0 q1
  obtain ⟨m, rfl, hm⟩ := nat_u32 w0
  exact ⟨m, l, rfl, hm⟩
set_option maxRecDepth 100000 in
theorem rule_cells (n : Nat) (cs : List Value) (x : DataW H × List MemPlace) (hf : DataW.trod enc Try.prog w base spare held n 34 cs = some x) :
    ∃ q : Ru, cs = (Ru.cells q).toList ∧ fits q := by
  have kS : Try.prog.cellsOf 34 = 10 := by kernel_rfl
  have k2 : Try.prog.cellsOf 32 = 2 := by kernel_rfl
  have ku : Try.prog.cellsOf 23 = 1 := by kernel_rfl
  have ki : Try.prog.cellsOf 3 = 1 := by kernel_rfl
  have kb : Try.prog.cellsOf 4 = 1 := by kernel_rfl
  obtain ⟨xs, n, _, hd, hs, hl, hel⟩ := DataW.trod_struct Try.underlying34 hf
  obtain ⟨c0, c1, c2, c3, c4, c5, c6, c7, c8, c9, rfl⟩ : ∃ c0 c1 c2 c3 c4 c5 c6 c7 c8 c9, cs = [c0, c1, c2, c3, c4, c5, c6, c7, c8, c9] := by
    match cs, hs.trans kS with
    | [c0, c1, c2, c3, c4, c5, c6, c7, c8, c9], _ => exact ⟨c0, c1, c2, c3, c4, c5, c6, c7, c8, c9, rfl⟩
  have hlN : xs.length = 8 := by simpa using hl
  have g : ∀ (i : Nat), i < 8 → ∃ z, xs[i]? = some z := fun i hi => ⟨xs[i]'(by omega), List.getElem?_eq_getElem _⟩
  obtain ⟨z0, e0⟩ := g 0 (by omega)
  have h0 := (hel 0 _ rfl).trans e0
  have h0 : DataW.trod enc Try.prog w base spare held n 32 [c0, c1] = some z0 := by simpa [k2] using h0
  obtain ⟨a0, l0, q0, y0⟩ := net_cells _ _ _ h0
  simp only [List.cons.injEq, and_true] at q0
  obtain ⟨rfl, rfl⟩ := q0
  obtain ⟨z1, e1⟩ := g 1 (by omega)
  have h1 := (hel 1 _ rfl).trans e1
  have h1 : DataW.trod enc Try.prog w base spare held n 32 [c2, c3] = some z1 := by simpa [k2] using h1
  obtain ⟨a1, l1, q1, y1⟩ := net_cells _ _ _ h1
  simp only [List.cons.injEq, and_true] at q1
  obtain ⟨rfl, rfl⟩ := q1
  obtain ⟨z2, e2⟩ := g 2 (by omega)
  obtain ⟨a2, q2, _, w2⟩ := DataW.trod_int Try.underlying3 ((hel 2 _ rfl).trans e2)
  simp [ki] at q2
  subst q2
  obtain ⟨z3, e3⟩ := g 3 (by omega)
  obtain ⟨a3, q3, _, w3⟩ := DataW.trod_int Try.underlying3 ((hel 3 _ rfl).trans e3)
  simp [ki] at q3
  subst q3
  obtain ⟨z4, e4⟩ := g 4 (by omega)
  obtain ⟨a4, q4, _, w4⟩ := DataW.trod_int Try.underlying3 ((hel 4 _ rfl).trans e4)
  simp [ki] at q4
  subst q4
  obtain ⟨z5, e5⟩ := g 5 (by omega)
  obtain ⟨a5, q5, _, w5⟩ := DataW.trod_int Try.underlying3 ((hel 5 _ rfl).trans e5)
  simp [ki] at q5
  subst q5
  obtain ⟨z6, e6⟩ := g 6 (by omega)
  obtain ⟨a6, q6, _, w6⟩ := DataW.trod_int Try.underlying3 ((hel 6 _ rfl).trans e6)
  simp [ki] at q6
  subst q6
  obtain ⟨z7, e7⟩ := g 7 (by omega)
  obtain ⟨a7, q7, _⟩ := DataW.trod_bool Try.underlying4 ((hel 7 _ rfl).trans e7)
  simp [kb] at q7
  subst q7
  exact ⟨⟨a0, l0, a1, l1, a2, a3, a4, a5, a6, a7⟩, rfl, y0, y1⟩
set_option maxRecDepth 100000 in
theorem flow_cells (n : Nat) (cs : List Value) (x : DataW H × List MemPlace) (hf : DataW.trod enc Try.prog w base spare held n 25 cs = some x) :
    ∃ q : Fw, cs = (Fw.cells q).toList ∧ fitsF q := by
  have kS : Try.prog.cellsOf 25 = 5 := by kernel_rfl
  have k2 : Try.prog.cellsOf 32 = 2 := by kernel_rfl
  have ku : Try.prog.cellsOf 23 = 1 := by kernel_rfl
  have ki : Try.prog.cellsOf 3 = 1 := by kernel_rfl
  have kb : Try.prog.cellsOf 4 = 1 := by kernel_rfl
  obtain ⟨xs, n, _, hd, hs, hl, hel⟩ := DataW.trod_struct Try.underlying25 hf
  obtain ⟨c0, c1, c2, c3, c4, rfl⟩ : ∃ c0 c1 c2 c3 c4, cs = [c0, c1, c2, c3, c4] := by
    match cs, hs.trans kS with
    | [c0, c1, c2, c3, c4], _ => exact ⟨c0, c1, c2, c3, c4, rfl⟩
  have hlN : xs.length = 5 := by simpa using hl
  have g : ∀ (i : Nat), i < 5 → ∃ z, xs[i]? = some z := fun i hi => ⟨xs[i]'(by omega), List.getElem?_eq_getElem _⟩
  obtain ⟨z0, e0⟩ := g 0 (by omega)
  obtain ⟨a0, q0, _, w0⟩ := DataW.trod_int Try.underlying23 ((hel 0 _ rfl).trans e0)
  simp [ku] at q0
  subst q0
  obtain ⟨z1, e1⟩ := g 1 (by omega)
  obtain ⟨a1, q1, _, w1⟩ := DataW.trod_int Try.underlying23 ((hel 1 _ rfl).trans e1)
  simp [ku] at q1
  subst q1
  obtain ⟨z2, e2⟩ := g 2 (by omega)
  obtain ⟨a2, q2, _, w2⟩ := DataW.trod_int Try.underlying3 ((hel 2 _ rfl).trans e2)
  simp [ki] at q2
  subst q2
  obtain ⟨z3, e3⟩ := g 3 (by omega)
  obtain ⟨a3, q3, _, w3⟩ := DataW.trod_int Try.underlying3 ((hel 3 _ rfl).trans e3)
  simp [ki] at q3
  subst q3
  obtain ⟨z4, e4⟩ := g 4 (by omega)
  obtain ⟨a4, q4, _, w4⟩ := DataW.trod_int Try.underlying3 ((hel 4 _ rfl).trans e4)
  simp [ki] at q4
  subst q4
  obtain ⟨m0, rfl, y0⟩ := nat_u32 w0
  obtain ⟨m1, rfl, y1⟩ := nat_u32 w1
  exact ⟨⟨m0, m1, a2, a3, a4⟩, rfl, y0, y1⟩
/-- it came in as an argument -/
theorem open_rule {r : Reach} {b0 : Nat} {v : Value} {d' : DataW H} {p : List MemPlace} (hv : Value.okWide Try.prog w r b0 34 v) (h : DataW.Trod enc Try.prog w base spare held 34 v d' p) :
    ∃ q : Ru, v = .agg (Ru.cells q) ∧ fits q := by
  obtain ⟨cs, rfl, hs⟩ := okWide_struct Try.underlying34 hv
  obtain ⟨fuel, hf⟩ := h
  obtain ⟨q, hq, hy⟩ := rule_cells _ _ _ hf
  refine ⟨q, congrArg Value.agg ?_, hy⟩
  have e : cs.toList = (Ru.cells q).toList := hq
  exact Array.toList_inj.1 e
/-- it came in as an argument -/
theorem open_flow {r : Reach} {b0 : Nat} {v : Value} {d' : DataW H} {p : List MemPlace} (hv : Value.okWide Try.prog w r b0 25 v) (h : DataW.Trod enc Try.prog w base spare held 25 v d' p) :
    ∃ q : Fw, v = .agg (Fw.cells q) ∧ fitsF q := by
  obtain ⟨cs, rfl, hs⟩ := okWide_struct Try.underlying25 hv
  obtain ⟨fuel, hf⟩ := h
  obtain ⟨q, hq, hy⟩ := flow_cells _ _ _ hf
  refine ⟨q, congrArg Value.agg ?_, hy⟩
  have e : cs.toList = (Fw.cells q).toList := hq
  exact Array.toList_inj.1 e
theorem open_rules {r : Reach} {b0 : Nat} {v : Value} {d' : DataW H} {p : List MemPlace} (m : Nat) (hv : Value.okWide Try.prog w r b0 22 v) (h : DataW.Trod enc Try.prog w base spare held 22 v d' p) (hm : (d'.weights Try.prog 22).all (· ≤ m) = true) :
    ∃ l : List Ru, Rd UK w v l ∧ l.length * 80 ≤ m ∧ ∀ x ∈ l, fits x := by
  obtain ⟨a0, n0, c0, rfl⟩ := okWide_slice Try.underlying22 hv
  have kS : Try.prog.cellsOf 34 = 10 := by kernel_rfl
  have bS : Try.prog.bytesOf 34 = 80 := by kernel_rfl
  obtain ⟨fuel, hf⟩ := h
  obtain ⟨sa, sc, l, q, hr, hb, hx⟩ := rows UK 22 m ru0 fits kS Try.underlying22 (fun n cs x hx _ => rule_cells n cs x hx) hf hm
  have e : UK.e = 34 := rfl
  rw [e, bS] at hb
  simp [Value.cells] at q
  obtain ⟨rfl, rfl, rfl⟩ := q
  exact ⟨l, hr, hb, hx⟩
end
end Go.Proofs.Ytfcnabpbpbhacaa.argru
