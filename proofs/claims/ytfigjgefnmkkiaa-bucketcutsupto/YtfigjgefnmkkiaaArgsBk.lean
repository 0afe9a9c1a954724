/- A bucket, rows of drops that came in as arguments. -/
import Derived.Test.YtfigjgefnmkkiaaArgsRd
import Derived.Test.YtfigjgefnmkkiaaBkBase
namespace Go.Proofs.Ytfigjgefnmkkiaa.argbk
open Go.ChangeShapes Go.WideShapes Go.ChangeAt Go.RowKit
open Go.Proofs.Ytfigjgefnmkkiaa.argr Go.Proofs.Ytfigjgefnmkkiaa.bkt Go.Proofs.Ytfigjgefnmkkiaa.rwr

section
variable {H : Type} {enc : TypeId × Value → H} {w : World} {base : Nat} {spare : Nat → Bool} {held : Bool}
set_option maxRecDepth 100000 in
theorem bucket_cells (n : Nat) (cs : List Value) (x : DataW H × List MemPlace) (hf : DataW.trod enc Try.prog w base spare held n 23 cs = some x) :
    ∃ q : Bu, cs = (Bu.cells q).toList := by
  have kS : Try.prog.cellsOf 23 = 4 := by kernel_rfl
  have ki : Try.prog.cellsOf 3 = 1 := by kernel_rfl
  obtain ⟨xs, n, _, hd, hs, hl, hel⟩ := DataW.trod_struct Try.underlying23 hf
  obtain ⟨c0, c1, c2, c3, rfl⟩ : ∃ c0 c1 c2 c3, cs = [c0, c1, c2, c3] := by
    match cs, hs.trans kS with
    | [c0, c1, c2, c3], _ => exact ⟨c0, c1, c2, c3, rfl⟩
  have hlN : xs.length = 4 := by simpa using hl
  have g : ∀ (i : Nat), i < 4 → ∃ z, xs[i]? = some z := fun i hi => ⟨xs[i]'(by omega), List.getElem?_eq_getElem _⟩
  obtain ⟨z0, e0⟩ := g 0 (by omega)
  obtain ⟨a0, q0, _, _⟩ := DataW.trod_int Try.underlying3 ((hel 0 _ rfl).trans e0)
  simp [ki] at q0
  subst q0
  obtain ⟨z1, e1⟩ := g 1 (by omega)
  obtain ⟨a1, q1, _, _⟩ := DataW.trod_int Try.underlying3 ((hel 1 _ rfl).trans e1)
  simp [ki] at q1
  subst q1
  obtain ⟨z2, e2⟩ := g 2 (by omega)
  obtain ⟨a2, q2, _, _⟩ := DataW.trod_int Try.underlying3 ((hel 2 _ rfl).trans e2)
  simp [ki] at q2
  subst q2
  obtain ⟨z3, e3⟩ := g 3 (by omega)
  obtain ⟨a3, q3, _, _⟩ := DataW.trod_int Try.underlying3 ((hel 3 _ rfl).trans e3)
  simp [ki] at q3
  subst q3
  exact ⟨⟨a0, a1, a2, a3⟩, rfl⟩
set_option maxRecDepth 100000 in
theorem drop_cells (n : Nat) (cs : List Value) (x : DataW H × List MemPlace) (hf : DataW.trod enc Try.prog w base spare held n 40 cs = some x) :
    ∃ q : Dp, cs = (Dp.cells q).toList := by
  have kS : Try.prog.cellsOf 40 = 2 := by kernel_rfl
  have ki : Try.prog.cellsOf 3 = 1 := by kernel_rfl
  obtain ⟨xs, n, _, hd, hs, hl, hel⟩ := DataW.trod_struct Try.underlying40 hf
  obtain ⟨c0, c1, rfl⟩ : ∃ c0 c1, cs = [c0, c1] := by
    match cs, hs.trans kS with
    | [c0, c1], _ => exact ⟨c0, c1, rfl⟩
  have hlN : xs.length = 2 := by simpa using hl
  have g : ∀ (i : Nat), i < 2 → ∃ z, xs[i]? = some z := fun i hi => ⟨xs[i]'(by omega), List.getElem?_eq_getElem _⟩
  obtain ⟨z0, e0⟩ := g 0 (by omega)
  obtain ⟨a0, q0, _, _⟩ := DataW.trod_int Try.underlying3 ((hel 0 _ rfl).trans e0)
  simp [ki] at q0
  subst q0
  obtain ⟨z1, e1⟩ := g 1 (by omega)
  obtain ⟨a1, q1, _, _⟩ := DataW.trod_int Try.underlying3 ((hel 1 _ rfl).trans e1)
  simp [ki] at q1
  subst q1
  exact ⟨⟨a0, a1⟩, rfl⟩
/-- it came in as an argument -/
theorem open_bucket {r : Reach} {b0 : Nat} {v : Value} {d' : DataW H} {p : List MemPlace} (hv : Value.okWide Try.prog w r b0 23 v) (h : DataW.Trod enc Try.prog w base spare held 23 v d' p) :
    ∃ q : Bu, v = .agg (Bu.cells q) := by
  obtain ⟨cs, rfl, hs⟩ := okWide_struct Try.underlying23 hv
  obtain ⟨fuel, hf⟩ := h
  obtain ⟨q, hq⟩ := bucket_cells _ _ _ hf
  refine ⟨q, congrArg Value.agg ?_⟩
  have e : cs.toList = (Bu.cells q).toList := hq
  exact Array.toList_inj.1 e
theorem open_drops {r : Reach} {b0 : Nat} {v : Value} {d' : DataW H} {p : List MemPlace} (m : Nat) (hv : Value.okWide Try.prog w r b0 24 v) (h : DataW.Trod enc Try.prog w base spare held 24 v d' p) (hm : (d'.weights Try.prog 24).all (· ≤ m) = true) :
    ∃ l : List Dp, Rd DK w v l ∧ l.length * 16 ≤ m := by
  obtain ⟨a0, n0, c0, rfl⟩ := okWide_slice Try.underlying24 hv
  have kS : Try.prog.cellsOf 40 = 2 := by kernel_rfl
  have bS : Try.prog.bytesOf 40 = 16 := by kernel_rfl
  obtain ⟨fuel, hf⟩ := h
  obtain ⟨sa, sc, l, q, hr, hb, _⟩ := rows DK 24 m ⟨0, 0⟩ (fun _ => True) kS Try.underlying24 (fun n cs x hx _ => by obtain ⟨q, hq⟩ := drop_cells n cs x hx; exact ⟨q, hq, trivial⟩) hf hm
  have e : DK.e = 40 := rfl
  rw [e, bS] at hb
  simp [Value.cells] at q
  obtain ⟨rfl, rfl, rfl⟩ := q
  exact ⟨l, hr, hb⟩
end
end Go.Proofs.Ytfigjgefnmkkiaa.argbk
