/- A table that came in as an argument: its slots, and how great its keys may be. -/
import Derived.Test.YtmnmjmbfnecmoaaArgsRd
import Derived.Test.YtmnmjmbfnecmoaaTabBase
namespace Go.Proofs.Ytmnmjmbfnecmoaa.argtb
open Go.ChangeShapes Go.WideShapes Go.ChangeAt Go.RowKit
open Go.Proofs.Ytmnmjmbfnecmoaa.argr Go.Proofs.Ytmnmjmbfnecmoaa.tm Go.Proofs.Ytmnmjmbfnecmoaa.tb Go.Proofs.Ytmnmjmbfnecmoaa.rwr

section
variable {H : Type} {enc : TypeId × Value → H} {w : World} {base : Nat} {spare : Nat → Bool} {held : Bool}
theorem bounds_u64 {n : Int} (h : (Lit.int .u64 n).wf = true) : 0 ≤ n ∧ n ≤ 18446744073709551615 := by
  simp [Lit.wf, IntKind.min, IntKind.max, IntKind.signed, IntKind.bits] at h
  omega
set_option maxRecDepth 100000 in
theorem slot_cells (m : Nat) (n : Nat) (cs : List Value) (x : DataW H × List MemPlace) (hf : DataW.trod enc Try.prog w base spare held n 40 cs = some x) (_ : (x.1.weights Try.prog 40).all (· ≤ m) = true) :
    ∃ q : St, cs = (St.cells q).toList ∧ q.k < 18446744073709551616 := by
  have k3 : Try.prog.cellsOf 40 = 3 := by kernel_rfl
  have ki : Try.prog.cellsOf 3 = 1 := by kernel_rfl
  have kb : Try.prog.cellsOf 4 = 1 := by kernel_rfl
  have ku : Try.prog.cellsOf 25 = 1 := by kernel_rfl
  obtain ⟨xs, n, _, hd, hs, hl, hel⟩ := DataW.trod_struct Try.underlying40 hf
  obtain ⟨c0, c1, c2, rfl⟩ : ∃ c0 c1 c2, cs = [c0, c1, c2] := by
    match cs, hs.trans k3 with
    | [c0, c1, c2], _ => exact ⟨c0, c1, c2, rfl⟩
  have hl3 : xs.length = 3 := by simpa using hl
  have g : ∀ (i : Nat), i < 3 → ∃ z, xs[i]? = some z := fun i hi => ⟨xs[i]'(by omega), List.getElem?_eq_getElem _⟩
  obtain ⟨z0, e0⟩ := g 0 (by omega)
  obtain ⟨z1, e1⟩ := g 1 (by omega)
  obtain ⟨z2, e2⟩ := g 2 (by omega)
  obtain ⟨u, q0, y0⟩ := DataW.trod_bool Try.underlying4 ((hel 0 _ rfl).trans e0)
  obtain ⟨k, q1, y1, w1⟩ := DataW.trod_int Try.underlying25 ((hel 1 _ rfl).trans e1)
  obtain ⟨v, q2, y2, w2⟩ := DataW.trod_int Try.underlying3 ((hel 2 _ rfl).trans e2)
  simp [ki, kb, ku] at q0 q1 q2
  subst q0 q1 q2
  obtain ⟨h0, h1⟩ := bounds_u64 w1
  obtain ⟨k', rfl⟩ : ∃ k' : Nat, k = (k' : Int) := ⟨k.toNat, by omega⟩
  exact ⟨⟨u, k', v⟩, rfl, by show k' < _; omega⟩
set_option maxRecDepth 100000 in
/-- a table that came in as an argument -/
theorem open_table {r : Reach} {b0 : Nat} {v : Value} {d' : DataW H} {p : List MemPlace} (m : Nat) (hv : Value.okWide Try.prog w r b0 24 v) (h : DataW.Trod enc Try.prog w base spare held 24 v d' p) (hm : (d'.weights Try.prog 24).all (· ≤ m) = true) :
    ∃ (u : Value) (l : List St), v = .agg #[u] ∧ Rd SK w u l ∧ l.length * 24 ≤ m ∧ ∀ i, (ax l i).k < 18446744073709551616 := by
  have k1 : Try.prog.cellsOf 24 = 1 := by kernel_rfl
  have k3 : Try.prog.cellsOf 40 = 3 := by kernel_rfl
  have kp : Try.prog.cellsOf 22 = 1 := by kernel_rfl
  have b24 : Try.prog.bytesOf 40 = 24 := by kernel_rfl
  obtain ⟨cs, rfl, hs⟩ := okWide_struct Try.underlying24 hv
  obtain ⟨c0, rfl⟩ : ∃ c0, cs = #[c0] := by
    obtain ⟨l⟩ := cs
    match l, hs.trans k1 with
    | [c0], _ => exact ⟨c0, rfl⟩
  obtain ⟨fuel, hf⟩ := h
  obtain ⟨xs, n, _, hd, _, hl, hel⟩ := DataW.trod_struct Try.underlying24 hf
  have hl1 : xs.length = 1 := by simpa using hl
  obtain ⟨z0', e0⟩ : ∃ z, xs[0]? = some z := ⟨xs[0]'(by omega), List.getElem?_eq_getElem _⟩
  have hd1 : d' = .agg (xs.map (·.1)) := congrArg Prod.fst hd
  rw [hd1] at hm
  simp only [DataW.weights, Try.underlying24] at hm
  have g0 : (z0'.1.weights Try.prog 22).all (· ≤ m) = true := List.all_eq_true.2 fun n hn => List.all_eq_true.1 hm n (DataW.weights_mem_each (j := 0) (t := 22) (d := z0'.1) (by rfl) (by simp [e0]) n hn)
  obtain ⟨sa, sc, os, q0, hr, hb, hx⟩ := rows SK 22 m (z0 : St) (fun q : St => q.k < 18446744073709551616) k3 Try.underlying22 (slot_cells m) ((hel 0 _ rfl).trans e0) g0
  simp [Value.cells, kp] at q0
  subst q0
  have e : SK.e = 40 := rfl
  rw [e, b24] at hb
  refine ⟨.slice sa os.length sc, os, rfl, hr, hb, fun i => ?_⟩
  by_cases hi : i < os.length
  · exact hx _ (List.mem_of_getElem? (ax_get hi))
  · unfold ax; rw [List.getD_eq_getElem?_getD, List.getElem?_eq_none (by omega)]; decide
end
end Go.Proofs.Ytmnmjmbfnecmoaa.argtb
