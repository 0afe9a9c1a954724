/- Ports that came in as an argument; rows of ints. -/
import Derived.Test.YtajhdpkiafaebaaDoorArgsRd
import Derived.Test.YtajhdpkiafaebaaDoorPtBase
namespace Go.Proofs.YtajhdpkiafaebaaDoor.argpt
open Go.ChangeShapes Go.WideShapes Go.ChangeAt Go.RowKit
open Go.Proofs.YtajhdpkiafaebaaDoor.argr Go.Proofs.YtajhdpkiafaebaaDoor.pt Go.Proofs.YtajhdpkiafaebaaDoor.rwr

section
variable {H : Type} {enc : TypeId × Value → H} {w : World} {base : Nat} {spare : Nat → Bool} {held : Bool}
theorem bounds_u64 {n : Int} (h : (Lit.int .u64 n).wf = true) : 0 ≤ n ∧ n ≤ 18446744073709551615 := by
  simp [Lit.wf, IntKind.min, IntKind.max, IntKind.signed, IntKind.bits] at h
  omega
set_option maxRecDepth 100000 in
/-- ports that came in as an argument -/
theorem open_ports {r : Reach} {b0 : Nat} {v : Value} {d' : DataW H} {p : List MemPlace} (hv : Value.okWide Tryd.prog w r b0 24 v) (h : DataW.Trod enc Tryd.prog w base spare held 24 v d' p) :
    ∃ (b : Int) (t : Nat), v = .agg (PC b t) ∧ t < 18446744073709551616 := by
  have k2 : Tryd.prog.cellsOf 24 = 2 := by kernel_rfl
  have ki : Tryd.prog.cellsOf 3 = 1 := by kernel_rfl
  have ku : Tryd.prog.cellsOf 22 = 1 := by kernel_rfl
  obtain ⟨cs, rfl, hs⟩ := okWide_struct Tryd.underlying24 hv
  obtain ⟨c0, c1, rfl⟩ : ∃ c0 c1, cs = #[c0, c1] := by
    obtain ⟨l⟩ := cs
    match l, hs.trans k2 with
    | [c0, c1], _ => exact ⟨c0, c1, rfl⟩
  obtain ⟨fuel, hf⟩ := h
  obtain ⟨xs, n, _, _, _, hl, hel⟩ := DataW.trod_struct Tryd.underlying24 hf
  have hl2 : xs.length = 2 := by simpa using hl
  have g : ∀ (i : Nat), i < 2 → ∃ z, xs[i]? = some z := fun i hi => ⟨xs[i]'(by omega), List.getElem?_eq_getElem _⟩
  obtain ⟨y0, e0⟩ := g 0 (by omega)
  obtain ⟨y1, e1⟩ := g 1 (by omega)
  obtain ⟨b, q0, _, _⟩ := DataW.trod_int Tryd.underlying3 ((hel 0 _ rfl).trans e0)
  obtain ⟨t, q1, _, w1⟩ := DataW.trod_int Tryd.underlying22 ((hel 1 _ rfl).trans e1)
  simp [Value.cells, ki, ku] at q0 q1
  subst q0 q1
  obtain ⟨h0, h1⟩ := bounds_u64 w1
  obtain ⟨t', rfl⟩ : ∃ t' : Nat, t = (t' : Int) := ⟨t.toNat, by omega⟩
  exact ⟨b, t', rfl, by omega⟩
theorem open_ints {r : Reach} {b0 : Nat} {v : Value} {d' : DataW H} {p : List MemPlace} (m : Nat) (hv : Value.okWide Tryd.prog w r b0 33 v) (h : DataW.Trod enc Tryd.prog w base spare held 33 v d' p) (hm : (d'.weights Tryd.prog 33).all (· ≤ m) = true) :
    ∃ l : List Int, Rd NK w v l ∧ ∀ k ∈ l, -9223372036854775808 ≤ k ∧ k ≤ 9223372036854775807 := by
  obtain ⟨a0, n0, c0, rfl⟩ := okWide_slice Tryd.underlying33 hv
  have ku : Tryd.prog.cellsOf 3 = 1 := by kernel_rfl
  obtain ⟨fuel, hf⟩ := h
  obtain ⟨sa, sc, l, q, hr, _, hx⟩ := rows NK 33 m 0 (fun k : Int => -9223372036854775808 ≤ k ∧ k ≤ 9223372036854775807) ku Tryd.underlying33 (fun n cs x hx _ => by
    obtain ⟨k, q1, _, w1⟩ := DataW.trod_int Tryd.underlying3 hx
    exact ⟨k, q1, bounds_i64 w1⟩) hf hm
  simp [Value.cells] at q
  obtain ⟨rfl, rfl, rfl⟩ := q
  exact ⟨l, hr, hx⟩
end
end Go.Proofs.YtajhdpkiafaebaaDoor.argpt
