/- An address that came in as an argument: its cells. -/
import Derived.Test.YtolhmmnaohadcaaDoorEthBase
import Derived.Lib.SmallJoins
namespace Go.Proofs.YtolhmmnaohadcaaDoor.argsm
open Go.ChangeShapes Go.WideShapes Go.ChangeAt Go.RowKit
open Go.Proofs.YtolhmmnaohadcaaDoor.ethb

section
variable {H : Type} {enc : TypeId × Value → H} {w : World} {base : Nat} {spare : Nat → Bool} {held : Bool}

theorem u8_cell {n : Nat} {c : Value} {y : DataW H × List MemPlace} (h : DataW.trod enc Tryd.prog w base spare held n 5 [c] = some y) : ∃ x : UInt8, c = .int .u8 (x.toNat : Int) := by
  obtain ⟨a, e, _, wa⟩ := DataW.trod_int Tryd.underlying5 h
  have hb := bounds_u8 wa
  refine ⟨UInt8.ofNat a.toNat, ?_⟩
  simp at e
  rw [e, UInt8.toNat_ofNat']
  congr 1
  omega
theorem mac_cells {n : Nat} {c0 c1 c2 c3 c4 c5 : Value} {y : DataW H × List MemPlace} (h : DataW.trod enc Tryd.prog w base spare held n 23 [c0, c1, c2, c3, c4, c5] = some y) :
    ∃ m0 m1 m2 m3 m4 m5 : UInt8, c0 = .int .u8 (m0.toNat : Int) ∧ c1 = .int .u8 (m1.toNat : Int) ∧ c2 = .int .u8 (m2.toNat : Int) ∧ c3 = .int .u8 (m3.toNat : Int) ∧ c4 = .int .u8 (m4.toNat : Int) ∧ c5 = .int .u8 (m5.toNat : Int) := by
  have k1 : Tryd.prog.cellsOf 5 = 1 := by kernel_rfl
  obtain ⟨xs, m, _, _, _, hl, hel⟩ := DataW.trod_array Tryd.underlying23 h
  rw [k1] at hel
  have g : ∀ (i : Nat), i < 6 → ∃ z, xs[i]? = some z := fun i hi => ⟨xs[i]'(by omega), List.getElem?_eq_getElem _⟩
  obtain ⟨z0, e0⟩ := g 0 (by omega)
  obtain ⟨z1, e1⟩ := g 1 (by omega)
  obtain ⟨z2, e2⟩ := g 2 (by omega)
  obtain ⟨z3, e3⟩ := g 3 (by omega)
  obtain ⟨z4, e4⟩ := g 4 (by omega)
  obtain ⟨z5, e5⟩ := g 5 (by omega)
  obtain ⟨m0, rfl⟩ := u8_cell (by simpa using (hel 0 (by omega)).trans e0)
  obtain ⟨m1, rfl⟩ := u8_cell (by simpa using (hel 1 (by omega)).trans e1)
  obtain ⟨m2, rfl⟩ := u8_cell (by simpa using (hel 2 (by omega)).trans e2)
  obtain ⟨m3, rfl⟩ := u8_cell (by simpa using (hel 3 (by omega)).trans e3)
  obtain ⟨m4, rfl⟩ := u8_cell (by simpa using (hel 4 (by omega)).trans e4)
  obtain ⟨m5, rfl⟩ := u8_cell (by simpa using (hel 5 (by omega)).trans e5)
  exact ⟨m0, m1, m2, m3, m4, m5, rfl, rfl, rfl, rfl, rfl, rfl⟩
theorem array6 {α : Type} {cs : Array α} (h : cs.size = 6) : ∃ c0 c1 c2 c3 c4 c5, cs = #[c0, c1, c2, c3, c4, c5] := by
  obtain ⟨l⟩ := cs
  match l, h with
  | [c0, c1, c2, c3, c4, c5], _ => exact ⟨c0, c1, c2, c3, c4, c5, rfl⟩
theorem okWide_arr {P : Program} {r : Reach} {b0 n : Nat} {t e : TypeId} {v : Value} (ht : P.underlying t = some (.array n e)) (h : Value.okWide P w r b0 t v) : ∃ cs, v = .agg cs ∧ cs.size = P.cellsOf t := by
  simp only [Value.okWide, ht] at h
  obtain ⟨cs, h1, h2, _⟩ := h
  exact ⟨cs, h1, h2⟩
theorem open_mac {r : Reach} {b0 : Nat} {v : Value} {d : DataW H} {p : List MemPlace} (hv : Value.okWide Tryd.prog w r b0 23 v) (h : DataW.Trod enc Tryd.prog w base spare held 23 v d p) :
    ∃ m0 m1 m2 m3 m4 m5 : UInt8, v = .agg #[.int .u8 (m0.toNat : Int), .int .u8 (m1.toNat : Int), .int .u8 (m2.toNat : Int), .int .u8 (m3.toNat : Int), .int .u8 (m4.toNat : Int), .int .u8 (m5.toNat : Int)] := by
  have k6 : Tryd.prog.cellsOf 23 = 6 := by kernel_rfl
  obtain ⟨cs, rfl, hs⟩ := okWide_arr Tryd.underlying23 hv
  obtain ⟨c0, c1, c2, c3, c4, c5, rfl⟩ := array6 (hs.trans k6)
  obtain ⟨fuel, hf⟩ := h
  obtain ⟨m0, m1, m2, m3, m4, m5, rfl, rfl, rfl, rfl, rfl, rfl⟩ := mac_cells (by simpa [Value.cells] using hf)
  exact ⟨m0, m1, m2, m3, m4, m5, rfl⟩
end
end Go.Proofs.YtolhmmnaohadcaaDoor.argsm
