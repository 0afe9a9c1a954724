/- A secret and a sip that came in as arguments: their cells; equality of four numbers. -/
import Derived.Test.YtfaebenhjilkgaaSipForm
import Derived.Test.YtfaebenhjilkgaaArgsB
import Derived.Lib.SmallJoins
import Derived.DeepKeys
namespace Go.Proofs.Ytfaebenhjilkgaa.argsp
open Go.ChangeShapes Go.WideShapes Go.ChangeAt Go.RowKit
open Go.Proofs.Ytfaebenhjilkgaa Go.Proofs.Ytfaebenhjilkgaa.sipm Go.Proofs.Ytfaebenhjilkgaa.sipb Go.Proofs.Ytfaebenhjilkgaa.sipf Go.Proofs.Ytfaebenhjilkgaa.argb

section
variable {H : Type} {enc : TypeId × Value → H} {w : World} {base : Nat} {spare : Nat → Bool} {held : Bool}

theorem u64_cell {n : Nat} {c : Value} {y : DataW H × List MemPlace} (h : DataW.trod enc Try.prog w base spare held n 22 [c] = some y) : ∃ x : UInt64, c = nm x := by
  obtain ⟨a, e, _, wa⟩ := DataW.trod_int Try.underlying22 h
  have hb := bounds_u64 wa
  refine ⟨UInt64.ofNat a.toNat, ?_⟩
  simp at e
  rw [e]
  show _ = Value.int .u64 ((UInt64.ofNat a.toNat).toNat : Int)
  rw [UInt64.toNat_ofNat']
  congr 1
  omega
theorem okWide_arr {P : Program} {r : Reach} {b0 n : Nat} {t e : TypeId} {v : Value} (ht : P.underlying t = some (.array n e)) (h : Value.okWide P w r b0 t v) : ∃ cs, v = .agg cs ∧ cs.size = P.cellsOf t := by
  simp only [Value.okWide, ht] at h
  obtain ⟨cs, h1, h2, _⟩ := h
  exact ⟨cs, h1, h2⟩
theorem okWide_struct {P : Program} {r : Reach} {b0 : Nat} {t : TypeId} {fs : Array Field} {v : Value} (ht : P.underlying t = some (.struct fs)) (h : Value.okWide P w r b0 t v) : ∃ cs, v = .agg cs ∧ cs.size = P.cellsOf t := by
  simp only [Value.okWide, ht] at h
  obtain ⟨cs, h1, h2, _⟩ := h
  exact ⟨cs, h1, h2⟩
theorem array2 {α : Type} {cs : Array α} (h : cs.size = 2) : ∃ c0 c1, cs = #[c0, c1] := by
  obtain ⟨l⟩ := cs
  match l, h with
  | [c0, c1], _ => exact ⟨c0, c1, rfl⟩
theorem array6 {α : Type} {cs : Array α} (h : cs.size = 6) : ∃ c0 c1 c2 c3 c4 c5, cs = #[c0, c1, c2, c3, c4, c5] := by
  obtain ⟨l⟩ := cs
  match l, h with
  | [c0, c1, c2, c3, c4, c5], _ => exact ⟨c0, c1, c2, c3, c4, c5, rfl⟩
theorem v4_cells {n : Nat} {c0 c1 c2 c3 : Value} {y : DataW H × List MemPlace} (h : DataW.trod enc Try.prog w base spare held n 54 [c0, c1, c2, c3] = some y) :
    ∃ a b c d : UInt64, c0 = nm a ∧ c1 = nm b ∧ c2 = nm c ∧ c3 = nm d := by
  have k1 : Try.prog.cellsOf 22 = 1 := by kernel_rfl
  obtain ⟨xs, m, _, _, _, hl, hel⟩ := DataW.trod_array Try.underlying54 h
  rw [k1] at hel
  have g : ∀ (i : Nat), i < 4 → ∃ z, xs[i]? = some z := fun i hi => ⟨xs[i]'(by omega), List.getElem?_eq_getElem _⟩
  obtain ⟨z0, e0⟩ := g 0 (by omega)
  obtain ⟨z1, e1⟩ := g 1 (by omega)
  obtain ⟨z2, e2⟩ := g 2 (by omega)
  obtain ⟨z3, e3⟩ := g 3 (by omega)
  obtain ⟨a, rfl⟩ := u64_cell (by simpa using (hel 0 (by omega)).trans e0)
  obtain ⟨b, rfl⟩ := u64_cell (by simpa using (hel 1 (by omega)).trans e1)
  obtain ⟨c, rfl⟩ := u64_cell (by simpa using (hel 2 (by omega)).trans e2)
  obtain ⟨d, rfl⟩ := u64_cell (by simpa using (hel 3 (by omega)).trans e3)
  exact ⟨a, b, c, d, rfl, rfl, rfl, rfl⟩
theorem open_secret {r : Reach} {b0 : Nat} {v : Value} {d : DataW H} {p : List MemPlace} (hv : Value.okWide Try.prog w r b0 24 v) (h : DataW.Trod enc Try.prog w base spare held 24 v d p) :
    ∃ k l : UInt64, v = .agg #[nm k, nm l] := by
  have k2 : Try.prog.cellsOf 24 = 2 := by kernel_rfl
  have k1 : Try.prog.cellsOf 22 = 1 := by kernel_rfl
  obtain ⟨cs, rfl, hs⟩ := okWide_arr Try.underlying24 hv
  obtain ⟨c0, c1, rfl⟩ := array2 (hs.trans k2)
  obtain ⟨fuel, hf⟩ := h
  obtain ⟨xs, m, _, _, _, hl, hel⟩ := DataW.trod_array Try.underlying24 (by simpa [Value.cells] using hf)
  rw [k1] at hel
  have g : ∀ (i : Nat), i < 2 → ∃ z, xs[i]? = some z := fun i hi => ⟨xs[i]'(by omega), List.getElem?_eq_getElem _⟩
  obtain ⟨z0, e0⟩ := g 0 (by omega)
  obtain ⟨z1, e1⟩ := g 1 (by omega)
  obtain ⟨a, rfl⟩ := u64_cell (by simpa using (hel 0 (by omega)).trans e0)
  obtain ⟨b, rfl⟩ := u64_cell (by simpa using (hel 1 (by omega)).trans e1)
  exact ⟨a, b, rfl⟩
theorem open_sip {r : Reach} {b0 : Nat} {v : Value} {d : DataW H} {p : List MemPlace} (hv : Value.okWide Try.prog w r b0 56 v) (h : DataW.Trod enc Try.prog w base spare held 56 v d p) (hw : (d.weights Try.prog 56).all (· ≤ reachBytes) = true) :
    ∃ (x : V4) (s : ByteArray) (n : Int), v = .agg (sc x s n) ∧ (Lit.int .i64 n).wf = true ∧ s.size ≤ 140737488351232 := by
  have k6 : Try.prog.cellsOf 56 = 6 := by kernel_rfl
  have k4 : Try.prog.cellsOf 54 = 4 := by kernel_rfl
  have k1 : Try.prog.cellsOf 3 = 1 := by kernel_rfl
  have ks : Try.prog.cellsOf 9 = 1 := by kernel_rfl
  obtain ⟨cs, rfl, hs⟩ := okWide_struct Try.underlying56 hv
  obtain ⟨c0, c1, c2, c3, c4, c5, rfl⟩ := array6 (hs.trans k6)
  obtain ⟨fuel, hf⟩ := h
  obtain ⟨xs, n, _, hd, _, hl, hel⟩ := DataW.trod_struct Try.underlying56 hf
  have hl3 : xs.length = 3 := by simpa using hl
  have g : ∀ (i : Nat), i < 3 → ∃ z, xs[i]? = some z := fun i hi => ⟨xs[i]'(by omega), List.getElem?_eq_getElem _⟩
  obtain ⟨z0, e0⟩ := g 0 (by omega)
  obtain ⟨z1, e1⟩ := g 1 (by omega)
  obtain ⟨z2, e2⟩ := g 2 (by omega)
  obtain ⟨a, b, c, dd, rfl, rfl, rfl, rfl⟩ := v4_cells (by simpa [Value.cells, k4] using (hel 0 _ rfl).trans e0)
  obtain ⟨s, q1, d1, w1⟩ := DataW.trod_string Try.underlying9 ((hel 1 _ rfl).trans e1)
  obtain ⟨m, q2, _, w2⟩ := DataW.trod_int Try.underlying3 ((hel 2 _ rfl).trans e2)
  simp [Value.cells, k1, ks] at q1 q2
  subst q1 q2
  refine ⟨⟨a, b, c, dd⟩, s, m, rfl, w2, ?_⟩
  have hd' : d = .agg (xs.map (·.1)) := (Prod.mk.inj hd).1
  rw [hd'] at hw
  simp only [DataW.weights, Try.underlying56] at hw
  have g2 := List.all_eq_true.1 hw _ (DataW.weights_mem_each (j := 1) (t := 9) (d := .lit (.string s.data.toList)) (by rfl) (by simp [e1, d1]) s.data.toList.length (by simp [DataW.weights]))
  have g3 := of_decide_eq_true g2
  simpa [reachBytes] using g3
/-- four numbers are equal just if they are the same -/
theorem lit_nm (x : UInt64) : (Lit.int .u64 (x.toNat : Int)).wf = true := by
  have := x.toNat_lt
  simp [Lit.wf, IntKind.min, IntKind.max, IntKind.signed, IntKind.bits]; omega
theorem nm_inj {x y : UInt64} (h : (Lit.int .u64 (x.toNat : Int)) = .int .u64 (y.toNat : Int)) : x = y := by
  simp at h
  exact UInt64.toNat_inj.1 (by omega)
theorem v4_keys (v : V4) : Try.prog.keyLits 2 54 [nm v.a, nm v.b, nm v.c, nm v.d] = some [.int .u64 v.a.toNat, .int .u64 v.b.toNat, .int .u64 v.c.toNat, .int .u64 v.d.toNat] := by
  have c1 : Try.prog.cellsOf 22 = 1 := by kernel_rfl
  have c4 : Try.prog.cellsOf 54 = 4 := by kernel_rfl
  have hk : ∀ a : UInt64, Try.prog.keyLits 1 22 [nm a] = some [.int .u64 a.toNat] := fun a => by
    simp [Program.keyLits, Try.underlying22, lit_nm a]
  unfold Program.keyLits
  simp [Try.underlying54, c1, c4, List.range_succ, hk]
theorem v4_eq (v u : V4) (d : Nat) (w : World) : ∃ r, (Op.equalIn (d + 2) 54 (.agg (cl v)) (.agg (cl u))).run Try.prog w = .ok r w ∧ (r = true ↔ v = u) := by
  have c4 : Try.prog.cellsOf 54 = 4 := by kernel_rfl
  have hf : ∀ v : V4, Value.formed Try.prog 54 (.agg (cl v)) = true := fun v => by
    simp [Value.formed, Try.underlying54, c4]
  obtain ⟨r, hr, hiff⟩ := run_equalIn_deep (P := Try.prog) d 2 54 (by kernel_rfl) w 2 2 _ _ _ _ (hf v) (hf u) (v4_keys v) (v4_keys u)
  refine ⟨r, hr, hiff.trans ⟨fun h => ?_, fun h => by rw [h]⟩⟩
  obtain ⟨a, b, c, e⟩ := v
  obtain ⟨a', b', c', e'⟩ := u
  simp only [List.cons.injEq, and_true] at h
  obtain ⟨h1, h2, h3, h4⟩ := h
  rw [nm_inj h1, nm_inj h2, nm_inj h3, nm_inj h4]
theorem v4_same (v : V4) (d : Nat) (w : World) : (Op.equalIn (d + 2) 54 (.agg (cl v)) (.agg (cl v))).run Try.prog w = .ok true w := by
  obtain ⟨r, hr, hi⟩ := v4_eq v v d w
  rw [hr, hi.2 rfl]
theorem v4_other {v u : V4} (h : v ≠ u) (d : Nat) (w : World) : (Op.equalIn (d + 2) 54 (.agg (cl v)) (.agg (cl u))).run Try.prog w = .ok false w := by
  obtain ⟨r, hr, hi⟩ := v4_eq v u d w
  cases r
  · exact hr
  · exact absurd (hi.1 rfl) h
end
end Go.Proofs.Ytfaebenhjilkgaa.argsp
