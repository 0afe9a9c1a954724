/- Letters and notes that came in as arguments: their cells, and how great their texts may be. -/
import Derived.Test.YtohonfpmaafnaaaDgBase
import Derived.Lib.SmallJoins
import Derived.SizedLaws
import Derived.DeepKeys
namespace Go.Proofs.Ytohonfpmaafnaaa.argsd
open Go.ChangeShapes Go.WideShapes Go.ChangeAt Go.RowKit
open Go.Proofs.Ytohonfpmaafnaaa.dgb

section
variable {H : Type} {enc : TypeId × Value → H} {w : World} {base : Nat} {spare : Nat → Bool} {held : Bool}
theorem bounds_u32 {n : Int} (h : (Lit.int .u32 n).wf = true) : 0 ≤ n ∧ n ≤ 4294967295 := by
  simp [Lit.wf, IntKind.min, IntKind.max, IntKind.signed, IntKind.bits] at h
  omega
theorem bounds_i64 {n : Int} (h : (Lit.int .i64 n).wf = true) : -9223372036854775808 ≤ n ∧ n ≤ 9223372036854775807 := by
  simp [Lit.wf, IntKind.min, IntKind.max, IntKind.signed, IntKind.bits] at h
  omega
theorem array3 {α : Type} {cs : Array α} (h : cs.size = 3) : ∃ c0 c1 c2, cs = #[c0, c1, c2] := by
  obtain ⟨l⟩ := cs
  match l, h with
  | [c0, c1, c2], _ => exact ⟨c0, c1, c2, rfl⟩
theorem array7 {α : Type} {cs : Array α} (h : cs.size = 7) : ∃ c0 c1 c2 c3 c4 c5 c6, cs = #[c0, c1, c2, c3, c4, c5, c6] := by
  obtain ⟨l⟩ := cs
  match l, h with
  | [c0, c1, c2, c3, c4, c5, c6], _ => exact ⟨c0, c1, c2, c3, c4, c5, c6, rfl⟩
set_option maxRecDepth 100000 in
theorem open_letter {r : Reach} {b0 : Nat} {v : Value} {d' : DataW H} {p : List MemPlace} (hv : Value.okWide Try.prog w r b0 23 v) (h : DataW.Trod enc Try.prog w base spare held 23 v d' p) :
    ∃ P : Lt, v = .agg P.cells ∧ ∀ m : Nat, (d'.weights Try.prog 23).all (· ≤ m) = true → P.d.size ≤ m := by
  have k3 : Try.prog.cellsOf 23 = 3 := by kernel_rfl
  have ki : Try.prog.cellsOf 3 = 1 := by kernel_rfl
  have ks : Try.prog.cellsOf 9 = 1 := by kernel_rfl
  obtain ⟨cs, rfl, hs⟩ := okWide_struct Try.underlying23 hv
  obtain ⟨c0, c1, c2, rfl⟩ := array3 (hs.trans k3)
  obtain ⟨fuel, hf⟩ := h
  obtain ⟨xs, n, _, hd, _, hl, hel⟩ := DataW.trod_struct Try.underlying23 hf
  have hl3 : xs.length = 3 := by simpa using hl
  have g : ∀ (i : Nat), i < 3 → ∃ z, xs[i]? = some z := fun i hi => ⟨xs[i]'(by omega), List.getElem?_eq_getElem _⟩
  obtain ⟨z0, e0⟩ := g 0 (by omega)
  obtain ⟨z1, e1⟩ := g 1 (by omega)
  obtain ⟨z2, e2⟩ := g 2 (by omega)
  obtain ⟨fr, q0, y0, w0⟩ := DataW.trod_int Try.underlying3 ((hel 0 _ rfl).trans e0)
  obtain ⟨tt, q1, y1, w1⟩ := DataW.trod_int Try.underlying3 ((hel 1 _ rfl).trans e1)
  obtain ⟨d, q2, y2, w2⟩ := DataW.trod_string Try.underlying9 ((hel 2 _ rfl).trans e2)
  simp [Value.cells, ki, ks] at q0 q1 q2
  subst q0 q1 q2
  refine ⟨⟨fr, tt, d⟩, rfl, fun m hm => ?_⟩
  have hd1 : d' = .agg (xs.map (·.1)) := congrArg Prod.fst hd
  rw [hd1] at hm
  simp only [DataW.weights, Try.underlying23] at hm
  have g2 := List.all_eq_true.1 hm _ (DataW.weights_mem_each (j := 2) (t := 9) (d := .lit (.string d.data.toList)) (by rfl) (by simp [e2, y2]) d.data.toList.length (by simp [DataW.weights]))
  simpa using g2
/-- what one argument weighs -/
theorem weighed {P : Program} {ts : List TypeId} {ds : List (DataW H)} (h : (DataW.weightsEach P ts ds).all (· ≤ reachBytes) = true) {j : Nat} {t : TypeId} {d : DataW H} (ht : ts[j]? = some t) (hd : ds[j]? = some d) : (d.weights P t).all (· ≤ reachBytes) = true :=
  List.all_eq_true.2 fun n hn => List.all_eq_true.1 h n (DataW.weights_mem_each ht hd n hn)
theorem u8_cell {n : Nat} {c : Value} {y : DataW H × List MemPlace} (h : DataW.trod enc Try.prog w base spare held n 5 [c] = some y) : ∃ x : UInt8, c = .int .u8 (x.toNat : Int) := by
  obtain ⟨a, e, _, wa⟩ := DataW.trod_int Try.underlying5 h
  have hb := bounds_u8 wa
  refine ⟨UInt8.ofNat a.toNat, ?_⟩
  simp at e
  rw [e, UInt8.toNat_ofNat']
  congr 1
  omega
theorem four_cells {n : Nat} {c0 c1 c2 c3 : Value} {y : DataW H × List MemPlace} (h : DataW.trod enc Try.prog w base spare held n 32 [c0, c1, c2, c3] = some y) :
    ∃ m0 m1 m2 m3 : UInt8, c0 = .int .u8 (m0.toNat : Int) ∧ c1 = .int .u8 (m1.toNat : Int) ∧ c2 = .int .u8 (m2.toNat : Int) ∧ c3 = .int .u8 (m3.toNat : Int) := by
  have k1 : Try.prog.cellsOf 5 = 1 := by kernel_rfl
  obtain ⟨xs, m, _, _, _, hl, hel⟩ := DataW.trod_array Try.underlying32 h
  rw [k1] at hel
  have g : ∀ (i : Nat), i < 4 → ∃ z, xs[i]? = some z := fun i hi => ⟨xs[i]'(by omega), List.getElem?_eq_getElem _⟩
  obtain ⟨z0, e0⟩ := g 0 (by omega)
  obtain ⟨z1, e1⟩ := g 1 (by omega)
  obtain ⟨z2, e2⟩ := g 2 (by omega)
  obtain ⟨z3, e3⟩ := g 3 (by omega)
  obtain ⟨m0, rfl⟩ := u8_cell (by simpa using (hel 0 (by omega)).trans e0)
  obtain ⟨m1, rfl⟩ := u8_cell (by simpa using (hel 1 (by omega)).trans e1)
  obtain ⟨m2, rfl⟩ := u8_cell (by simpa using (hel 2 (by omega)).trans e2)
  obtain ⟨m3, rfl⟩ := u8_cell (by simpa using (hel 3 (by omega)).trans e3)
  exact ⟨m0, m1, m2, m3, rfl, rfl, rfl, rfl⟩
set_option maxRecDepth 100000 in
theorem open_note {r : Reach} {b0 : Nat} {v : Value} {d' : DataW H} {p : List MemPlace} (hv : Value.okWide Try.prog w r b0 34 v) (h : DataW.Trod enc Try.prog w base spare held 34 v d' p) :
    ∃ P : Nt, v = .agg P.cells ∧ ∀ m : Nat, (d'.weights Try.prog 34).all (· ≤ m) = true → P.d.size ≤ m := by
  have k7 : Try.prog.cellsOf 34 = 7 := by kernel_rfl
  have k4 : Try.prog.cellsOf 32 = 4 := by kernel_rfl
  have ki : Try.prog.cellsOf 3 = 1 := by kernel_rfl
  have ks : Try.prog.cellsOf 9 = 1 := by kernel_rfl
  obtain ⟨cs, rfl, hs⟩ := okWide_struct Try.underlying34 hv
  obtain ⟨c0, c1, c2, c3, c4, c5, c6, rfl⟩ := array7 (hs.trans k7)
  obtain ⟨fuel, hf⟩ := h
  obtain ⟨xs, n, _, hd, _, hl, hel⟩ := DataW.trod_struct Try.underlying34 hf
  have hl4 : xs.length = 4 := by simpa using hl
  have g : ∀ (i : Nat), i < 4 → ∃ z, xs[i]? = some z := fun i hi => ⟨xs[i]'(by omega), List.getElem?_eq_getElem _⟩
  obtain ⟨z0, e0⟩ := g 0 (by omega)
  obtain ⟨z1, e1⟩ := g 1 (by omega)
  obtain ⟨z2, e2⟩ := g 2 (by omega)
  obtain ⟨z3, e3⟩ := g 3 (by omega)
  obtain ⟨ki', q0, y0, w0⟩ := DataW.trod_int Try.underlying3 ((hel 0 _ rfl).trans e0)
  obtain ⟨co, q1, y1, w1⟩ := DataW.trod_int Try.underlying3 ((hel 1 _ rfl).trans e1)
  obtain ⟨m0, m1, m2, m3, rfl, rfl, rfl, rfl⟩ := four_cells (by simpa [Value.cells, k4, ki] using (hel 2 _ rfl).trans e2)
  obtain ⟨d, q3, y3, w3⟩ := DataW.trod_string Try.underlying9 ((hel 3 _ rfl).trans e3)
  simp [Value.cells, ki, ks] at q0 q1 q3
  subst q0 q1 q3
  refine ⟨⟨ki', co, m0, m1, m2, m3, d⟩, rfl, fun m hm => ?_⟩
  have hd1 : d' = .agg (xs.map (·.1)) := congrArg Prod.fst hd
  rw [hd1] at hm
  simp only [DataW.weights, Try.underlying34] at hm
  have g3 := List.all_eq_true.1 hm _ (DataW.weights_mem_each (j := 3) (t := 9) (d := .lit (.string d.data.toList)) (by rfl) (by simp [e3, y3]) d.data.toList.length (by simp [DataW.weights]))
  simpa using g3
/-- four bytes are equal to themselves -/
theorem u8_wf (b : UInt8) : (Lit.int .u8 (b.toNat : Int)).wf = true := by
  have := b.toNat_lt
  simp [Lit.wf, IntKind.min, IntKind.max, IntKind.signed, IntKind.bits]
  omega
theorem four_eq (b0 b1 b2 b3 : UInt8) (d : Nat) (w : World) :
    (Op.equalIn (d + 2) 32 (.agg #[.int .u8 (b0.toNat : Int), .int .u8 (b1.toNat : Int), .int .u8 (b2.toNat : Int), .int .u8 (b3.toNat : Int)]) (.agg #[.int .u8 (b0.toNat : Int), .int .u8 (b1.toNat : Int), .int .u8 (b2.toNat : Int), .int .u8 (b3.toNat : Int)])).run Try.prog w = .ok true w := by
  have c1 : Try.prog.cellsOf 5 = 1 := by kernel_rfl
  have c4 : Try.prog.cellsOf 32 = 4 := by kernel_rfl
  have hk : ∀ a : UInt8, Try.prog.keyLits 1 5 [.int .u8 (a.toNat : Int)] = some [.int .u8 (a.toNat : Int)] := fun a => by
    simp [Program.keyLits, Try.underlying5, u8_wf]
  have hL : Try.prog.keyLits 2 32 [.int .u8 (b0.toNat : Int), .int .u8 (b1.toNat : Int), .int .u8 (b2.toNat : Int), .int .u8 (b3.toNat : Int)] = some [.int .u8 (b0.toNat : Int), .int .u8 (b1.toNat : Int), .int .u8 (b2.toNat : Int), .int .u8 (b3.toNat : Int)] := by
    unfold Program.keyLits
    simp [Try.underlying32, c1, c4, List.range_succ, hk]
  have hf : Value.formed Try.prog 32 (.agg #[.int .u8 (b0.toNat : Int), .int .u8 (b1.toNat : Int), .int .u8 (b2.toNat : Int), .int .u8 (b3.toNat : Int)]) = true := by
    simp [Value.formed, Try.underlying32, c4]
  obtain ⟨r, hr, hiff⟩ := run_equalIn_deep (P := Try.prog) d 2 32 (by kernel_rfl) w 2 2 _ _ _ _ hf hf hL hL
  rw [hr, hiff.2 rfl]
end
end Go.Proofs.Ytohonfpmaafnaaa.argsd
