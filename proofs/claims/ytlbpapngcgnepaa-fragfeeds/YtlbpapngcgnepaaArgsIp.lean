/- A packet that came in as an argument: its cells, and how great its texts may be. -/
import Derived.Test.YtlbpapngcgnepaaJoinA
import Derived.Lib.SmallJoins
import Derived.SizedLaws
namespace Go.Proofs.Ytlbpapngcgnepaa.argsi
open Go.ChangeShapes Go.WideShapes Go.ChangeAt Go.RowKit
open Go.Proofs.Ytlbpapngcgnepaa.ipb

section
variable {H : Type} {enc : TypeId × Value → H} {w : World} {base : Nat} {spare : Nat → Bool} {held : Bool}
theorem array11 {α : Type} {cs : Array α} (h : cs.size = 11) : ∃ c0 c1 c2 c3 c4 c5 c6 c7 c8 c9 c10, cs = #[c0, c1, c2, c3, c4, c5, c6, c7, c8, c9, c10] := by
  obtain ⟨l⟩ := cs
  match l, h with
  | [c0, c1, c2, c3, c4, c5, c6, c7, c8, c9, c10], _ => exact ⟨c0, c1, c2, c3, c4, c5, c6, c7, c8, c9, c10, rfl⟩
theorem bounds_u32 {n : Int} (h : (Lit.int .u32 n).wf = true) : 0 ≤ n ∧ n ≤ 4294967295 := by
  simp [Lit.wf, IntKind.min, IntKind.max, IntKind.signed, IntKind.bits] at h
  omega
theorem bounds_i64 {n : Int} (h : (Lit.int .i64 n).wf = true) : -9223372036854775808 ≤ n ∧ n ≤ 9223372036854775807 := by
  simp [Lit.wf, IntKind.min, IntKind.max, IntKind.signed, IntKind.bits] at h
  omega
set_option maxRecDepth 100000 in
/-- a packet's texts stand among what is weighed -/
theorem open_packet {r : Reach} {b0 : Nat} {v : Value} {d' : DataW H} {p : List MemPlace} (hv : Value.okWide Try.prog w r b0 24 v) (h : DataW.Trod enc Try.prog w base spare held 24 v d' p) :
    ∃ P : Pk, v = .agg P.cells ∧ P.Adr ∧ ∀ m : Nat, (d'.weights Try.prog 24).all (· ≤ m) = true → P.o.size ≤ m ∧ P.d.size ≤ m := by
  have k11 : Try.prog.cellsOf 24 = 11 := by kernel_rfl
  have ki : Try.prog.cellsOf 3 = 1 := by kernel_rfl
  have kb : Try.prog.cellsOf 4 = 1 := by kernel_rfl
  have ku : Try.prog.cellsOf 22 = 1 := by kernel_rfl
  have ks : Try.prog.cellsOf 9 = 1 := by kernel_rfl
  obtain ⟨cs, rfl, hs⟩ := okWide_struct Try.underlying24 hv
  obtain ⟨c0, c1, c2, c3, c4, c5, c6, c7, c8, c9, c10, rfl⟩ := array11 (hs.trans k11)
  obtain ⟨fuel, hf⟩ := h
  obtain ⟨xs, n, _, hd, _, hl, hel⟩ := DataW.trod_struct Try.underlying24 hf
  have hl11 : xs.length = 11 := by simpa using hl
  have g : ∀ (i : Nat), i < 11 → ∃ z, xs[i]? = some z := fun i hi => ⟨xs[i]'(by omega), List.getElem?_eq_getElem _⟩
  obtain ⟨z0, e0⟩ := g 0 (by omega)
  obtain ⟨z1, e1⟩ := g 1 (by omega)
  obtain ⟨z2, e2⟩ := g 2 (by omega)
  obtain ⟨z3, e3⟩ := g 3 (by omega)
  obtain ⟨z4, e4⟩ := g 4 (by omega)
  obtain ⟨z5, e5⟩ := g 5 (by omega)
  obtain ⟨z6, e6⟩ := g 6 (by omega)
  obtain ⟨z7, e7⟩ := g 7 (by omega)
  obtain ⟨z8, e8⟩ := g 8 (by omega)
  obtain ⟨z9, e9⟩ := g 9 (by omega)
  obtain ⟨z10, e10⟩ := g 10 (by omega)
  obtain ⟨tos, q0, y0, w0⟩ := DataW.trod_int Try.underlying3 ((hel 0 _ rfl).trans e0)
  obtain ⟨id, q1, y1, w1⟩ := DataW.trod_int Try.underlying3 ((hel 1 _ rfl).trans e1)
  obtain ⟨wh, q2, y2⟩ := DataW.trod_bool Try.underlying4 ((hel 2 _ rfl).trans e2)
  obtain ⟨mo, q3, y3⟩ := DataW.trod_bool Try.underlying4 ((hel 3 _ rfl).trans e3)
  obtain ⟨st, q4, y4, w4⟩ := DataW.trod_int Try.underlying3 ((hel 4 _ rfl).trans e4)
  obtain ⟨li, q5, y5, w5⟩ := DataW.trod_int Try.underlying3 ((hel 5 _ rfl).trans e5)
  obtain ⟨pr, q6, y6, w6⟩ := DataW.trod_int Try.underlying3 ((hel 6 _ rfl).trans e6)
  obtain ⟨fr, q7, y7, w7⟩ := DataW.trod_int Try.underlying22 ((hel 7 _ rfl).trans e7)
  obtain ⟨tt, q8, y8, w8⟩ := DataW.trod_int Try.underlying22 ((hel 8 _ rfl).trans e8)
  obtain ⟨o, q9, y9, w9⟩ := DataW.trod_string Try.underlying9 ((hel 9 _ rfl).trans e9)
  obtain ⟨d, q10, y10, w10⟩ := DataW.trod_string Try.underlying9 ((hel 10 _ rfl).trans e10)
  simp [Value.cells, ki, kb, ku, ks] at q0 q1 q2 q3 q4 q5 q6 q7 q8 q9 q10
  subst q0 q1 q2 q3 q4 q5 q6 q7 q8 q9 q10
  refine ⟨⟨tos, id, wh, mo, st, li, pr, fr, tt, o, d⟩, rfl, ⟨(bounds_u32 w7).1, (bounds_u32 w7).2, (bounds_u32 w8).1, (bounds_u32 w8).2⟩, fun m hm => ?_⟩
  have hd1 : d' = .agg (xs.map (·.1)) := congrArg Prod.fst hd
  rw [hd1] at hm
  simp only [DataW.weights, Try.underlying24] at hm
  have g9 := List.all_eq_true.1 hm _ (DataW.weights_mem_each (j := 9) (t := 9) (d := .lit (.string o.data.toList)) (by rfl) (by simp [e9, y9]) o.data.toList.length (by simp [DataW.weights]))
  have g10 := List.all_eq_true.1 hm _ (DataW.weights_mem_each (j := 10) (t := 9) (d := .lit (.string d.data.toList)) (by rfl) (by simp [e10, y10]) d.data.toList.length (by simp [DataW.weights]))
  simp at g9 g10
  exact ⟨g9, g10⟩
/-- what one argument weighs -/
theorem weighed {P : Program} {ts : List TypeId} {ds : List (DataW H)} (h : (DataW.weightsEach P ts ds).all (· ≤ reachBytes) = true) {j : Nat} {t : TypeId} {d : DataW H} (ht : ts[j]? = some t) (hd : ds[j]? = some d) : (d.weights P t).all (· ≤ reachBytes) = true :=
  List.all_eq_true.2 fun n hn => List.all_eq_true.1 h n (DataW.weights_mem_each ht hd n hn)
end
end Go.Proofs.Ytlbpapngcgnepaa.argsi
