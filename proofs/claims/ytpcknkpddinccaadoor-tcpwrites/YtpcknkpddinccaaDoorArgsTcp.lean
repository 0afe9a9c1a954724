/- A segment that came in as an argument: its cells, its options, and how great its texts may be. -/
import Derived.Test.YtpcknkpddinccaaDoorArgsRd
import Derived.Test.YtpcknkpddinccaaDoorTcpBase
namespace Go.Proofs.YtpcknkpddinccaaDoor.argt
open Go.ChangeShapes Go.WideShapes Go.ChangeAt Go.RowKit
open Go.Proofs.YtpcknkpddinccaaDoor.argr Go.Proofs.YtpcknkpddinccaaDoor.tcb Go.Proofs.YtpcknkpddinccaaDoor.rwr

section
variable {H : Type} {enc : TypeId × Value → H} {w : World} {base : Nat} {spare : Nat → Bool} {held : Bool}
set_option maxRecDepth 100000 in
theorem opt_cells (m : Nat) (n : Nat) (cs : List Value) (x : DataW H × List MemPlace) (hf : DataW.trod enc Tryd.prog w base spare held n 40 cs = some x) (hm : (x.1.weights Tryd.prog 40).all (· ≤ m) = true) :
    ∃ q : Opt, cs = q.cells.toList ∧ q.d.size ≤ m := by
  have k2 : Tryd.prog.cellsOf 40 = 2 := by kernel_rfl
  have ki : Tryd.prog.cellsOf 3 = 1 := by kernel_rfl
  have ks : Tryd.prog.cellsOf 9 = 1 := by kernel_rfl
  obtain ⟨xs, n, _, hd, hs, hl, hel⟩ := DataW.trod_struct Tryd.underlying40 hf
  obtain ⟨c0, c1, rfl⟩ : ∃ c0 c1, cs = [c0, c1] := by
    match cs, hs.trans k2 with
    | [c0, c1], _ => exact ⟨c0, c1, rfl⟩
  have hl2 : xs.length = 2 := by simpa using hl
  have g : ∀ (i : Nat), i < 2 → ∃ z, xs[i]? = some z := fun i hi => ⟨xs[i]'(by omega), List.getElem?_eq_getElem _⟩
  obtain ⟨z0, e0⟩ := g 0 (by omega)
  obtain ⟨z1, e1⟩ := g 1 (by omega)
  obtain ⟨a, q0, y0, w0⟩ := DataW.trod_int Tryd.underlying3 ((hel 0 _ rfl).trans e0)
  obtain ⟨d, q1, y1, w1⟩ := DataW.trod_string Tryd.underlying9 ((hel 1 _ rfl).trans e1)
  simp [ki, ks] at q0 q1
  subst q0 q1
  refine ⟨⟨a, d⟩, rfl, ?_⟩
  have hd1 : x.1 = .agg (xs.map (·.1)) := congrArg Prod.fst hd
  rw [hd1] at hm
  simp only [DataW.weights, Tryd.underlying40] at hm
  have g1 := List.all_eq_true.1 hm _ (DataW.weights_mem_each (j := 1) (t := 9) (d := .lit (.string d.data.toList)) (by rfl) (by simp [e1, y1]) d.data.toList.length (by simp [DataW.weights]))
  simp at g1
  exact g1
theorem array9 {α : Type} {cs : Array α} (h : cs.size = 9) : ∃ c0 c1 c2 c3 c4 c5 c6 c7 c8, cs = #[c0, c1, c2, c3, c4, c5, c6, c7, c8] := by
  obtain ⟨l⟩ := cs
  match l, h with
  | [c0, c1, c2, c3, c4, c5, c6, c7, c8], _ => exact ⟨c0, c1, c2, c3, c4, c5, c6, c7, c8, rfl⟩
set_option maxRecDepth 100000 in
/-- a segment that came in as an argument -/
theorem open_segment {r : Reach} {b0 : Nat} {v : Value} {d' : DataW H} {p : List MemPlace} (m : Nat) (hv : Value.okWide Tryd.prog w r b0 25 v) (h : DataW.Trod enc Tryd.prog w base spare held 25 v d' p) (hm : (d'.weights Tryd.prog 25).all (· ≤ m) = true) :
    ∃ (g : Sh) (u : Value) (os : List Opt), v = .agg (g.cells u) ∧ Rd OK w u os ∧ g.Adr ∧ g.d.size ≤ m ∧ os.length * 24 ≤ m ∧ ∀ o ∈ os, o.d.size ≤ m := by
  have k9 : Tryd.prog.cellsOf 25 = 9 := by kernel_rfl
  have k2 : Tryd.prog.cellsOf 40 = 2 := by kernel_rfl
  have kp : Tryd.prog.cellsOf 23 = 1 := by kernel_rfl
  have ki : Tryd.prog.cellsOf 3 = 1 := by kernel_rfl
  have ku : Tryd.prog.cellsOf 22 = 1 := by kernel_rfl
  have ks : Tryd.prog.cellsOf 9 = 1 := by kernel_rfl
  have b24 : Tryd.prog.bytesOf 40 = 24 := by kernel_rfl
  obtain ⟨cs, rfl, hs⟩ := okWide_struct Tryd.underlying25 hv
  obtain ⟨c0, c1, c2, c3, c4, c5, c6, c7, c8, rfl⟩ := array9 (hs.trans k9)
  obtain ⟨fuel, hf⟩ := h
  obtain ⟨xs, n, _, hd, _, hl, hel⟩ := DataW.trod_struct Tryd.underlying25 hf
  have hl9 : xs.length = 9 := by simpa using hl
  have g : ∀ (i : Nat), i < 9 → ∃ z, xs[i]? = some z := fun i hi => ⟨xs[i]'(by omega), List.getElem?_eq_getElem _⟩
  obtain ⟨z0, e0⟩ := g 0 (by omega)
  obtain ⟨z1, e1⟩ := g 1 (by omega)
  obtain ⟨z2, e2⟩ := g 2 (by omega)
  obtain ⟨z3, e3⟩ := g 3 (by omega)
  obtain ⟨z4, e4⟩ := g 4 (by omega)
  obtain ⟨z5, e5⟩ := g 5 (by omega)
  obtain ⟨z6, e6⟩ := g 6 (by omega)
  obtain ⟨z7, e7⟩ := g 7 (by omega)
  obtain ⟨z8, e8⟩ := g 8 (by omega)
  obtain ⟨fr, q0, y0, w0⟩ := DataW.trod_int Tryd.underlying3 ((hel 0 _ rfl).trans e0)
  obtain ⟨tt, q1, y1, w1⟩ := DataW.trod_int Tryd.underlying3 ((hel 1 _ rfl).trans e1)
  obtain ⟨sq, q2, y2, w2⟩ := DataW.trod_int Tryd.underlying22 ((hel 2 _ rfl).trans e2)
  obtain ⟨ak, q3, y3, w3⟩ := DataW.trod_int Tryd.underlying22 ((hel 3 _ rfl).trans e3)
  obtain ⟨fl, q4, y4, w4⟩ := DataW.trod_int Tryd.underlying3 ((hel 4 _ rfl).trans e4)
  obtain ⟨wi, q5, y5, w5⟩ := DataW.trod_int Tryd.underlying3 ((hel 5 _ rfl).trans e5)
  obtain ⟨ur, q6, y6, w6⟩ := DataW.trod_int Tryd.underlying3 ((hel 6 _ rfl).trans e6)
  obtain ⟨d, q8, y8, w8⟩ := DataW.trod_string Tryd.underlying9 ((hel 8 _ rfl).trans e8)
  have hd1 : d' = .agg (xs.map (·.1)) := congrArg Prod.fst hd
  rw [hd1] at hm
  simp only [DataW.weights, Tryd.underlying25] at hm
  have g8 := List.all_eq_true.1 hm _ (DataW.weights_mem_each (j := 8) (t := 9) (d := .lit (.string d.data.toList)) (by rfl) (by simp [e8, y8]) d.data.toList.length (by simp [DataW.weights]))
  have g7 : (z7.1.weights Tryd.prog 23).all (· ≤ m) = true := List.all_eq_true.2 fun n hn => List.all_eq_true.1 hm n (DataW.weights_mem_each (j := 7) (t := 23) (d := z7.1) (by rfl) (by simp [e7]) n hn)
  obtain ⟨sa, sc, os, q7, hr, hb, hx⟩ := rows OK 23 m (⟨0, ⟨#[]⟩⟩ : Opt) (fun q : Opt => q.d.size ≤ m) k2 Tryd.underlying23 (opt_cells m) ((hel 7 _ rfl).trans e7) g7
  simp [Value.cells, ki, ku, ks, kp] at q0 q1 q2 q3 q4 q5 q6 q7 q8 g8
  subst q0 q1 q2 q3 q4 q5 q6 q7 q8
  have e : OK.e = 40 := rfl
  rw [e, b24] at hb
  exact ⟨⟨fr, tt, sq, ak, fl, wi, ur, d⟩, .slice sa os.length sc, os, rfl, hr, ⟨(bounds_u32 w2).1, (bounds_u32 w2).2, (bounds_u32 w3).1, (bounds_u32 w3).2⟩, g8, hb, hx⟩
end
end Go.Proofs.YtpcknkpddinccaaDoor.argt
