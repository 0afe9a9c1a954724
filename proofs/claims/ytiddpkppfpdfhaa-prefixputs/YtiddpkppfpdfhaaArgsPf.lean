/- A trie, a net that came in as arguments: the nodes, and their bounds. -/
import Derived.Test.YtiddpkppfpdfhaaArgsRd
import Derived.Test.YtiddpkppfpdfhaaPfBase
namespace Go.Proofs.Ytiddpkppfpdfhaa.argpf
open Go.ChangeShapes Go.WideShapes Go.ChangeAt Go.RowKit
open Go.Proofs.Ytiddpkppfpdfhaa.argr Go.Proofs.Ytiddpkppfpdfhaa.pm Go.Proofs.Ytiddpkppfpdfhaa.pf Go.Proofs.Ytiddpkppfpdfhaa.rwr

section
variable {H : Type} {enc : TypeId × Value → H} {w : World} {base : Nat} {spare : Nat → Bool} {held : Bool}
set_option maxRecDepth 100000 in
theorem node_cells (m : Nat) (n : Nat) (cs : List Value) (x : DataW H × List MemPlace) (hf : DataW.trod enc Try.prog w base spare held n 57 cs = some x) (_ : (x.1.weights Try.prog 57).all (· ≤ m) = true) :
    ∃ q : Nd, cs = (Nd.cells q).toList ∧ True := by
  have k4 : Try.prog.cellsOf 57 = 4 := by kernel_rfl
  have k2 : Try.prog.cellsOf 55 = 2 := by kernel_rfl
  have ki : Try.prog.cellsOf 3 = 1 := by kernel_rfl
  have kb : Try.prog.cellsOf 4 = 1 := by kernel_rfl
  obtain ⟨xs, n, _, hd, hs, hl, hel⟩ := DataW.trod_struct Try.underlying57 hf
  obtain ⟨c0, c1, c2, c3, rfl⟩ : ∃ c0 c1 c2 c3, cs = [c0, c1, c2, c3] := by
    match cs, hs.trans k4 with
    | [c0, c1, c2, c3], _ => exact ⟨c0, c1, c2, c3, rfl⟩
  have hl3 : xs.length = 3 := by simpa using hl
  have g : ∀ (i : Nat), i < 3 → ∃ z, xs[i]? = some z := fun i hi => ⟨xs[i]'(by omega), List.getElem?_eq_getElem _⟩
  obtain ⟨z0, e0⟩ := g 0 (by omega)
  obtain ⟨z1, e1⟩ := g 1 (by omega)
  obtain ⟨z2, e2⟩ := g 2 (by omega)
  have h0 := (hel 0 _ rfl).trans e0
  have h0 : DataW.trod enc Try.prog w base spare held n 55 [c0, c1] = some z0 := by simpa [k2] using h0
  obtain ⟨ys, m2, _, _, _, hl2, hel2⟩ := DataW.trod_array Try.underlying55 h0
  rw [ki] at hel2
  have g2 : ∀ (i : Nat), i < 2 → ∃ z, ys[i]? = some z := fun i hi => ⟨ys[i]'(by omega), List.getElem?_eq_getElem _⟩
  obtain ⟨y0, f0⟩ := g2 0 (by omega)
  obtain ⟨y1, f1⟩ := g2 1 (by omega)
  obtain ⟨a, qa, _, _⟩ := DataW.trod_int Try.underlying3 ((hel2 0 (by omega)).trans f0)
  obtain ⟨b, qb, _, _⟩ := DataW.trod_int Try.underlying3 ((hel2 1 (by omega)).trans f1)
  obtain ⟨u, q1, y1'⟩ := DataW.trod_bool Try.underlying4 ((hel 1 _ rfl).trans e1)
  obtain ⟨v, q2, y2, w2⟩ := DataW.trod_int Try.underlying3 ((hel 2 _ rfl).trans e2)
  simp [ki, kb] at qa qb q1 q2
  subst qa qb q1 q2
  exact ⟨⟨a, b, u, v⟩, rfl, trivial⟩
set_option maxRecDepth 100000 in
/-- a trie that came in as an argument -/
theorem open_trie {r : Reach} {b0 : Nat} {v : Value} {d' : DataW H} {p : List MemPlace} (m : Nat) (hv : Value.okWide Try.prog w r b0 24 v) (h : DataW.Trod enc Try.prog w base spare held 24 v d' p) (hm : (d'.weights Try.prog 24).all (· ≤ m) = true) :
    ∃ (u : Value) (l : List Nd), v = .agg #[u] ∧ Rd DK w u l ∧ l.length * 32 ≤ m := by
  have k1 : Try.prog.cellsOf 24 = 1 := by kernel_rfl
  have k4 : Try.prog.cellsOf 57 = 4 := by kernel_rfl
  have kp : Try.prog.cellsOf 22 = 1 := by kernel_rfl
  have b32 : Try.prog.bytesOf 57 = 32 := by kernel_rfl
  obtain ⟨cs, rfl, hs⟩ := okWide_struct Try.underlying24 hv
  obtain ⟨c0, rfl⟩ : ∃ c0, cs = #[c0] := by
    obtain ⟨l⟩ := cs
    match l, hs.trans k1 with
    | [c0], _ => exact ⟨c0, rfl⟩
  obtain ⟨fuel, hf⟩ := h
  obtain ⟨xs, n, _, hd, _, hl, hel⟩ := DataW.trod_struct Try.underlying24 hf
  have hl1 : xs.length = 1 := by simpa using hl
  obtain ⟨z0', e0⟩ : ∃ z, xs[0]? = some z := ⟨xs[0]'(by omega), List.getElem?_eq_getElem _⟩
  have hd1 : d' = .agg (xs.map (·.1)) := congrArg Prod.fst hd
  rw [hd1] at hm
  simp only [DataW.weights, Try.underlying24] at hm
  have g0 : (z0'.1.weights Try.prog 22).all (· ≤ m) = true := List.all_eq_true.2 fun n hn => List.all_eq_true.1 hm n (DataW.weights_mem_each (j := 0) (t := 22) (d := z0'.1) (by rfl) (by simp [e0]) n hn)
  obtain ⟨sa, sc, os, q0, hr, hb, _⟩ := rows DK 22 m (z0 : Nd) (fun _ : Nd => True) k4 Try.underlying22 (node_cells m) ((hel 0 _ rfl).trans e0) g0
  simp [Value.cells, kp] at q0
  subst q0
  have e : DK.e = 57 := rfl
  rw [e, b32] at hb
  exact ⟨.slice sa os.length sc, os, rfl, hr, hb⟩
set_option maxRecDepth 100000 in
/-- a net that came in as an argument -/
theorem open_net {r : Reach} {b0 : Nat} {v : Value} {d' : DataW H} {p : List MemPlace} (hv : Value.okWide Try.prog w r b0 27 v) (h : DataW.Trod enc Try.prog w base spare held 27 v d' p) :
    ∃ (a : Nat) (l : Int), v = .agg #[.int .u32 (a : Int), .int .i64 l] ∧ a < 4294967296 := by
  have k2 : Try.prog.cellsOf 27 = 2 := by kernel_rfl
  have ku : Try.prog.cellsOf 25 = 1 := by kernel_rfl
  have ki : Try.prog.cellsOf 3 = 1 := by kernel_rfl
  obtain ⟨cs, rfl, hs⟩ := okWide_struct Try.underlying27 hv
  obtain ⟨c0, c1, rfl⟩ : ∃ c0 c1, cs = #[c0, c1] := by
    obtain ⟨l⟩ := cs
    match l, hs.trans k2 with
    | [c0, c1], _ => exact ⟨c0, c1, rfl⟩
  obtain ⟨fuel, hf⟩ := h
  obtain ⟨xs, n, _, hd, _, hl, hel⟩ := DataW.trod_struct Try.underlying27 hf
  have hl2 : xs.length = 2 := by simpa using hl
  have g : ∀ (i : Nat), i < 2 → ∃ z, xs[i]? = some z := fun i hi => ⟨xs[i]'(by omega), List.getElem?_eq_getElem _⟩
  obtain ⟨z0, e0⟩ := g 0 (by omega)
  obtain ⟨z1, e1⟩ := g 1 (by omega)
  obtain ⟨a, q0, _, w0⟩ := DataW.trod_int Try.underlying25 ((hel 0 _ rfl).trans e0)
  obtain ⟨l, q1, _, _⟩ := DataW.trod_int Try.underlying3 ((hel 1 _ rfl).trans e1)
  simp [Value.cells, ku, ki] at q0 q1
  subst q0 q1
  obtain ⟨h0, h1⟩ := bounds_u32 w0
  exact ⟨a.toNat, l, by rw [Int.toNat_of_nonneg h0], by omega⟩
end
end Go.Proofs.Ytiddpkppfpdfhaa.argpf
