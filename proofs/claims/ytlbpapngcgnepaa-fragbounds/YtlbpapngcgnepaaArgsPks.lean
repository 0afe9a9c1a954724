/- A row of packets that came in as an argument. -/
import Derived.Test.YtlbpapngcgnepaaArgsIp
import Derived.Test.YtlbpapngcgnepaaFragBoundsIn
import Derived.ChangeSlices
import Derived.OpenShut
namespace Go.Proofs.Ytlbpapngcgnepaa.argsp
open Go.ChangeShapes Go.WideShapes Go.ChangeAt Go.RowKit
open Go.Proofs.Ytlbpapngcgnepaa.ipb Go.Proofs.Ytlbpapngcgnepaa.argsi Go.Proofs.Ytlbpapngcgnepaa.frbd

section
variable {H : Type} {enc : TypeId × Value → H} {w : World} {base : Nat} {spare : Nat → Bool} {held : Bool}
theorem list11 {α : Type} {l : List α} (h : l.length = 11) : ∃ c0 c1 c2 c3 c4 c5 c6 c7 c8 c9 c10, l = [c0, c1, c2, c3, c4, c5, c6, c7, c8, c9, c10] := by
  match l, h with
  | [c0, c1, c2, c3, c4, c5, c6, c7, c8, c9, c10], _ => exact ⟨c0, c1, c2, c3, c4, c5, c6, c7, c8, c9, c10, rfl⟩
set_option maxRecDepth 100000 in
/-- a packet's cells, wherever they lie -/
theorem packet_cells {fuel : Nat} {cs : List Value} {x : DataW H × List MemPlace} (hf : DataW.trod enc Try.prog w base spare held fuel 24 cs = some x) :
    ∃ P : Pk, cs = P.cells.toList ∧ P.Adr ∧ ∀ m : Nat, (x.1.weights Try.prog 24).all (· ≤ m) = true → P.o.size ≤ m ∧ P.d.size ≤ m := by
  have k11 : Try.prog.cellsOf 24 = 11 := by kernel_rfl
  have ki : Try.prog.cellsOf 3 = 1 := by kernel_rfl
  have kb : Try.prog.cellsOf 4 = 1 := by kernel_rfl
  have ku : Try.prog.cellsOf 22 = 1 := by kernel_rfl
  have ks : Try.prog.cellsOf 9 = 1 := by kernel_rfl
  obtain ⟨xs, n, _, hd, hs, hl, hel⟩ := DataW.trod_struct Try.underlying24 hf
  obtain ⟨c0, c1, c2, c3, c4, c5, c6, c7, c8, c9, c10, rfl⟩ := list11 (hs.trans k11)
  have hl11 : xs.length = 11 := by simpa using hl
  have g : ∀ (i : Nat), i < 11 → ∃ z, xs[i]? = some z := fun i hi => ⟨xs[i]'(by omega), List.getElem?_eq_getElem _⟩
  obtain ⟨z0, e0⟩ := g 0 (by omega)
  obtain ⟨z1, e1⟩ := g 1 (by omega)
  obtain ⟨z2, e2⟩ := g 2 (by omega)
  obtain ⟨z3, e3⟩ := g 3 (by omega)
  obtain ⟨z4, e4⟩ := g 4 (by omega)
  obtain ⟨z5, e5⟩ := g 5 (by omega)
  obtain ⟨z6, e6⟩ := g 6 (by omega)
  obtain ⟨z7, e7⟩ := g 7 (by omega)
  obtain ⟨z8, e8⟩ := g 8 (by omega)
  obtain ⟨z9, e9⟩ := g 9 (by omega)
  obtain ⟨z10, e10⟩ := g 10 (by omega)
  obtain ⟨tos, q0, y0, w0⟩ := DataW.trod_int Try.underlying3 ((hel 0 _ rfl).trans e0)
  obtain ⟨id, q1, y1, w1⟩ := DataW.trod_int Try.underlying3 ((hel 1 _ rfl).trans e1)
  obtain ⟨wh, q2, y2⟩ := DataW.trod_bool Try.underlying4 ((hel 2 _ rfl).trans e2)
  obtain ⟨mo, q3, y3⟩ := DataW.trod_bool Try.underlying4 ((hel 3 _ rfl).trans e3)
  obtain ⟨st, q4, y4, w4⟩ := DataW.trod_int Try.underlying3 ((hel 4 _ rfl).trans e4)
  obtain ⟨li, q5, y5, w5⟩ := DataW.trod_int Try.underlying3 ((hel 5 _ rfl).trans e5)
  obtain ⟨pr, q6, y6, w6⟩ := DataW.trod_int Try.underlying3 ((hel 6 _ rfl).trans e6)
  obtain ⟨fr, q7, y7, w7⟩ := DataW.trod_int Try.underlying22 ((hel 7 _ rfl).trans e7)
  obtain ⟨tt, q8, y8, w8⟩ := DataW.trod_int Try.underlying22 ((hel 8 _ rfl).trans e8)
  obtain ⟨o, q9, y9, w9⟩ := DataW.trod_string Try.underlying9 ((hel 9 _ rfl).trans e9)
  obtain ⟨d, q10, y10, w10⟩ := DataW.trod_string Try.underlying9 ((hel 10 _ rfl).trans e10)
  simp [ki, kb, ku, ks] at q0 q1 q2 q3 q4 q5 q6 q7 q8 q9 q10
  subst q0 q1 q2 q3 q4 q5 q6 q7 q8 q9 q10
  refine ⟨⟨tos, id, wh, mo, st, li, pr, fr, tt, o, d⟩, rfl, ⟨(bounds_u32 w7).1, (bounds_u32 w7).2, (bounds_u32 w8).1, (bounds_u32 w8).2⟩, fun m hm => ?_⟩
  have hd1 : x.1 = .agg (xs.map (·.1)) := congrArg Prod.fst hd
  rw [hd1] at hm
  simp only [DataW.weights, Try.underlying24] at hm
  have g9 := List.all_eq_true.1 hm _ (DataW.weights_mem_each (j := 9) (t := 9) (d := .lit (.string o.data.toList)) (by rfl) (by simp [e9, y9]) o.data.toList.length (by simp [DataW.weights]))
  have g10 := List.all_eq_true.1 hm _ (DataW.weights_mem_each (j := 10) (t := 9) (d := .lit (.string d.data.toList)) (by rfl) (by simp [e10, y10]) d.data.toList.length (by simp [DataW.weights]))
  simp at g9 g10
  exact ⟨g9, g10⟩
theorem weights_mem_all {P : Program} {e : TypeId} : ∀ {ds : List (DataW H)} {d : DataW H}, d ∈ ds → ∀ n ∈ d.weights P e, n ∈ DataW.weightsAll P e ds
  | d0 :: ds, d, hd, n, hn => by
    simp only [DataW.weightsAll, List.mem_append]
    rcases List.mem_cons.1 hd with rfl | hd
    · exact Or.inl hn
    · exact Or.inr (weights_mem_all hd n hn)
set_option maxRecDepth 100000 in
theorem open_packets {r : Reach} {b0 : Nat} {v : Value} {d' : DataW H} {p : List MemPlace} (hv : Value.okWide Try.prog w r b0 25 v) (h : DataW.Trod enc Try.prog w base spare held 25 v d' p) :
    ∃ l : List Pk, Rw w v l ∧ ∀ m : Nat, (d'.weights Try.prog 25).all (· ≤ m) = true → ∀ q ∈ l, q.Adr ∧ q.o.size ≤ m ∧ q.d.size ≤ m := by
  have k11 : Try.prog.cellsOf 24 = 11 := by kernel_rfl
  obtain ⟨a0, n0, c0, rfl⟩ := okWide_slice Try.underlying25 hv
  obtain ⟨fuel, hf⟩ := h
  rcases DataW.trod_slice Try.underlying25 hf with ⟨hcs, _⟩ | ⟨a, len, cap, elems, rest, n, _, hcs, hx, _, hle, hmax, hlen, hel, _, _⟩
  · simp [Value.cells] at hcs
    obtain ⟨rfl, rfl, rfl⟩ := hcs
    exact ⟨[], ⟨none, 0, rfl, Nat.zero_le _, fun hh => by simp at hh⟩, fun m _ q hq => by simp at hq⟩
  · simp [Value.cells] at hcs
    obtain ⟨rfl, rfl, rfl⟩ := hcs
    have key : ∀ i, ∃ P : Pk, i < n0 → (∀ k, k < 11 → w.cell? ((a.add (i * 11)).add k) = P.cells[k]?) ∧ P.Adr ∧ ∀ m : Nat, (d'.weights Try.prog 25).all (· ≤ m) = true → P.o.size ≤ m ∧ P.d.size ≤ m := fun i => by
      by_cases hi : i < n0
      · have hh := hel i hi
        rw [List.getElem?_eq_getElem (by omega), k11, Option.bind_eq_some_iff] at hh
        obtain ⟨cs, h1, h2⟩ := hh
        obtain ⟨P, rfl, hadr, hw⟩ := packet_cells h2
        refine ⟨P, fun _ => ⟨fun k hk => ?_, hadr, fun m hm => hw m ?_⟩⟩
        · rw [(World.cells?_some h1).2.2 k hk, Array.getElem?_toList]
        · have hd : d' = .slice (elems.map (·.1)) (rest.map (·.1)) := congrArg Prod.fst hx
          rw [hd] at hm
          simp only [DataW.weights, Try.underlying25] at hm
          refine List.all_eq_true.2 fun z hz => List.all_eq_true.1 hm z ?_
          refine List.mem_cons_of_mem _ (List.mem_append_left _ (weights_mem_all (List.mem_map_of_mem (List.getElem_mem _)) z hz))
      · exact ⟨zeroP, fun h => absurd h hi⟩
    obtain ⟨f, hf'⟩ := Classical.axiomOfChoice key
    refine ⟨(List.range n0).map f, ⟨some a, c0, by simp, by simp; omega, fun hp => ?_⟩, fun m hm q hq => ?_⟩
    · have hp' : 0 < n0 := by simpa using hp
      obtain ⟨b, off, spot⟩ := a
      have hs : spot = none := by
        have h0 := (hf' 0 hp').1 0 (by omega)
        have e0 : (f 0).cells[0]? = some (.int .i64 (f 0).tos) := rfl
        rw [e0] at h0
        simpa [Addr.add] using World.cell?_spot h0
      subst hs
      have c : ∀ j, j < n0 → ∀ k, k < 11 → w.cell? ⟨b, off + j * 11 + k, none⟩ = (f j).cells[k]? := fun j hj k hk => by
        have := (hf' j hj).1 k hk
        rw [Go.WideShapes.add_plain, Go.WideShapes.add_plain] at this
        exact this
      refine ⟨b, off, rfl, World.block_lt_of_cell? (u := .int .i64 (f 0).tos) _ _ (c 0 hp' 0 (by omega)), fun j y hj k hk => ?_⟩
      rw [List.getElem?_map, Option.map_eq_some_iff] at hj
      obtain ⟨z, hz, rfl⟩ := hj
      obtain ⟨h1, h2⟩ := List.getElem?_eq_some_iff.1 hz
      simp at h1 h2
      subst h2
      exact c j h1 k hk
    · obtain ⟨i, hi, rfl⟩ := List.mem_map.1 hq
      have := hf' i (by simpa using hi)
      exact ⟨this.2.1, this.2.2 m hm⟩
end
end Go.Proofs.Ytlbpapngcgnepaa.argsp
