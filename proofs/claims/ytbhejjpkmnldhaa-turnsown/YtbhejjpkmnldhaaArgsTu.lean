/- Queues that came in as an argument. -/
import Derived.Test.YtbhejjpkmnldhaaArgsRd
import Derived.Test.YtbhejjpkmnldhaaTuBase
namespace Go.Proofs.Ytbhejjpkmnldhaa.argtu
open Go.ChangeShapes Go.WideShapes Go.ChangeAt Go.RowKit
open Go.Proofs.Ytbhejjpkmnldhaa.argr Go.Proofs.Ytbhejjpkmnldhaa.tu Go.Proofs.Ytbhejjpkmnldhaa.rwr

section
variable {H : Type} {enc : TypeId × Value → H} {w : World} {base : Nat} {spare : Nat → Bool} {held : Bool}
theorem int_cells (n : Nat) (cs : List Value) (x : DataW H × List MemPlace) (hf : DataW.trod enc Try.prog w base spare held n 3 cs = some x) : ∃ q : Int, cs = (NK.enc q).toList := by
  obtain ⟨a, q, _, _⟩ := DataW.trod_int Try.underlying3 hf
  exact ⟨a, q⟩
def Vq (w : World) (m : Nat) (x : Qv) : Prop := ∃ l, Rd NK w x.sl l ∧ l.length * 8 ≤ m
set_option maxRecDepth 100000 in
theorem queue_cells (m : Nat) (n : Nat) (cs : List Value) (x : DataW H × List MemPlace) (hf : DataW.trod enc Try.prog w base spare held n 41 cs = some x) (hm : (x.1.weights Try.prog 41).all (· ≤ m) = true) :
    ∃ q : Qv, cs = (Qv.cells q).toList ∧ Vq w m q := by
  have kS : Try.prog.cellsOf 41 = 3 := by kernel_rfl
  have ki : Try.prog.cellsOf 3 = 1 := by kernel_rfl
  have kn : Try.prog.cellsOf 39 = 1 := by kernel_rfl
  have b8 : Try.prog.bytesOf 3 = 8 := by kernel_rfl
  obtain ⟨xs, n, _, hd, hs, hl, hel⟩ := DataW.trod_struct Try.underlying41 hf
  obtain ⟨c0, c1, c2, rfl⟩ : ∃ c0 c1 c2, cs = [c0, c1, c2] := by
    match cs, hs.trans kS with
    | [c0, c1, c2], _ => exact ⟨c0, c1, c2, rfl⟩
  have hlN : xs.length = 3 := by simpa using hl
  have g : ∀ (i : Nat), i < 3 → ∃ z, xs[i]? = some z := fun i hi => ⟨xs[i]'(by omega), List.getElem?_eq_getElem _⟩
  obtain ⟨z0, e0⟩ := g 0 (by omega)
  obtain ⟨a0, q0, _, _⟩ := DataW.trod_int Try.underlying3 ((hel 0 _ rfl).trans e0)
  simp [ki] at q0
  subst q0
  obtain ⟨z1, e1⟩ := g 1 (by omega)
  obtain ⟨a1, q1, _, _⟩ := DataW.trod_int Try.underlying3 ((hel 1 _ rfl).trans e1)
  simp [ki] at q1
  subst q1
  obtain ⟨z2, e2⟩ := g 2 (by omega)
  have hd1 : x.1 = .agg (xs.map (·.1)) := congrArg Prod.fst hd
  rw [hd1] at hm
  simp only [DataW.weights, Try.underlying41] at hm
  have g2 : (z2.1.weights Try.prog 39).all (· ≤ m) = true := List.all_eq_true.2 fun n hn => List.all_eq_true.1 hm n (DataW.weights_mem_each (j := 2) (t := 39) (d := z2.1) (by rfl) (by simp [e2]) n hn)
  obtain ⟨sa, sc, l, q2, hr, hb, _⟩ := rows NK 39 m (0 : Int) (fun _ => True) ki Try.underlying39 (fun n cs x hx _ => by obtain ⟨q, hq⟩ := int_cells n cs x hx; exact ⟨q, hq, trivial⟩) ((hel 2 _ rfl).trans e2) g2
  simp [kn] at q2
  subst q2
  have e : NK.e = 3 := rfl
  rw [e, b8] at hb
  exact ⟨⟨a0, a1, sa, l.length, sc⟩, rfl, l, hr, hb⟩
theorem queues {w : World} {m : Nat} : ∀ (X : List Qv), (∀ x ∈ X, Vq w m x) → ∃ L : List Qu, X.length = L.length ∧ (∀ (j : Nat) x q, X[j]? = some x → L[j]? = some q → x.sh = q.sh ∧ x.sv = q.sv ∧ Rd NK w x.sl q.l) ∧ ∀ q ∈ L, q.l.length * 8 ≤ m
  | [], _ => ⟨[], rfl, fun j x q h => by simp at h, fun q h => by simp at h⟩
  | x :: X, h => by
    obtain ⟨L, h1, h2, h3⟩ := queues X fun y hy => h y (by simp [hy])
    obtain ⟨l, r, b⟩ := h x (by simp)
    refine ⟨⟨x.sh, x.sv, l⟩ :: L, by simp [h1], fun j y q hy hq => ?_, fun q hq => ?_⟩
    · cases j with
      | zero =>
        simp at hy hq
        subst hy hq
        exact ⟨rfl, rfl, r⟩
      | succ j =>
        simp at hy hq
        exact h2 j y q hy hq
    · rcases List.mem_cons.1 hq with rfl | hq
      · exact b
      · exact h3 q hq
set_option maxRecDepth 100000 in
/-- they came in as an argument -/
theorem open_turns {r : Reach} {b0 : Nat} {v : Value} {d' : DataW H} {p : List MemPlace} (m : Nat) (hv : Value.okWide Try.prog w r b0 23 v) (h : DataW.Trod enc Try.prog w base spare held 23 v d' p) (hm : (d'.weights Try.prog 23).all (· ≤ m) = true) :
    ∃ L : List Qu, TRd w v L ∧ L.length * 40 ≤ m ∧ ∀ q ∈ L, q.l.length * 8 ≤ m := by
  have kS : Try.prog.cellsOf 41 = 3 := by kernel_rfl
  have bS : Try.prog.bytesOf 41 = 40 := by kernel_rfl
  obtain ⟨a0, n0, c0, rfl⟩ := okWide_slice Try.underlying23 hv
  obtain ⟨fuel, hf⟩ := h
  obtain ⟨sa, sc, X, q, hr, hb, hx⟩ := rows QK 23 m (⟨0, 0, none, 0, 0⟩ : Qv) (Vq w m) kS Try.underlying23 (queue_cells m) hf hm
  have e : QK.e = 41 := rfl
  rw [e, bS] at hb
  simp [Value.cells] at q
  obtain ⟨rfl, rfl, rfl⟩ := q
  obtain ⟨L, h1, h2, h3⟩ := queues X hx
  exact ⟨L, ⟨X, hr, h1, h2⟩, by rw [← h1]; exact hb, h3⟩
end
end Go.Proofs.Ytbhejjpkmnldhaa.argtu
