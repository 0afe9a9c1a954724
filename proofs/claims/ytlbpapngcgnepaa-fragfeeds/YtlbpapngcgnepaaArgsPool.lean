/- A pool that came in as an argument is read as a list of heaps. -/
import Derived.Test.YtlbpapngcgnepaaArgsRows
namespace Go.Proofs.Ytlbpapngcgnepaa.argsq
open Go.Proofs.Ytlbpapngcgnepaa.frp
open Go.Proofs.Ytlbpapngcgnepaa.rws (Knd)

theorem Rd0.rd {α : Type} {K : Knd α} {w : World} {v : Value} {l : List α} (h : Rd0 K w v l) : Rd K w v l := by
  obtain ⟨sa, sc, e, h1, h2, h3⟩ := h
  exact ⟨sa, sc, e, h1, ⟨h2.1, h2.2⟩, h3⟩
theorem pool_of {w : World} {v : Value} {m : Nat} {X : List Hv} (h : Rd0 HK w v X) (hx : ∀ x ∈ X, Vh w m x) :
    ∃ L : List Hp, PRd w v L ∧ L.length = X.length ∧ ∀ y ∈ L, y.ps.length * 32 ≤ m ∧ ∀ q ∈ y.ps, q.d.size ≤ m := by
  have key : ∀ x : Hv, ∃ ps : List Pt, x ∈ X → Rd0 TK w x.sl ps ∧ ps.length * 32 ≤ m ∧ ∀ q ∈ ps, q.d.size ≤ m := fun x => by
    by_cases hm : x ∈ X
    · obtain ⟨ps, hp⟩ := hx x hm
      exact ⟨ps, fun _ => hp⟩
    · exact ⟨[], fun h => absurd h hm⟩
  obtain ⟨f, hf⟩ := Classical.axiomOfChoice key
  refine ⟨X.map fun x => ⟨x.h, f x⟩, ⟨X, h.rd, by simp, fun j x y hj hy => ?_⟩, by simp, fun y hy => ?_⟩
  · rw [List.getElem?_map, hj] at hy
    have e := Option.some.inj hy
    subst e
    exact ⟨rfl, (hf x (List.mem_of_getElem? hj)).1.rd⟩
  · obtain ⟨x, hm, rfl⟩ := List.mem_map.1 hy
    exact (hf x hm).2
end Go.Proofs.Ytlbpapngcgnepaa.argsq
