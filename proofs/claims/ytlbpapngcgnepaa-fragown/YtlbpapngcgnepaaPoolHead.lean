/- A pool one of whose heaps has another head. -/
import Derived.Test.YtlbpapngcgnepaaPoolPut
namespace Go.Proofs.Ytlbpapngcgnepaa.ph
open Go.ChangeShapes Go.WideShapes Go.ChangeAt Go.RowKit
open Go.Proofs.Ytlbpapngcgnepaa.boxes Go.Proofs.Ytlbpapngcgnepaa.frp Go.Proofs.Ytlbpapngcgnepaa.pl Go.Proofs.Ytlbpapngcgnepaa.frh Go.Proofs.Ytlbpapngcgnepaa.pp
open Go.Proofs.Ytlbpapngcgnepaa.rws (Own Knd cs_length)

/-- one cell of the heap at i, not its parts, is stored -/
theorem Pool.head {w : World} {B g cap n i : Nat} {Q : List Hq} {q : Hq} {hd : Hd} (c : Nat) (u : Value) (h : Pool w B (.slice (some ⟨g, 0, none⟩) n cap) Q) (hn : n = Q.length) (hq : Q[i]? = some q) (hc : c < 8)
    (he : (hd.cells q.v.sl).toList = (q.v.cells).toList.set c u) :
    Pool (w.setCell ⟨g, i * 8 + c, none⟩ u) B (.slice (some ⟨g, 0, none⟩) n cap) (Q.set i ⟨⟨hd, q.v.sa, q.v.sn, q.v.sc⟩, q.ps⟩) := by
  subst hn
  have hX : (Q.map (·.v)).length = Q.length := by simp
  have r' : w.ownsRow B HK.e HK.k (.slice (some ⟨g, 0, none⟩) Q.length cap) Q.length (HK.cs (Q.map (·.v))) := by
    have := h.row
    unfold Own at this
    rwa [hX] at this
  have st := (World.ownsRow.stored r' (i * 8 + c) u).1
  have hcs : HK.cs ((Q.map (·.v)).set i ⟨hd, q.v.sa, q.v.sn, q.v.sc⟩) = (HK.cs (Q.map (·.v))).set (i * 8 + c) u := cs_cell HK q.v ⟨hd, q.v.sa, q.v.sn, q.v.sc⟩ c u hc he _ i (by rw [List.getElem?_map, hq]; rfl)
  have hset : ∀ (v : Value) (l : List Pt), Own TK w B v l → Own TK (w.setCell ⟨g, i * 8 + c, none⟩ u) B v l := fun v l ho => ho.setCell (ne_kind h.row ho rfl)
  have hat : ∀ (j : Nat) r, (Q.set i ⟨⟨hd, q.v.sa, q.v.sn, q.v.sc⟩, q.ps⟩)[j]? = some r → ∃ r0, Q[j]? = some r0 ∧ r0.v.sl = r.v.sl ∧ r0.ps = r.ps := fun j r hj => by
    rw [List.getElem?_set] at hj
    by_cases hji : i = j
    · rw [if_pos hji] at hj
      split at hj
      · cases hj; exact ⟨q, by rw [← hji]; exact hq, rfl, rfl⟩
      · cases hj
    · rw [if_neg hji] at hj
      exact ⟨r, hj, rfl, rfl⟩
  refine ⟨?_, fun r hr => ?_, ?_⟩
  · unfold Own
    rw [List.map_set]
    show World.ownsRow _ B HK.e HK.k _ ((Q.map (·.v)).set i ⟨hd, q.v.sa, q.v.sn, q.v.sc⟩).length _
    rw [hcs, List.length_set, hX]
    exact st
  · obtain ⟨j, hj⟩ := List.getElem?_of_mem hr
    obtain ⟨r0, h1, h2, h3⟩ := hat j r hj
    rw [← h2, ← h3]
    exact hset _ _ (h.part r0 (List.mem_of_getElem? h1))
  · rw [List.pairwise_iff_getElem]
    intro x y hx hy hxy
    obtain ⟨a0, a1, a2, _⟩ := hat x _ (List.getElem?_eq_getElem hx)
    obtain ⟨b0, b1, b2, _⟩ := hat y _ (List.getElem?_eq_getElem hy)
    unfold Apart
    rw [← a2, ← b2]
    exact apart_at h.apart a1 b1 (by omega)
end Go.Proofs.Ytlbpapngcgnepaa.ph
