/- Rows of bytes that the call itself has made: append inside a region that draws its order; the row's form. -/
import Derived.Test.YtfaebenhjilkgaaBuf
import Derived.Deep.RegionLaw
namespace Go.Proofs.Ytfaebenhjilkgaa.buf
open Go.ChangeShapes Go.WideShapes Go.ChangeAt Go.RowKit

/-- the same as a step of a region that draws its order -/
theorem step_app {ops : Array Oper} {o : Oper} {a : Act} {w : World} {K : Act → World → Prop} {Q : Exit → Act → World → Prop} {E : Prop}
    (hg : o.guard = none) (s x : Operand) (hop : o.op = Op.call { callee := Callee.builtin Builtin.append, args := #[s, x], argTypes := #[62, 62] })
    (B : Nat) (v : Value) (l : List UInt8) (hs : a.eval s = v) (hown : Own w B v l) (ad : Addr) (m c : Nat) (news : List UInt8) (hx : a.eval x = .slice (some ad) m c) (hm : news.length = m)
    (hc : ∀ j, j < news.length → w.cell? (ad.add j) = some (.int .u8 ((news.getD j 0).toNat : Int))) (b1 : l.length + m ≤ 140737488355328) (b4 : B ≤ w.heap.size)
    (hK : ∀ v' w', Own w' B v' (l ++ news) → Below B w w' → K (a.put o.dst v') w') :
    if Region.wanted o (yielded ops a.tmps) = true then Oper.wp Try.prog o a w K Q else E := by
  obtain ⟨i0, hi, hz0, hz1, hz2⟩ := info_parts u8info
  have hw : Region.wanted o (yielded ops a.tmps) = true := by simp [Region.wanted, hg]
  rw [if_pos hw]
  obtain ⟨v', w', hrun, h1, h2, _⟩ := run_append_own (P := Try.prog) w B 62 o.type 5 i0 (.int .u8 0) 1 1 Try.underlying62 hi hz0 hz1 hz2 rfl (by decide) v l.length (bc l) hown ad m c (bc news) (by rw [bc_length, hm]; omega)
    (fun j u hj => by
      have hj' : j < news.length := by
        have := (List.getElem?_eq_some_iff.1 hj).1
        rwa [bc_length] at this
      rw [hc j hj', ← hj, bc, List.getElem?_map, List.getElem?_eq_getElem hj', List.getD_eq_getElem?_getD, List.getElem?_eq_getElem hj']
      rfl) (bc_one news) (by unfold maxLen; omega) (by omega) b4
  unfold Oper.wp
  simp [execOp, hop, resolve, invoke, builtin, hs, hx, hrun, Result.andThen]
  refine hK v' w' ?_ ?_
  · unfold Own
    rw [bc_append, List.length_append, hm]
    exact h1
  · exact (Below.refl _ _).grown h2 b4 (fun k hk => (hown.lt k hk).1)
theorem Own.form {w : World} {B : Nat} {v : Value} {l : List UInt8} (h : Own w B v l) (hl : 0 < l.length) :
    ∃ g cap, v = .slice (some ⟨g, 0, none⟩) l.length cap ∧ B ≤ g ∧ g < w.heap.size ∧ ∀ j, j < l.length → w.cell? ⟨g, j, none⟩ = some (.int .u8 ((l.getD j 0).toNat : Int)) := by
  rcases h.2 with ⟨rfl, hn⟩ | ⟨g, cap, cur, rfl, hB, hg, hnc, _, hcs, htake⟩
  · omega
  · refine ⟨g, cap, rfl, hB, ?_, fun j hj => ?_⟩
    · exact (World.ownsRow.lt h g rfl).2
    · have := World.ownsRow.cells h (g := g) rfl j (.int .u8 ((l.getD j 0).toNat : Int)) (by simp [bc, List.getD_eq_getElem?_getD, List.getElem?_eq_getElem hj])
      have e : (⟨g, 0, none⟩ : Addr).add j = ⟨g, j, none⟩ := by unfold Addr.add; split <;> simp_all
      rwa [e] at this
theorem Own.drew {w : World} {B : Nat} {v : Value} {l : List UInt8} (h : Own w B v l) : Own w.drew B v l := h
/-- '[]byte{}' -/
theorem Own.empty (w : World) (B : Nat) (h : B ≤ w.heap.size) : Own (w.alloc (.cells #[] 5)) B (.slice (some ⟨w.heap.size, 0, none⟩) 0 0) [] :=
  World.ownsRow_made w #[] 0 h (by unfold maxLen; omega) rfl

end Go.Proofs.Ytfaebenhjilkgaa.buf
