/- One element more at the end of a row of the call's own, in a region that draws; whatever the kind. -/
import Derived.Test.YtbhejjpkmnldhaaRwsRd
import Derived.OwnWalk
import Derived.Laws.OwnMore
import Derived.Deep.RegionLaw
import Derived.Deep.RegionWith
namespace Go.Proofs.Ytbhejjpkmnldhaa.sto
open Go.ChangeShapes Go.WideShapes Go.ChangeAt Go.RowKit Go.BigFrame
open Go.Proofs.Ytbhejjpkmnldhaa.boxes Go.Proofs.Ytbhejjpkmnldhaa.rwr
open Go.Proofs.Ytbhejjpkmnldhaa.rws (Knd Own cs_length cs_one cs_append)

/-- one element more, in a region that draws -/
theorem step_one {α : Type} {ops : Array Oper} {o : Oper} {a : Act} {w : World} {C : Act → World → Prop} {Q : Exit → Act → World → Prop} {E : Prop} (K : Knd α)
    (hg : o.guard = none) (s x : Operand) (hop : o.op = Op.call { callee := Callee.builtin Builtin.append, args := #[s, x], argTypes := #[K.s, K.s] })
    (B : Nat) (v : Value) (l : List α) (hs : a.eval s = v) (hown : Own K w B v l) (b c : Nat) (y : α) (t : TypeId) (hx : a.eval x = .slice (some ⟨b, 0, none⟩) 1 c) (hb : Blk w b (K.enc y) t)
    (b0 : l.length + 1 ≤ maxLen) (b1 : (l.length + 1) * K.by_ ≤ 140737488355328) (b4 : B ≤ w.heap.size)
    (hK : ∀ v' w', Own K w' B v' (l ++ [y]) → Below B w w' → w.grownBy w' v.ownBlock → C (a.put o.dst v') w') :
    if Region.wanted o (yielded ops a.tmps) = true then Oper.wp Try.prog o a w C Q else E := by
  obtain ⟨i0, hi, hz0, hz1, hz2⟩ := info_parts K.info
  have hw : Region.wanted o (yielded ops a.tmps) = true := by simp [Region.wanted, hg]
  rw [if_pos hw]
  obtain ⟨v', w', hrun, h1, h2, _⟩ := run_append_own (P := Try.prog) w B K.s o.type K.e i0 K.z K.k K.by_ K.hs hi hz0 hz1 hz2 K.hz K.pos v l.length (K.cs l) hown ⟨b, 0, none⟩ 1 c (K.cs [y]) (by rw [cs_length]; rfl)
    (fun j u hj => by
      have e : (⟨b, 0, none⟩ : Addr).add j = ⟨b, j, none⟩ := by unfold Addr.add; split <;> simp_all
      rw [e, hb.cell]
      simpa [Knd.cs] using hj) (cs_one K [y]) b0 b1 b4
  unfold Oper.wp
  simp [execOp, hop, resolve, invoke, builtin, hs, hx, hrun, Result.andThen]
  refine hK v' w' ?_ ?_ h2
  · unfold Own
    rw [cs_append, List.length_append]
    exact h1
  · exact (Below.refl _ _).grown h2 b4 (fun k hk => (hown.lt k hk).1)
end Go.Proofs.Ytbhejjpkmnldhaa.sto
