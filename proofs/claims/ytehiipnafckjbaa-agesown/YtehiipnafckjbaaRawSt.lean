/- A store of an element into a row of whatever cells. -/
import Derived.Test.YtehiipnafckjbaaRws
namespace Go.Proofs.Ytehiipnafckjbaa.rawst
open Go.ChangeShapes Go.WideShapes Go.ChangeAt Go.RowKit
open Go.Proofs.Ytehiipnafckjbaa.boxes Go.Proofs.Ytehiipnafckjbaa.rws

/-- an element is stored into a row of whatever cells -/
theorem raw_store {α : Type} {ops : Array Oper} {rest : List Oper} {o : Oper} {a : Act} {Q : Exit → Act → World → Prop} (K : Knd α) (W : World) (hgd : o.guard = none) (x z : Operand) (ho : o.op = .store K.e x z)
    (g off : Nat) (cur : Array Value) (hg : Blk W g cur K.e) (hx : a.eval x = .pointer (some ⟨g, off, none⟩)) (hoff : off + K.k ≤ cur.size) (y : α) (hz : a.eval z = .agg (K.enc y))
    (hK : ∀ W' cur', Blk W' g cur' K.e → cur'.size = cur.size → But g W W' → wpList Try.prog ops Q rest (a.put o.dst undef) W') : wpList Try.prog ops Q (o :: rest) a W := by
  refine wpList_plain hgd fun _ hK' => ?_
  obtain ⟨i0, hi, _, hz1, _⟩ := info_parts K.info
  have hk := K.hk y
  have hst := run_storeCells_at (P := Try.prog) g off K.e (K.enc y).toList 0 cur W hg (by rw [Array.length_toList, hk]; omega) (fun v hv => Array.all_eq_true'.1 (K.h1 y) v (by simpa using hv))
  have hsv : (storeVar K.e ⟨g, off, none⟩ (.agg (K.enc y))).run Try.prog W = .ok () (W.setRow g (cur.toList.take (off + 0) ++ (K.enc y).toList ++ cur.toList.drop (off + 0 + (K.enc y).toList.length)).toArray) := by
    have hs : (K.enc y).size = i0.size := by rw [hk, hz1]
    simp [storeVar, sizeOf, typeInfo, hi, Value.cells, hs, hst]
  unfold Oper.wp execOp
  simp only [ho, hx, hz, Instr.storeAt, Instr.sureAddr, Sem.run_bind, Sem.run_pure, Result.andThen_ok, hsv]
  refine hK' _ _ (hK _ _ (setRow_heap W g cur _ K.e _ hg) ?_ (but_setRow W g _))
  simp only [List.size_toArray, List.length_append, List.length_take, List.length_drop, Array.length_toList, hk]
  omega
end Go.Proofs.Ytehiipnafckjbaa.rawst
