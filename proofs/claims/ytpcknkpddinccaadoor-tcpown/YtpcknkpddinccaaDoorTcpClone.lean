/- slices.Clone of options. -/
import Derived.Test.YtpcknkpddinccaaDoorTcpMove
import Derived.Test.YtpcknkpddinccaaDoorShelfOp
namespace Go.Proofs.YtpcknkpddinccaaDoor.tccl
open Go.ChangeShapes Go.WideShapes Go.ChangeAt Go.RowKit Go.BigFrame
open Go.Proofs.YtpcknkpddinccaaDoor Go.Proofs.YtpcknkpddinccaaDoor.boxes Go.Proofs.YtpcknkpddinccaaDoor.tcb Go.Proofs.YtpcknkpddinccaaDoor.rwr
open Go.Proofs.YtpcknkpddinccaaDoor.rws (Own Knd)

set_option maxRecDepth 20000 in
theorem clone_any (v : Value) (ps : List Opt) (w : World) (h : Rd OK w v ps) (hb : ps.length * 24 ≤ 140737488355328) :
    Calls Tryd.prog 15 #[v] w fun e w' => ∃ v', e = .returned v' ∧ Own OK w' w.heap.size v' ps ∧ Below w.heap.size w w' := by
  have hm : ps.length ≤ maxLen := by unfold maxLen; omega
  obtain ⟨sa, sc, rfl, hm', hf, hc⟩ := h
  cases sa with
  | none =>
    have e0 := hf.nil rfl
    have e1 := hf.le
    have el : ps = [] := List.eq_nil_of_length_eq_zero (by omega)
    subst el
    refine (AnyE.slices_Clone_nil Tryd.cloneOp 0 sc w).mono ?_
    rintro e w' ⟨rfl, rfl⟩
    exact ⟨_, rfl, Own.nil _ _ _, Below.refl _ _⟩
  | some a =>
    have b1 := (Below.refl w.heap.size w).alloc (Nat.le_refl _) (.cells #[] 40)
    have hr : Rd OK (w.alloc (.cells #[] 40)) (.slice (some a) ps.length sc) ps := Rd.below ⟨_, _, rfl, hm', hf, hc⟩ b1
    have ow : Own OK (w.alloc (.cells #[] 40)) w.heap.size (.slice (some ⟨w.heap.size, 0, none⟩) 0 0) [] := ⟨rfl, Or.inr ⟨w.heap.size, 0, #[], rfl, Nat.le_refl _, Blk.new _ _ _, Nat.le_refl _, Nat.zero_le _, rfl, rfl⟩⟩
    clear hc
    have q : ∀ (w : World) (a : Option Addr) (n c n' c' : Nat), (binOp .eql 23 (.slice a n c) (.slice none n' c')).run Tryd.prog w = .ok (.bool a.isNone) w := fun w a n c n' c' => Lib.run_eql_slice_nil w _ _ a n c n' c' Tryd.underlying23
    go_enter Tryd.func15, Tryd.ntmps15
    go_wp2_with (at_builtin; refine app_rd OK _ rfl _ _ rfl w.heap.size _ [] rfl ow (.slice (some a) ps.length sc) ps rfl hr (by simpa using hm) (by show ([].length + ps.length) * 24 ≤ _; simpa using hb) (by simp) ?_)
    intro v4 W4 O4 c4 _
    go_wp2_with fail
    go_ret
    exact ⟨_, rfl, O4, b1.trans c4⟩
/-- an element is stored into a row of whatever cells -/
theorem raw_store {α : Type} {ops : Array Oper} {rest : List Oper} {o : Oper} {a : Act} {Q : Exit → Act → World → Prop} (K : Knd α) (W : World) (hgd : o.guard = none) (x z : Operand) (ho : o.op = .store K.e x z)
    (g off : Nat) (cur : Array Value) (hg : Blk W g cur K.e) (hx : a.eval x = .pointer (some ⟨g, off, none⟩)) (hoff : off + K.k ≤ cur.size) (y : α) (hz : a.eval z = .agg (K.enc y))
    (hK : ∀ W' cur', Blk W' g cur' K.e → cur'.size = cur.size → But g W W' → wpList Tryd.prog ops Q rest (a.put o.dst undef) W') : wpList Tryd.prog ops Q (o :: rest) a W := by
  refine wpList_plain hgd fun _ hK' => ?_
  obtain ⟨i0, hi, _, hz1, _⟩ := info_parts K.info
  have hk := K.hk y
  have hst := run_storeCells_at (P := Tryd.prog) g off K.e (K.enc y).toList 0 cur W hg (by rw [Array.length_toList, hk]; omega) (fun v hv => Array.all_eq_true'.1 (K.h1 y) v (by simpa using hv))
  have hsv : (storeVar K.e ⟨g, off, none⟩ (.agg (K.enc y))).run Tryd.prog W = .ok () (W.setRow g (cur.toList.take (off + 0) ++ (K.enc y).toList ++ cur.toList.drop (off + 0 + (K.enc y).toList.length)).toArray) := by
    have hs : (K.enc y).size = i0.size := by rw [hk, hz1]
    simp [storeVar, sizeOf, typeInfo, hi, Value.cells, hs, hst]
  unfold Oper.wp execOp
  simp only [ho, hx, hz, Instr.storeAt, Instr.sureAddr, Sem.run_bind, Sem.run_pure, Result.andThen_ok, hsv]
  refine hK' _ _ (hK _ _ (setRow_heap W g cur _ K.e _ hg) ?_ (but_setRow W g _))
  simp only [List.size_toArray, List.length_append, List.length_take, List.length_drop, Array.length_toList, hk]
  omega
end Go.Proofs.YtpcknkpddinccaaDoor.tccl
