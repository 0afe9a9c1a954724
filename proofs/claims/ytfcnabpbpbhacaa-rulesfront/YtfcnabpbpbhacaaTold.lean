/- Operations of a region that are told (Spec): a call, a slice of two or four ints that is built, a variable that is made; by the values of their operands. -/
import Derived.Test.YtfcnabpbpbhacaaSpec
import Derived.Test.YtfcnabpbpbhacaaRows
import Derived.WalkKit
import Derived.ProofKit
namespace Go.Proofs.Ytfcnabpbpbhacaa.told
open Go Go.RowKit
section
variable {o : Oper} {a : Act} {w : World} {R : Value → World → Prop}
theorem call0 (f : FuncId) (ts : Array TypeId) (hop : o.op = .call { callee := .value (.func f), args := #[], argTypes := ts }) (hent : ∀ args w, (callFunc f args).run Try.prog w = .ok (.enter f args) w)
    (h : Calls Try.prog f #[] w fun e w' => ∃ v, e = .returned v ∧ R v w') : spc.yieldsTo Try.prog o a w R := by
  have hf : a.eval (.func f) = Value.func (Fn.func f) #[] #[] := rfl
  unfold spc.yieldsTo
  generalize a.eval = E at *
  simp [execOp, hop, hf, resolve, invoke, go_sem, hent]
  exact h
theorem call1 (f : FuncId) (x : Operand) (ts : Array TypeId) (v : Value) (hop : o.op = .call { callee := .value (.func f), args := #[x], argTypes := ts }) (hent : ∀ args w, (callFunc f args).run Try.prog w = .ok (.enter f args) w) (he : a.eval x = v)
    (h : Calls Try.prog f #[v] w fun e w' => ∃ v, e = .returned v ∧ R v w') : spc.yieldsTo Try.prog o a w R := by
  have hf : a.eval (.func f) = Value.func (Fn.func f) #[] #[] := rfl
  unfold spc.yieldsTo
  generalize a.eval = E at *
  simp [execOp, hop, hf, resolve, invoke, go_sem, he, hent]
  exact h
theorem call2 (f : FuncId) (x y : Operand) (ts : Array TypeId) (v u : Value) (hop : o.op = .call { callee := .value (.func f), args := #[x, y], argTypes := ts }) (hent : ∀ args w, (callFunc f args).run Try.prog w = .ok (.enter f args) w) (he : a.eval x = v) (he' : a.eval y = u)
    (h : Calls Try.prog f #[v, u] w fun e w' => ∃ v, e = .returned v ∧ R v w') : spc.yieldsTo Try.prog o a w R := by
  have hf : a.eval (.func f) = Value.func (Fn.func f) #[] #[] := rfl
  unfold spc.yieldsTo
  generalize a.eval = E at *
  simp [execOp, hop, hf, resolve, invoke, go_sem, he, he', hent]
  exact h
theorem call3 (f : FuncId) (x y z : Operand) (ts : Array TypeId) (v u t : Value) (hop : o.op = .call { callee := .value (.func f), args := #[x, y, z], argTypes := ts }) (hent : ∀ args w, (callFunc f args).run Try.prog w = .ok (.enter f args) w) (he : a.eval x = v) (he' : a.eval y = u) (hz : a.eval z = t)
    (h : Calls Try.prog f #[v, u, t] w fun e w' => ∃ v, e = .returned v ∧ R v w') : spc.yieldsTo Try.prog o a w R := by
  have hf : a.eval (.func f) = Value.func (Fn.func f) #[] #[] := rfl
  unfold spc.yieldsTo
  generalize a.eval = E at *
  simp [execOp, hop, hf, resolve, invoke, go_sem, he, he', hz, hent]
  exact h
theorem call4 (f : FuncId) (x y z p : Operand) (ts : Array TypeId) (v u t s : Value) (hop : o.op = .call { callee := .value (.func f), args := #[x, y, z, p], argTypes := ts }) (hent : ∀ args w, (callFunc f args).run Try.prog w = .ok (.enter f args) w) (he : a.eval x = v) (he' : a.eval y = u) (hz : a.eval z = t) (hp : a.eval p = s)
    (h : Calls Try.prog f #[v, u, t, s] w fun e w' => ∃ v, e = .returned v ∧ R v w') : spc.yieldsTo Try.prog o a w R := by
  have hf : a.eval (.func f) = Value.func (Fn.func f) #[] #[] := rfl
  unfold spc.yieldsTo
  generalize a.eval = E at *
  simp [execOp, hop, hf, resolve, invoke, go_sem, he, he', hz, hp, hent]
  exact h
theorem build2 (x y : Operand) (m n : Int) (hop : o.op = .buildSlice 61 2 #[(0, x), (1, y)]) (h0 : a.eval x = .int .i64 m) (h1 : a.eval y = .int .i64 n)
    (h : R (.slice (some ⟨w.heap.size, 0, none⟩) 2 2) (w.alloc (.cells #[.int .i64 m, .int .i64 n] 3))) : spc.yieldsTo Try.prog o a w R := by
  unfold spc.yieldsTo
  generalize a.eval = E at *
  simp [execOp, hop, h0, h1, go_sem]
  exact h
theorem build4 (x y z u : Operand) (m n p q : Int) (hop : o.op = .buildSlice 61 4 #[(0, x), (1, y), (2, z), (3, u)]) (h0 : a.eval x = .int .i64 m) (h1 : a.eval y = .int .i64 n) (h2 : a.eval z = .int .i64 p) (h3 : a.eval u = .int .i64 q)
    (h : R (.slice (some ⟨w.heap.size, 0, none⟩) 4 4) (w.alloc (.cells #[.int .i64 m, .int .i64 n, .int .i64 p, .int .i64 q] 3))) : spc.yieldsTo Try.prog o a w R := by
  unfold spc.yieldsTo
  generalize a.eval = E at *
  simp [execOp, hop, h0, h1, h2, h3, go_sem]
  exact h
end
end Go.Proofs.Ytfcnabpbpbhacaa.told
