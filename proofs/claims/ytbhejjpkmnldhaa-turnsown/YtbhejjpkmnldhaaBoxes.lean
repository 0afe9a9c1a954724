/- Blocks that are known whole: how they are kept while calls make others, and while others are written; loads, stores and results of a whole block. -/
import Derived.Test.YtbhejjpkmnldhaaRows
import Derived.WalkKit
import Derived.ProofKit
import Derived.Below
import Derived.Laws.Rows
import Derived.Laws.ResultCell
import Derived.Lib.SmallJoins
import Derived.Deep.Draws
namespace Go.Proofs.Ytbhejjpkmnldhaa.boxes
open Go.ChangeShapes Go.WideShapes Go.ChangeAt Go.RowKit

/-- block b of W is the cells F, none of them frozen -/
def Blk (W : World) (b : Nat) (F : Array Value) (t : TypeId) : Prop := W.heap[b]? = some (.cells F t (0, 0))
theorem Blk.lt {W : World} {b : Nat} {F : Array Value} {t : TypeId} (h : Blk W b F t) : b < W.heap.size := (Array.getElem?_eq_some_iff.1 h).1
theorem Blk.cell {W : World} {b : Nat} {F : Array Value} {t : TypeId} (h : Blk W b F t) (o : Nat) : W.cell? ⟨b, o, none⟩ = F[o]? := Joins.cell_of_block h o
theorem Blk.free {W : World} {b : Nat} {F : Array Value} {t : TypeId} (h : Blk W b F t) (o : Nat) : W.frozen? ⟨b, o, none⟩ = false := Joins.unfrozen_of_block h o
theorem Blk.newAt (W : World) (F : Array Value) (t : TypeId) {b : Nat} (hb : b = W.heap.size) : Blk (W.alloc (.cells F t)) b F t := by subst hb; exact heap_alloc_new W _
theorem Blk.new (W : World) (F : Array Value) (t : TypeId) : Blk (W.alloc (.cells F t)) W.heap.size F t := heap_alloc_new W _
theorem Blk.alloc {W : World} {b : Nat} {F : Array Value} {t : TypeId} (h : Blk W b F t) (o : Obj) : Blk (W.alloc o) b F t := (Below.heap_alloc W o b h.lt).trans h
theorem Blk.drew {W : World} {b : Nat} {F : Array Value} {t : TypeId} (h : Blk W b F t) : Blk W.drew b F t := h
theorem Blk.drewN {W : World} {b : Nat} {F : Array Value} {t : TypeId} (h : Blk W b F t) (n : Nat) : Blk (W.drewN n) b F t := h
theorem Blk.below {W w' : World} {B b : Nat} {F : Array Value} {t : TypeId} (h : Blk W b F t) (hb : Below B W w') (hB : b < B) : Blk w' b F t := (hb.block b hB).trans h

/-- W' is W but for the block b -/
structure But (b : Nat) (W W' : World) : Prop where
  os : W'.os = W.os
  tape : W'.tape = W.tape
  output : W'.output = W.output
  size : W'.heap.size = W.heap.size
  block : ∀ k, k ≠ b → W'.heap[k]? = W.heap[k]?
theorem But.below {b B : Nat} {w W W' : World} (h : But b W W') (hb : Below B w W) (hB : B ≤ b) : Below B w W' :=
  hb.trans ⟨h.os, h.tape, h.output, by rw [h.size]; exact Nat.le_refl _, fun k hk => h.block k (by omega)⟩
theorem But.blk {b c : Nat} {W W' : World} {F : Array Value} {t : TypeId} (h : But b W W') (k : Blk W c F t) (hc : c ≠ b) : Blk W' c F t := (h.block c hc).trans k
theorem but_setRow (W : World) (b : Nat) (G : Array Value) : But b W (W.setRow b G) := ⟨rfl, rfl, rfl, by simp, fun k hk => setRow_other W b k _ (fun e => hk e)⟩
theorem but_setCell (W : World) (b i : Nat) (v : Value) : But b W (W.setCell ⟨b, i, none⟩ v) :=
  ⟨rfl, rfl, rfl, by simp [World.setCell], fun k hk => Below.heap_setCell W ⟨b, i, none⟩ v k hk⟩
theorem Blk.setCell {W : World} {b : Nat} {F : Array Value} {t : TypeId} (h : Blk W b F t) (i : Nat) (v : Value) : Blk (W.setCell ⟨b, i, none⟩ v) b (F.setIfInBounds i v) t := Joins.block_setCell h v

/-- a struct or an array -/
def wideD (d : TypeDesc) : Bool := match d with | .struct _ | .array _ _ => true | _ => false

section
variable {ops : Array Oper} {rest : List Oper} {o : Oper} {a : Act} {Q : Exit → Act → World → Prop}
/-- a whole block is loaded -/
theorem blk_load (W : World) (hgd : o.guard = none) (ty : TypeId) (x : Operand) (ho : o.op = .load ty x) (b : Nat) (hx : a.eval x = .pointer (some ⟨b, 0, none⟩)) (F : Array Value) (t : TypeId) (h : Blk W b F t)
    (d : TypeDesc) (hu : Try.prog.underlying ty = some d) (hd : wideD d = true) (n : Nat) (hi : (Try.prog.info? ty).map (·.size) = some n) (hn : F.size = n)
    (hK : wpList Try.prog ops Q rest (a.put o.dst (.agg F)) W) : wpList Try.prog ops Q (o :: rest) a W :=
  wpList_load_row hgd ty x ho b hx t F (0, 0) d h hu (by cases d <;> first | rfl | cases hd) (by rw [hn]; exact hi) hK
/-- a whole block is stored -/
theorem blk_store (W : World) (hgd : o.guard = none) (ty : TypeId) (x y : Operand) (ho : o.op = .store ty x y) (b : Nat) (G : Array Value) (hx : a.eval x = .pointer (some ⟨b, 0, none⟩)) (hy : a.eval y = .agg G) (F : Array Value) (t : TypeId) (h : Blk W b F t)
    (n : Nat) (hi : (Try.prog.info? ty).map (·.size) = some n) (hs : F.size = n) (hn : G.size = n) (h1 : G.all (·.oneCell') = true)
    (hK : ∀ W', Blk W' b G t → But b W W' → wpList Try.prog ops Q rest (a.put o.dst undef) W') : wpList Try.prog ops Q (o :: rest) a W :=
  wpList_store_row hgd ty x y ho b G hx hy t F h (by rw [hn]; exact hi) (by rw [hn]; exact hs) h1 (hK _ (setRow_heap W b F G t _ h) (but_setRow W b G))
end

/-- results: a block and a slot -/
theorem blk_ret2 {fn : Func} {p u : Tmp} {ty : TypeId} {R : Ending → World → Prop} {a : Act} {W : World} (h : fn.results = #[.cell p ty, .tmp u]) (hd : a.defers = []) (b : Nat) (F : Array Value) (t : TypeId) (hp : a.tmps.getD p undef = .pointer (some ⟨b, 0, none⟩)) (k : Blk W b F t)
    (d : TypeDesc) (hu : Try.prog.underlying ty = some d) (hdd : wideD d = true) (n : Nat) (hi : (Try.prog.info? ty).map (·.size) = some n) (hn : F.size = n)
    (hR : R (.returned (.tuple #[.agg F, a.tmps.getD u undef])) W) : bodyPost Try.prog fn R .ret a W := by
  refine bodyPost_ret (v := .tuple #[.agg F, a.tmps.getD u undef]) ?_ hd hR
  rw [results_cell_tmp h, hp]
  simp [asAddr, Result.andThen, run_loadVar_row W b t ty F (0, 0) d k hu (by cases d <;> first | rfl | cases hdd) (by rw [hn]; exact hi)]
end Go.Proofs.Ytbhejjpkmnldhaa.boxes
