/- slices.Equal of two rows of options that are read alike; custref.SameSegment. -/
import Derived.Test.YtpcknkpddinccaaDoorTcpBase
import Derived.Test.YtpcknkpddinccaaDoorShelfOp
import Derived.Laws.StructEq
namespace Go.Proofs.YtpcknkpddinccaaDoor.tcs
open Go.ChangeShapes Go.WideShapes Go.ChangeAt Go.RowKit
open Go.Proofs.YtpcknkpddinccaaDoor Go.Proofs.YtpcknkpddinccaaDoor.ipb Go.Proofs.YtpcknkpddinccaaDoor.boxes Go.Proofs.YtpcknkpddinccaaDoor.tcb Go.Proofs.YtpcknkpddinccaaDoor.rwr
open Go.Proofs.YtpcknkpddinccaaDoor.rws (Own Knd)

def opb (x y : Opt) : Bool := x.ki == y.ki && x.d.toList == y.d.toList
set_option maxHeartbeats 2000000 in
set_option maxRecDepth 100000 in
theorem neqOp : NeqAt Tryd.prog 40 (fun x : Opt => .agg x.cells.toList.toArray) opb := by
  refine ⟨fun x y w => ?_, GuardAt.agg _ (by kernel_rfl)⟩
  have hS : Tryd.prog.underlying 40 = some (.struct (Tryd.prog.fieldsOf 40)) := by kernel_rfl
  have hp : Tryd.prog.stoodInHeld 40 = false := by kernel_rfl
  have u0 := Tryd.underlying3
  have u3 := Tryd.underlying9
  have a0 := Tryd.isAgg3
  have a3 := Tryd.isAgg9
  have z0 := Tryd.sizeOf3
  have z3 := Tryd.sizeOf9
  obtain ⟨a0, a1⟩ := x
  obtain ⟨b0, b1⟩ := y
  simp only [opb]
  rw [run_neq_struct, show (10000 : Nat) = 9999 + 1 from rfl, run_equalIn_agg w 9999 40 _ _ hS hp]
  simp only [Program.fieldsOf, Tryd.underlying40]
  go_simp
  repeat' split
  all_goals simp_all
theorem opb_self (l : List Opt) : Lib.allEq opb l l = true := by
  induction l with
  | nil => rfl
  | cons x r ih => simp [Lib.allEq, ih, opb]
theorem equal_none (a1 a2 : Option Addr) (c1 c2 : Nat) (w : World) : Calls Tryd.prog 16 #[.slice a1 0 c1, .slice a2 0 c2] w fun e w' => e = .returned (.bool true) ∧ Below w.heap.size w w' := by
  go_enter Tryd.func16, Tryd.ntmps16
  go_wp2
  go_loopg [13] 0 (fun g s13 wr => s13 = .int .i64 0 ∧ wr = w)
  case atStart => exact ⟨rfl, rfl⟩
  case round =>
    obtain ⟨rfl, rfl⟩ := hrel
    go_wp2
    go_ret
    exact ⟨rfl, Below.refl _ _⟩
theorem equal_same (w : World) (v1 v2 : Value) (l : List Opt) (h1 : Rd OK w v1 l) (h2 : Rd OK w v2 l) :
    Calls Tryd.prog 16 #[v1, v2] w fun e w' => e = .returned (.bool true) ∧ Below w.heap.size w w' := by
  obtain ⟨sa1, sc1, rfl, hm1, hf1, hc1⟩ := h1
  obtain ⟨sa2, sc2, rfl, hm2, hf2, hc2⟩ := h2
  by_cases h0 : 0 < l.length
  · obtain ⟨b1, o1, rfl, hb1, hx1⟩ := hc1 h0
    obtain ⟨b2, o2, rfl, hb2, hx2⟩ := hc2 h0
    have hb : l.length ≤ 9223372036854775807 := by unfold maxLen at hm1; omega
    refine (AnyQ.slices_Equal Tryd.eqOp 2 Tryd.isAgg40 Tryd.sizeOf40 (fun p : Opt => p.cells.toList) (fun _ => rfl) opb neqOp b1 o1 l.length sc1 b2 o2 l.length sc2 l l w (Nat.le_refl _) (Nat.le_refl _) hb hb (rd_cells (K := OK) hx1) (rd_cells (K := OK) hx2)).mono ?_
    rintro e w' ⟨rfl, q, rfl⟩
    refine ⟨?_, ?_⟩
    · rw [List.take_length, opb_self]
    · exact ⟨rfl, rfl, rfl, Nat.le_refl _, fun _ _ => rfl⟩
  · have e : l.length = 0 := by omega
    rw [e]
    exact equal_none _ _ _ _ w
set_option maxHeartbeats 1000000 in
theorem same_any (h : Sh) (v1 v2 : Value) (os : List Opt) (w : World) (h1 : Rd OK w v1 os) (h2 : Rd OK w v2 os) :
    Calls Tryd.prog 12 #[.agg (h.cells v1), .agg (h.cells v2)] w fun e w' => e = .returned (.bool true) ∧ Below w.heap.size w w' := by
  have b0 := ((Below.refl w.heap.size w).alloc (Nat.le_refl _) (.cells (h.cells v1) 25)).alloc (by simp) (.cells (h.cells v2) 25)
  have C := equal_same _ v1 v2 os (h1.below b0) (h2.below b0)
  obtain ⟨sa1, sc1, rfl⟩ := h1.form
  obtain ⟨sa2, sc2, rfl⟩ := h2.form
  clear h1 h2
  generalize os.length = n at *
  go_enter Tryd.func12, Tryd.ntmps12
  go_wp2_with fail
  refine C.mono ?_
  rintro e w1 ⟨rfl, b1⟩
  have b2 := b0.trans (b1.mono b0.size)
  clear C b0 b1
  go_wp2_with fail
  go_ret
  exact ⟨rfl, b2⟩
end Go.Proofs.YtpcknkpddinccaaDoor.tcs
