/- What slices.Contains of parts answers. -/
import Derived.Test.YtlbpapngcgnepaaFragSmall
namespace Go.Proofs.Ytlbpapngcgnepaa.frha
open Go.ChangeShapes Go.WideShapes Go.ChangeAt Go.RowKit
open Go.Proofs.Ytlbpapngcgnepaa Go.Proofs.Ytlbpapngcgnepaa.boxes Go.Proofs.Ytlbpapngcgnepaa.frp
open Go.Proofs.Ytlbpapngcgnepaa.rws (Own Knd)

def ptb (x y : Pt) : Bool := x.a == y.a && (x.d.toList == y.d.toList && x.la == y.la)
instance : Inhabited Pt := ⟨⟨0, ⟨#[]⟩, false⟩⟩
theorem ptb_iff (x y : Pt) : ptb x y = true ↔ x = y := by
  obtain ⟨a, d, l⟩ := x
  obtain ⟨a', d', l'⟩ := y
  simp only [ptb, Bool.and_eq_true, beq_iff_eq, Pt.mk.injEq]
  constructor
  · rintro ⟨rfl, h, rfl⟩
    refine ⟨rfl, ipm.bytes_ext ?_, rfl⟩
    rw [ByteArray.toList_eq, ByteArray.toList_eq] at h
    exact h
  · rintro ⟨rfl, rfl, rfl⟩
    exact ⟨rfl, rfl, rfl⟩
set_option maxHeartbeats 2000000 in
set_option maxRecDepth 100000 in
theorem eqlPt : EqlAt Try.prog 49 (fun x : Pt => .agg x.cells.toList.toArray) ptb := by
  refine ⟨fun x y w => ?_, GuardAt.agg _ (by kernel_rfl)⟩
  have hS : Try.prog.underlying 49 = some (.struct (Try.prog.fieldsOf 49)) := by kernel_rfl
  have hp : Try.prog.stoodInHeld 49 = false := by kernel_rfl
  have u0 := Try.underlying3
  have u1 := Try.underlying4
  have u3 := Try.underlying9
  have a0 := Try.isAgg3
  have a1 := Try.isAgg4
  have a3 := Try.isAgg9
  have z0 := Try.sizeOf3
  have z1 := Try.sizeOf4
  have z3 := Try.sizeOf9
  obtain ⟨a0, a1, a2⟩ := x
  obtain ⟨b0, b1, b2⟩ := y
  simp only [ptb]
  rw [run_eql_struct, show (10000 : Nat) = 9999 + 1 from rfl, run_equalIn_agg w 9999 49 _ _ hS hp]
  simp only [Program.fieldsOf, Try.underlying49]
  go_simp
  repeat' split
  all_goals simp_all
theorem index_none (sa : Option Addr) (sc : Nat) (q : Pt) (w : World) : Calls Try.prog 59 #[.slice sa 0 sc, .agg q.cells] w fun e w' => e = .returned (.int .i64 (-1)) ∧ Below w.heap.size w w' := by
  have b0 := (Below.refl w.heap.size w).alloc (Nat.le_refl _) (.cells q.cells 49)
  go_enter Try.func59, Try.ntmps59
  go_wp2
  go_loopg [8] 0 (fun g s wr => s = .int .i64 0 ∧ Below w.heap.size w wr)
  case atStart => exact ⟨rfl, b0⟩
  case round =>
    obtain ⟨rfl, bel⟩ := hrel
    go_wp2
    go_ret
    exact ⟨rfl, bel⟩
theorem has_none (sa : Option Addr) (sc : Nat) (q : Pt) (w : World) : Calls Try.prog 31 #[.slice sa 0 sc, .agg q.cells] w fun e w' => e = .returned (.bool false) ∧ Below w.heap.size w w' := by
  have b0 := (Below.refl w.heap.size w).alloc (Nat.le_refl _) (.cells q.cells 49)
  have F0 := Blk.new w q.cells 49
  have CI := fun u => index_none sa sc q u
  obtain ⟨qa, qd, ql⟩ := q
  go_enter Try.func31, Try.ntmps31
  go_wp2_with fail
  refine (CI _).mono ?_
  rintro e w1 ⟨rfl, c1⟩
  go_wp2_with fail
  go_ret
  exact ⟨rfl, b0.trans (c1.mono b0.size)⟩
theorem has_any (v : Value) (ps : List Pt) (q : Pt) (w : World) (hr : Rd TK w v ps) :
    Calls Try.prog 31 #[v, .agg q.cells] w fun e w' => e = .returned (.bool (ps.any (ptb q))) ∧ Below w.heap.size w w' := by
  obtain ⟨sa, sc, rfl, hm, hf, hc⟩ := hr
  by_cases h0 : 0 < ps.length
  · obtain ⟨b, off, rfl, hb, hx⟩ := hc h0
    refine (AnyQ.slices_Contains Try.hasPt 3 Try.isAgg49 Try.sizeOf49 (fun x : Pt => x.cells.toList) (fun _ => rfl) ptb eqlPt b off ps.length sc ps q w (Nat.le_refl _) (by unfold maxLen at hm; omega) (rd_cells (K := TK) hx)).mono ?_
    rintro e w' ⟨rfl, hb'⟩
    refine ⟨?_, hb'⟩
    rw [List.take_length]
  · have : ps = [] := List.eq_nil_of_length_eq_zero (by omega)
    subst this
    exact has_none sa sc q w
end Go.Proofs.Ytlbpapngcgnepaa.frha
