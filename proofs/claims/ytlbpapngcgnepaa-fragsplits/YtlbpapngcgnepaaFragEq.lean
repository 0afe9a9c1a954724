/- slices.Equal of two rows that hold the same packets. -/
import Derived.Test.YtlbpapngcgnepaaFragBase
import Derived.Test.YtlbpapngcgnepaaShelfEq
import Derived.Laws.StructEq
namespace Go.Proofs.Ytlbpapngcgnepaa.freq
open Go.ChangeShapes Go.WideShapes Go.ChangeAt Go.RowKit
open Go.Proofs.Ytlbpapngcgnepaa Go.Proofs.Ytlbpapngcgnepaa.ipb Go.Proofs.Ytlbpapngcgnepaa.boxes Go.Proofs.Ytlbpapngcgnepaa.frb
open Go.Proofs.Ytlbpapngcgnepaa.rws (Own Knd)

def pkb (x y : Pk) : Bool := x.tos == y.tos && (x.id == y.id && (x.wh == y.wh && (x.mo == y.mo && (x.st == y.st && (x.li == y.li && (x.pr == y.pr && (x.fr == y.fr && (x.to == y.to && (x.o.toList == y.o.toList && x.d.toList == y.d.toList)))))))))
instance : Inhabited Pk := ⟨zeroP⟩
set_option maxHeartbeats 2000000 in
set_option maxRecDepth 100000 in
theorem neqPk : NeqAt Try.prog 24 (fun x : Pk => .agg x.cells.toList.toArray) pkb := by
  refine ⟨fun x y w => ?_, GuardAt.agg _ (by kernel_rfl)⟩
  have hS : Try.prog.underlying 24 = some (.struct (Try.prog.fieldsOf 24)) := by kernel_rfl
  have hp : Try.prog.stoodInHeld 24 = false := by kernel_rfl
  have u0 := Try.underlying3
  have u1 := Try.underlying4
  have u2 := Try.underlying22
  have u3 := Try.underlying9
  have a0 := Try.isAgg3
  have a1 := Try.isAgg4
  have a2 := Try.isAgg22
  have a3 := Try.isAgg9
  have z0 := Try.sizeOf3
  have z1 := Try.sizeOf4
  have z2 := Try.sizeOf22
  have z3 := Try.sizeOf9
  obtain ⟨a0, a1, a2, a3, a4, a5, a6, a7, a8, a9, a10⟩ := x
  obtain ⟨b0, b1, b2, b3, b4, b5, b6, b7, b8, b9, b10⟩ := y
  simp only [pkb]
  rw [run_neq_struct, show (10000 : Nat) = 9999 + 1 from rfl, run_equalIn_agg w 9999 24 _ _ hS hp]
  simp only [Program.fieldsOf, Try.underlying24]
  go_simp
  repeat' split
  all_goals simp_all
theorem pkb_self (l : List Pk) : Lib.allEq pkb l l = true := by
  induction l with
  | nil => rfl
  | cons x r ih => simp [Lib.allEq, ih, pkb]
/-- the cells of a row, element by element -/
theorem row_cells {α : Type} [Inhabited α] {K : Knd α} {w : World} {B g n cap : Nat} {l : List α} (h : Own K w B (.slice (some ⟨g, 0, none⟩) n cap) l) :
    ∀ j, j < l.length → ∀ i v, ((K.enc l[j]!).toList)[i]? = some v → w.cell? ⟨g, 0 + j * K.k + i, none⟩ = some v := by
  intro j hj i v hv
  have hi : i < K.k := by
    have := (List.getElem?_eq_some_iff.1 hv).1
    rwa [Array.length_toList, K.hk] at this
  have hl : l[j]? = some l[j]! := by rw [List.getElem?_eq_getElem hj, List.getElem!_eq_getElem?_getD, List.getElem?_eq_getElem hj]; rfl
  rw [Nat.zero_add, h.cell hl hi]
  simpa using hv
theorem own_len {α : Type} {K : Knd α} {w : World} {B g n cap : Nat} {l : List α} (h : Own K w B (.slice (some ⟨g, 0, none⟩) n cap) l) : n = l.length := by
  rcases h.forms with ⟨e, _⟩ | ⟨g', cap', e, _⟩
  · simp at e
  · simp only [Value.slice.injEq] at e; exact e.2.1
theorem equal_none (a1 a2 : Option Addr) (c1 c2 : Nat) (w : World) : Calls Try.prog 11 #[.slice a1 0 c1, .slice a2 0 c2] w fun e w' => e = .returned (.bool true) ∧ Below w.heap.size w w' := by
  go_enter Try.func11, Try.ntmps11
  go_wp2
  go_loopg [13] 0 (fun g s13 wr => s13 = .int .i64 0 ∧ wr = w)
  case atStart => exact ⟨rfl, rfl⟩
  case round =>
    obtain ⟨rfl, rfl⟩ := hrel
    go_wp2
    go_ret
    exact ⟨rfl, Below.refl _ _⟩
theorem equal_same (w : World) (B1 B2 : Nat) (v1 v2 : Value) (l : List Pk) (h1 : Own PK w B1 v1 l) (h2 : Own PK w B2 v2 l) :
    Calls Try.prog 11 #[v1, v2] w fun e w' => e = .returned (.bool true) ∧ Below w.heap.size w w' := by
  rcases h1.forms with ⟨rfl, rfl⟩ | ⟨g1, c1, rfl, _, _, _, m1⟩
  · rcases h2.forms with ⟨rfl, _⟩ | ⟨g2, c2, rfl, _⟩
    · exact equal_none _ _ _ _ w
    · exact equal_none _ _ _ _ w
  · rcases h2.forms with ⟨rfl, rfl⟩ | ⟨g2, c2, rfl, _⟩
    · exact equal_none _ _ _ _ w
    · have hb : l.length ≤ 9223372036854775807 := by unfold maxLen at m1; omega
      refine (AnyQ.slices_Equal Try.eqPk 11 Try.isAgg24 Try.sizeOf24 (fun p : Pk => p.cells.toList) (fun _ => rfl) pkb neqPk g1 0 l.length c1 g2 0 l.length c2 l l w (Nat.le_refl _) (Nat.le_refl _) hb hb (row_cells (K := PK) h1) (row_cells (K := PK) h2)).mono ?_
      rintro e w' ⟨rfl, q, rfl⟩
      refine ⟨?_, ?_⟩
      · rw [List.take_length, pkb_self]
      · exact ⟨rfl, rfl, rfl, Nat.le_refl _, fun _ _ => rfl⟩
end Go.Proofs.Ytlbpapngcgnepaa.freq
