/- slices.Equal of rows of nets, and of numbers. -/
import Derived.Test.YtiddpkppfpdfhaaPfAny0
import Derived.Test.YtiddpkppfpdfhaaPrRem
namespace Go.Proofs.Ytiddpkppfpdfhaa.pf
open Go.ChangeShapes Go.WideShapes Go.ChangeAt Go.RowKit Go.BigFrame
open Go.Proofs.Ytiddpkppfpdfhaa Go.Proofs.Ytiddpkppfpdfhaa.pm Go.Proofs.Ytiddpkppfpdfhaa.boxes Go.Proofs.Ytiddpkppfpdfhaa.rwr
open Go.Proofs.Ytiddpkppfpdfhaa.rws (Knd Own)

def ntb (x y : Nt) : Bool := ((x.a : Int) == (y.a : Int)) && x.l == y.l
theorem ntb_eq (x y : Nt) : ntb x y = true ↔ x = y := by
  obtain ⟨a, b⟩ := x
  obtain ⟨a', b'⟩ := y
  simp [ntb]
  omega
instance : DecidableEq Nt := fun x y => if h : ntb x y = true then isTrue ((ntb_eq x y).1 h) else isFalse fun e => h ((ntb_eq x y).2 e)
instance : Inhabited Nt := ⟨⟨0, 0⟩⟩
set_option maxHeartbeats 2000000 in
set_option maxRecDepth 100000 in
theorem neqNt : NeqAt Try.prog 27 (fun x : Nt => .agg (Nt.cells x).toList.toArray) ntb := by
  refine ⟨fun x y w => ?_, GuardAt.agg _ (by kernel_rfl)⟩
  have hS : Try.prog.underlying 27 = some (.struct (Try.prog.fieldsOf 27)) := by kernel_rfl
  have hp : Try.prog.stoodInHeld 27 = false := by kernel_rfl
  have u0 := Try.underlying3
  have a0 := Try.isAgg3
  have z0 := Try.sizeOf3
  have u1 := Try.underlying25
  have a1 := Try.isAgg25
  have z1 := Try.sizeOf25
  obtain ⟨xa, xb⟩ := x
  obtain ⟨ya, yb⟩ := y
  simp only [ntb]
  rw [run_neq_struct, show (10000 : Nat) = 9999 + 1 from rfl, run_equalIn_agg w 9999 27 _ _ hS hp]
  simp only [Program.fieldsOf, Try.underlying27]
  clear hS hp
  go_simp
  repeat' split
  all_goals simp_all
theorem allEq_nt : ∀ (l m : List Nt), Lib.allEq ntb l m = decide (l = m)
  | [], [] => rfl
  | [], _ :: _ => rfl
  | _ :: _, [] => rfl
  | x :: l, y :: m => by
    show (ntb x y && Lib.allEq ntb l m) = _
    rw [allEq_nt l m, Bool.eq_iff_iff]
    simp only [Bool.and_eq_true, decide_eq_true_eq, ntb_eq, List.cons.injEq]
theorem equalT_none (a1 a2 : Option Addr) (c1 c2 : Nat) (w : World) : Calls Try.prog 21 #[.slice a1 0 c1, .slice a2 0 c2] w fun e w' => e = .returned (.bool true) ∧ Below w.heap.size w w' := by
  go_enter Try.func21, Try.ntmps21
  go_wp2
  go_loopg [13] 0 (fun g s13 wr => s13 = .int .i64 0 ∧ wr = w)
  case atStart => exact ⟨rfl, rfl⟩
  case round =>
    obtain ⟨rfl, rfl⟩ := hrel
    go_wp2
    go_ret
    exact ⟨rfl, Below.refl _ _⟩
theorem equalT_len (a1 a2 : Option Addr) (n1 n2 c1 c2 : Nat) (w : World) (h : n1 ≠ n2) : Calls Try.prog 21 #[.slice a1 n1 c1, .slice a2 n2 c2] w fun e w' => e = .returned (.bool false) ∧ Below w.heap.size w w' := by
  go_enter Try.func21, Try.ntmps21
  go_wp2_with fail
  go_ret
  exact ⟨rfl, Below.refl _ _⟩
theorem equalT_any (w : World) (v1 v2 : Value) (l m : List Nt) (h1 : Rd TK w v1 l) (h2 : Rd TK w v2 m) :
    Calls Try.prog 21 #[v1, v2] w fun e w' => e = .returned (.bool (decide (l = m))) ∧ Below w.heap.size w w' := by
  obtain ⟨sa1, sc1, rfl, hm1, hf1, hc1⟩ := h1
  obtain ⟨sa2, sc2, rfl, hm2, hf2, hc2⟩ := h2
  by_cases hl : l.length = m.length
  · by_cases h0 : 0 < l.length
    · obtain ⟨b1, o1, rfl, hb1, hx1⟩ := hc1 h0
      obtain ⟨b2, o2, rfl, hb2, hx2⟩ := hc2 (by omega)
      have hb : l.length ≤ 9223372036854775807 := by unfold maxLen at hm1; omega
      have hb' : m.length ≤ 9223372036854775807 := by omega
      refine (AnyQ.slices_Equal Try.eqNt 2 Try.isAgg27 Try.sizeOf27 (fun p : Nt => (Nt.cells p).toList) (fun _ => rfl) ntb neqNt b1 o1 l.length sc1 b2 o2 m.length sc2 l m w (Nat.le_refl _) (Nat.le_refl _) hb hb' (rd_cells (K := TK) hx1) (rd_cells (K := TK) hx2)).mono ?_
      rintro e w' ⟨rfl, q, rfl⟩
      refine ⟨?_, ?_⟩
      · rw [List.take_length, List.take_length, allEq_nt]
      · exact ⟨rfl, rfl, rfl, Nat.le_refl _, fun _ _ => rfl⟩
    · have e : l = [] := List.eq_nil_of_length_eq_zero (by omega)
      have e2 : m = [] := List.eq_nil_of_length_eq_zero (by omega)
      subst e; subst e2
      exact equalT_none _ _ _ _ w
  · have : decide (l = m) = false := decide_eq_false fun e => hl (by rw [e])
    rw [this]
    exact equalT_len _ _ _ _ _ _ w hl
theorem equalN_none (a1 a2 : Option Addr) (c1 c2 : Nat) (w : World) : Calls Try.prog 22 #[.slice a1 0 c1, .slice a2 0 c2] w fun e w' => e = .returned (.bool true) ∧ Below w.heap.size w w' := by
  go_enter Try.func22, Try.ntmps22
  go_wp2
  go_loopg [13] 0 (fun g s13 wr => s13 = .int .i64 0 ∧ wr = w)
  case atStart => exact ⟨rfl, rfl⟩
  case round =>
    obtain ⟨rfl, rfl⟩ := hrel
    go_wp2
    go_ret
    exact ⟨rfl, Below.refl _ _⟩
theorem equalN_len (a1 a2 : Option Addr) (n1 n2 c1 c2 : Nat) (w : World) (h : n1 ≠ n2) : Calls Try.prog 22 #[.slice a1 n1 c1, .slice a2 n2 c2] w fun e w' => e = .returned (.bool false) ∧ Below w.heap.size w w' := by
  go_enter Try.func22, Try.ntmps22
  go_wp2_with fail
  go_ret
  exact ⟨rfl, Below.refl _ _⟩
theorem nk_cells {w : World} {b off : Nat} {l : List Int} (h : ∀ j x, l[j]? = some x → ∀ i, i < NK.k → w.cell? ⟨b, off + j * NK.k + i, none⟩ = (NK.enc x)[i]?) : ∀ j, j < l.length → w.cell? ⟨b, off + j, none⟩ = some (.int .i64 (l.getD j 0)) := fun j hj => by
  have := h j (l[j]'hj) (List.getElem?_eq_getElem hj) 0 (by decide)
  rw [show NK.k = 1 from rfl] at this
  rw [List.getD_eq_getElem?_getD, List.getElem?_eq_getElem hj]
  simpa [NK] using this
theorem equalN_any (w : World) (v1 v2 : Value) (l m : List Int) (h1 : Rd NK w v1 l) (h2 : Rd NK w v2 m) :
    Calls Try.prog 22 #[v1, v2] w fun e w' => e = .returned (.bool (decide (l = m))) ∧ Below w.heap.size w w' := by
  obtain ⟨sa1, sc1, rfl, hm1, hf1, hc1⟩ := h1
  obtain ⟨sa2, sc2, rfl, hm2, hf2, hc2⟩ := h2
  by_cases hl : l.length = m.length
  · by_cases h0 : 0 < l.length
    · obtain ⟨b1, o1, rfl, hb1, hx1⟩ := hc1 h0
      obtain ⟨b2, o2, rfl, hb2, hx2⟩ := hc2 (by omega)
      have hb : l.length ≤ 9223372036854775807 := by unfold maxLen at hm1; omega
      have hb' : m.length ≤ 9223372036854775807 := by omega
      refine (Try.slices_Equal_int b1 o1 l.length sc1 b2 o2 m.length sc2 l m w (Nat.le_refl _) (Nat.le_refl _) hb hb' (nk_cells hx1) (nk_cells hx2)).mono ?_
      rintro e w' ⟨rfl, q, rfl⟩
      refine ⟨?_, ?_⟩
      · rw [List.take_length, List.take_length]
        exact congrArg (fun b => Ending.returned (.bool b)) (by rw [Bool.eq_iff_iff]; simp)
      · exact ⟨rfl, rfl, rfl, Nat.le_refl _, fun _ _ => rfl⟩
    · have e : l = [] := List.eq_nil_of_length_eq_zero (by omega)
      have e2 : m = [] := List.eq_nil_of_length_eq_zero (by omega)
      subst e; subst e2
      exact equalN_none _ _ _ _ w
  · have : decide (l = m) = false := decide_eq_false fun e => hl (by rw [e])
    rw [this]
    exact equalN_len _ _ _ _ _ _ w hl
end Go.Proofs.Ytiddpkppfpdfhaa.pf
