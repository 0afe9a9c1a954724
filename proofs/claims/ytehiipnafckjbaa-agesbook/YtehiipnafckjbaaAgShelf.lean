/- slices.Equal of two rows of stays that are read alike; slices.Clone of stays; custref.SameAges. -/
import Derived.Test.YtehiipnafckjbaaAgBase
import Derived.Test.YtehiipnafckjbaaShelfAg
import Derived.Laws.StructEq
namespace Go.Proofs.Ytehiipnafckjbaa.ash
open Go.ChangeShapes Go.WideShapes Go.ChangeAt Go.RowKit Go.BigFrame
open Go.Proofs.Ytehiipnafckjbaa Go.Proofs.Ytehiipnafckjbaa.am Go.Proofs.Ytehiipnafckjbaa.ag Go.Proofs.Ytehiipnafckjbaa.boxes Go.Proofs.Ytehiipnafckjbaa.rwr
open Go.Proofs.Ytehiipnafckjbaa.rws (Knd Own)

def stb (x y : Sy) : Bool := x.r == y.r && x.a == y.a
set_option maxHeartbeats 2000000 in
set_option maxRecDepth 100000 in
theorem neqAg : NeqAt Try.prog 41 (fun x : Sy => .agg (Sy.cells x).toList.toArray) stb := by
  refine ⟨fun x y w => ?_, GuardAt.agg _ (by kernel_rfl)⟩
  have hS : Try.prog.underlying 41 = some (.struct (Try.prog.fieldsOf 41)) := by kernel_rfl
  have hp : Try.prog.stoodInHeld 41 = false := by kernel_rfl
  have u0 := Try.underlying3
  have a0 := Try.isAgg3
  have z0 := Try.sizeOf3
  obtain ⟨a0, a1⟩ := x
  obtain ⟨b0, b1⟩ := y
  simp only [stb]
  rw [run_neq_struct, show (10000 : Nat) = 9999 + 1 from rfl, run_equalIn_agg w 9999 41 _ _ hS hp]
  simp only [Program.fieldsOf, Try.underlying41]
  go_simp
  repeat' split
  all_goals simp_all
theorem stb_self (l : List Sy) : Lib.allEq stb l l = true := by
  induction l with
  | nil => rfl
  | cons x r ih => simp [Lib.allEq, ih, stb]
theorem equal_none (a1 a2 : Option Addr) (c1 c2 : Nat) (w : World) : Calls Try.prog 23 #[.slice a1 0 c1, .slice a2 0 c2] w fun e w' => e = .returned (.bool true) ∧ Below w.heap.size w w' := by
  go_enter Try.func23, Try.ntmps23
  go_wp2
  go_loopg [13] 0 (fun g s13 wr => s13 = .int .i64 0 ∧ wr = w)
  case atStart => exact ⟨rfl, rfl⟩
  case round =>
    obtain ⟨rfl, rfl⟩ := hrel
    go_wp2
    go_ret
    exact ⟨rfl, Below.refl _ _⟩
theorem equal_same (w : World) (v1 v2 : Value) (l : List Sy) (h1 : Rd SK w v1 l) (h2 : Rd SK w v2 l) :
    Calls Try.prog 23 #[v1, v2] w fun e w' => e = .returned (.bool true) ∧ Below w.heap.size w w' := by
  obtain ⟨sa1, sc1, rfl, hm1, hf1, hc1⟩ := h1
  obtain ⟨sa2, sc2, rfl, hm2, hf2, hc2⟩ := h2
  by_cases h0 : 0 < l.length
  · obtain ⟨b1, o1, rfl, hb1, hx1⟩ := hc1 h0
    obtain ⟨b2, o2, rfl, hb2, hx2⟩ := hc2 h0
    have hb : l.length ≤ 9223372036854775807 := by unfold maxLen at hm1; omega
    refine (AnyQ.slices_Equal Try.eqAg 2 Try.isAgg41 Try.sizeOf41 (fun p : Sy => (Sy.cells p).toList) (fun _ => rfl) stb neqAg b1 o1 l.length sc1 b2 o2 l.length sc2 l l w (Nat.le_refl _) (Nat.le_refl _) hb hb (rd_cells (K := SK) hx1) (rd_cells (K := SK) hx2)).mono ?_
    rintro e w' ⟨rfl, q, rfl⟩
    refine ⟨?_, ?_⟩
    · rw [List.take_length, stb_self]
    · exact ⟨rfl, rfl, rfl, Nat.le_refl _, fun _ _ => rfl⟩
  · have e : l.length = 0 := by omega
    rw [e]
    exact equal_none _ _ _ _ w
theorem same_any (n : Int) (v1 v2 : Value) (l : List Sy) (w : World) (h1 : Rd SK w v1 l) (h2 : Rd SK w v2 l) :
    Calls Try.prog 10 #[.agg (AC n v1), .agg (AC n v2)] w fun e w' => e = .returned (.bool true) ∧ Below w.heap.size w w' := by
  have b0 := ((Below.refl w.heap.size w).alloc (Nat.le_refl _) (.cells (AC n v1) 24)).alloc (by simp) (.cells (AC n v2) 24)
  have C := equal_same _ v1 v2 l (h1.below b0) (h2.below b0)
  obtain ⟨sa1, sc1, rfl⟩ := h1.form
  obtain ⟨sa2, sc2, rfl⟩ := h2.form
  clear h1 h2
  generalize l.length = m at *
  go_enter Try.func10, Try.ntmps10
  go_wp2_with fail
  refine C.mono ?_
  rintro e w1 ⟨rfl, b1⟩
  have b2 := b0.trans (b1.mono b0.size)
  clear C b0 b1
  go_wp2_with fail
  go_ret
  exact ⟨rfl, b2⟩
set_option maxRecDepth 20000 in
theorem clone_any (v : Value) (ps : List Sy) (w : World) (h : Rd SK w v ps) (hb : ps.length * 16 ≤ 140737488355328) :
    Calls Try.prog 22 #[v] w fun e w' => ∃ v', e = .returned v' ∧ Own SK w' w.heap.size v' ps ∧ Below w.heap.size w w' := by
  have hm : ps.length ≤ maxLen := by unfold maxLen; omega
  obtain ⟨sa, sc, rfl, hm', hf, hc⟩ := h
  cases sa with
  | none =>
    have e0 := hf.nil rfl
    have e1 := hf.le
    have el : ps = [] := List.eq_nil_of_length_eq_zero (by omega)
    subst el
    refine (AnyE.slices_Clone_nil Try.cloneAg 0 sc w).mono ?_
    rintro e w' ⟨rfl, rfl⟩
    exact ⟨_, rfl, Own.nil _ _ _, Below.refl _ _⟩
  | some a =>
    have b1 := (Below.refl w.heap.size w).alloc (Nat.le_refl _) (.cells #[] 41)
    have hr : Rd SK (w.alloc (.cells #[] 41)) (.slice (some a) ps.length sc) ps := Rd.below ⟨_, _, rfl, hm', hf, hc⟩ b1
    have ow : Own SK (w.alloc (.cells #[] 41)) w.heap.size (.slice (some ⟨w.heap.size, 0, none⟩) 0 0) [] := ⟨rfl, Or.inr ⟨w.heap.size, 0, #[], rfl, Nat.le_refl _, Blk.new _ _ _, Nat.le_refl _, Nat.zero_le _, rfl, rfl⟩⟩
    clear hc
    have q : ∀ (w : World) (a : Option Addr) (n c n' c' : Nat), (binOp .eql 22 (.slice a n c) (.slice none n' c')).run Try.prog w = .ok (.bool a.isNone) w := fun w a n c n' c' => Lib.run_eql_slice_nil w _ _ a n c n' c' Try.underlying22
    go_enter Try.func22, Try.ntmps22
    go_wp2_with (at_builtin; refine app_rd SK _ rfl _ _ rfl w.heap.size _ [] rfl ow (.slice (some a) ps.length sc) ps rfl hr (by simpa using hm) (by show ([].length + ps.length) * 16 ≤ _; simpa using hb) (by simp) ?_)
    intro v4 W4 O4 c4 _
    go_wp2_with fail
    go_ret
    exact ⟨_, rfl, O4, b1.trans c4⟩
end Go.Proofs.Ytehiipnafckjbaa.ash
