/- slices.Clone of parts. -/
import Derived.Test.YtlbpapngcgnepaaPoolLaws
import Derived.Test.YtlbpapngcgnepaaShelf
namespace Go.Proofs.Ytlbpapngcgnepaa.frcl
open Go.ChangeShapes Go.WideShapes Go.ChangeAt Go.RowKit Go.BigFrame
open Go.Proofs.Ytlbpapngcgnepaa Go.Proofs.Ytlbpapngcgnepaa.boxes Go.Proofs.Ytlbpapngcgnepaa.frp Go.Proofs.Ytlbpapngcgnepaa.pl
open Go.Proofs.Ytlbpapngcgnepaa.rws (Own Knd)

set_option maxRecDepth 20000 in
theorem clone_any (v : Value) (ps : List Pt) (w : World) (h : Rd TK w v ps) (hb : ps.length * 32 ≤ 140737488355328) :
    Calls Try.prog 19 #[v] w fun e w' => ∃ v', e = .returned v' ∧ Own TK w' w.heap.size v' ps ∧ Below w.heap.size w w' := by
  have hm : ps.length ≤ maxLen := by unfold maxLen; omega
  obtain ⟨sa, sc, rfl, hm', hf, hc⟩ := h
  cases sa with
  | none =>
    have e0 := hf.nil rfl
    have e1 := hf.le
    have el : ps = [] := List.eq_nil_of_length_eq_zero (by omega)
    subst el
    refine (AnyE.slices_Clone_nil Try.clonePt 0 sc w).mono ?_
    rintro e w' ⟨rfl, rfl⟩
    exact ⟨_, rfl, Own.nil _ _ _, Below.refl _ _⟩
  | some a =>
    have b1 := (Below.refl w.heap.size w).alloc (Nat.le_refl _) (.cells #[] 49)
    have hr : Rd TK (w.alloc (.cells #[] 49)) (.slice (some a) ps.length sc) ps := Rd.below ⟨_, _, rfl, hm', hf, hc⟩ b1
    have ow : Own TK (w.alloc (.cells #[] 49)) w.heap.size (.slice (some ⟨w.heap.size, 0, none⟩) 0 0) [] := ⟨rfl, Or.inr ⟨w.heap.size, 0, #[], rfl, Nat.le_refl _, Blk.new _ _ _, Nat.le_refl _, Nat.zero_le _, rfl, rfl⟩⟩
    clear hc
    have q : ∀ (w : World) (a : Option Addr) (n c n' c' : Nat), (binOp .eql 44 (.slice a n c) (.slice none n' c')).run Try.prog w = .ok (.bool a.isNone) w := fun w a n c n' c' => Lib.run_eql_slice_nil w _ _ a n c n' c' Try.underlying44
    go_enter Try.func19, Try.ntmps19
    go_wp2_with (at_builtin; refine app_rd TK _ rfl _ _ rfl w.heap.size _ [] rfl ow (.slice (some a) ps.length sc) ps rfl hr (by simpa using hm) (by show ([].length + ps.length) * 32 ≤ _; simpa using hb) (by simp) ?_)
    intro v4 W4 O4 c4 _
    go_wp2_with fail
    go_ret
    exact ⟨_, rfl, O4, b1.trans c4⟩
end Go.Proofs.Ytlbpapngcgnepaa.frcl
