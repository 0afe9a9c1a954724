/- What package ages' New and checkAt answer. -/
import Derived.Test.YtehiipnafckjbaaAgCheck
namespace Go.Proofs.Ytehiipnafckjbaa.agi
open Go.ChangeShapes Go.WideShapes Go.ChangeAt Go.RowKit Go.BigFrame
open Go.Proofs.Ytehiipnafckjbaa Go.Proofs.Ytehiipnafckjbaa.am Go.Proofs.Ytehiipnafckjbaa.ag Go.Proofs.Ytehiipnafckjbaa.ai Go.Proofs.Ytehiipnafckjbaa.agc Go.Proofs.Ytehiipnafckjbaa.boxes Go.Proofs.Ytehiipnafckjbaa.rwr
open Go.Proofs.Ytehiipnafckjbaa.rws (Knd Own)

/-- New's error, and size -/
def ne (n : Int) : Int := if rs n = true then 0 else 1
def nn (n : Int) : Int := if rs n = true then n else 0
theorem new_any (n : Int) (w : World) : Calls Try.prog 8 #[.int .i64 n] w fun e w' => e = .returned (.tuple #[.agg (AC (nn n) (.slice none 0 0)), .int .i64 (ne n)]) ∧ Below w.heap.size w w' := by
  have CR := fun u => right_any n u
  have d0 := (Below.refl w.heap.size w).alloc (Nat.le_refl _) (.cells Z2 24)
  cases h : rs n
  · have e1 : ne n = 1 := by unfold ne; rw [h]; rfl
    have e2 : nn n = 0 := by unfold nn; rw [h]; rfl
    rw [e1, e2]
    rw [h] at CR
    clear h e1 e2
    go_enter Try.func8, Try.ntmps8
    go_wp2_with fail
    refine (CR _).mono ?_
    rintro e w1 ⟨rfl, rfl⟩
    go_wp2_with (refine blk_store _ rfl 24 _ _ rfl w.heap.size Z2 rfl rfl _ _ (Blk.new w Z2 24) 2 ag_info rfl rfl (ag_one _ _ _ _) ?_; intro W3 K3 p3)
    have d1 := p3.below d0 (Nat.le_refl _)
    exact blk_ret2 rfl rfl w.heap.size Z2 24 rfl K3 _ Try.underlying24 rfl 2 ag_info rfl ⟨rfl, d1⟩
  · have e1 : ne n = 0 := by unfold ne; rw [h]; rfl
    have e2 : nn n = n := by unfold nn; rw [h]; rfl
    rw [e1, e2]
    rw [h] at CR
    clear h e1 e2
    go_enter Try.func8, Try.ntmps8
    go_wp2_with fail
    refine (CR _).mono ?_
    rintro e w1 ⟨rfl, rfl⟩
    go_wp2_with (refine blk_store _ rfl 24 _ _ rfl w.heap.size (AC n (.slice none 0 0)) rfl rfl _ _ (Blk.new w Z2 24) 2 ag_info rfl rfl (ag_one _ _ _ _) ?_; intro W3 K3 p3)
    have d1 := p3.below d0 (Nat.le_refl _)
    exact blk_ret2 rfl rfl w.heap.size (AC n (.slice none 0 0)) 24 rfl K3 _ Try.underlying24 rfl 2 ag_info rfl ⟨rfl, d1⟩
set_option maxHeartbeats 1000000 in
theorem checkAt_any (n : Int) (v : Value) (l : List Sy) (now : Int) (w : World) (h : Rd SK w v l) : Calls Try.prog 25 #[.agg (AC n v), .int .i64 now] w fun e w' => e = .returned (.int .i64 (ce n l now)) ∧ Below w.heap.size w w' := by
  have F0 := Blk.new w (AC n v) 24
  have b0 := (Below.refl w.heap.size w).alloc (Nat.le_refl _) (.cells (AC n v) 24)
  have r0 := h.below b0
  have CC := check_any n v l _ r0
  have c0 := F0.cell
  have hml := rd_len h
  obtain ⟨sa, sc, rfl⟩ := h.form
  rcases ce_cases n l now with ⟨e1, e2⟩ | ⟨e1, e2, e3⟩ | ⟨e1, e2, e3⟩
  · rw [e1]
    have e2' : (aerr n l != 0) = true := by simpa using e2
    clear h r0 e1 e2
    generalize aerr n l = E at *
    generalize l.length = m at *
    go_enter Try.func25, Try.ntmps25
    go_wp2_with fail
    refine CC.mono ?_
    rintro e w1 ⟨rfl, z⟩
    have b1 := b0.trans (z.mono b0.size)
    go_wp2_with fail
    go_ret
    exact ⟨rfl, b1⟩
  all_goals
    rw [e1]
    rw [e2] at CC
    by_cases hp : 0 < l.length
    · rw [late_last (aerr_zero e2).2 now hp] at e3
      obtain ⟨b, off, rfl, hb, hx⟩ := rd_spot h hp
      have cl := cell_a hx (show l.length - 1 < l.length by omega)
      have hle : l.length ≤ sc := (rd_cap h).2
      have hwr : IntKind.i64.wrap ((l.length : Int) - 1) = ((l.length - 1 : Nat) : Int) := by rw [IntKind.wrap_i64]; omega
      have hpl : ((l.length - 1 : Nat) : Int) < (l.length : Int) := by omega
      have hd : decide ((0 : Int) < (l.length : Int)) = true := decide_eq_true (by omega)
      generalize (ax l (l.length - 1)).a = A at *
      generalize l.length - 1 = p at *
      clear h r0 e1 e2 hx
      generalize l.length = m at *
      go_enter Try.func25, Try.ntmps25
      go_wp2_with fail
      refine CC.mono ?_
      rintro e w1 ⟨rfl, z⟩
      have b1 := b0.trans (z.mono b0.size)
      have c1 := (F0.below z F0.lt).cell
      have cl1 := (b1.cell (p := ⟨b, off + p * 2 + 1, none⟩) hb).trans cl
      clear c0 cl F0 z b0 CC
      go_wp2_with fail
      go_ret
      exact ⟨rfl, b1⟩
    · have e0 : l = [] := List.eq_nil_of_length_eq_zero (by omega)
      subst e0
      rw [late_nil] at e3
      clear h r0 e1 e2 hp hml
      simp only [List.length_nil] at *
      first | (exfalso; cases e3; done) | skip
      all_goals
       clear e3
       go_enter Try.func25, Try.ntmps25
       go_wp2_with fail
       refine CC.mono ?_
       rintro e w1 ⟨rfl, z⟩
       have b1 := b0.trans (z.mono b0.size)
       have c1 := (F0.below z F0.lt).cell
       clear c0 F0 z b0 CC
       go_wp2_with fail
       go_ret
       exact ⟨rfl, b1⟩
end Go.Proofs.Ytehiipnafckjbaa.agi
