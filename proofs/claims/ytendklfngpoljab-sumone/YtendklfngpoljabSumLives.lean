/- What the laws' own helper answers: sumLives is true. -/
import Derived.Test.YtendklfngpoljabSumWalk
namespace Go.Proofs.Ytendklfngpoljab.sumk
open Go.ChangeShapes Go.WideShapes Go.ChangeAt Go.RowKit
open Go.Proofs.Ytendklfngpoljab.SM Go.Proofs.Ytendklfngpoljab.sumw

theorem of_known (w : World) :
    Calls Try.prog 6 #[.string ⟨#[0, 1, 242, 3, 244, 245, 246, 247]⟩] w fun e w' => e = .returned (.int .u16 8717) ∧ Qd w w' := by
  have h := of_any ⟨#[0, 1, 242, 3, 244, 245, 246, 247]⟩ w (by decide)
  have e : 65535 - wsum 0 (ByteArray.mk #[0, 1, 242, 3, 244, 245, 246, 247]).data.toList = 8717 := by decide
  rw [e] at h; exact h
theorem right_known (w : World) :
    Calls Try.prog 7 #[.string ⟨#[255, 255]⟩] w fun e w' => e = .returned (.bool true) ∧ Qd w w' := by
  have h := right_any ⟨#[255, 255]⟩ w (by decide)
  have e : (wsum 0 (ByteArray.mk #[255, 255]).data.toList == 65535) = true := by decide
  rw [e] at h; exact h
theorem right_empty (w : World) :
    Calls Try.prog 7 #[.string ⟨#[]⟩] w fun e w' => e = .returned (.bool false) ∧ Qd w w' := by
  have h := right_any ⟨#[]⟩ w (by decide)
  have e : (wsum 0 (ByteArray.mk #[]).data.toList == 65535) = false := by decide
  rw [e] at h; exact h
theorem fix_known (w : World) :
    Calls Try.prog 8 #[.int .u16 8717, .int .u16 61955, .int .u16 61955] w fun e w' => e = .returned (.int .u16 8717) ∧ w' = w := by
  have h := fix_any 8717 61955 61955 w (by decide) (by decide) (by decide) (by decide) (by decide) (by decide)
  have e : 65535 - ea (ea (65535 - 8717) (65535 - 61955)) 61955 = 8717 := by decide
  rw [e] at h; exact h
theorem lives (w : World) :
    Calls Try.prog 4 #[] w fun e w' => e = .returned (.bool true) ∧ Qd w w' := by
  go_enter Try.func4, Try.ntmps4
  go_wp2_with fail
  refine (of_known _).mono ?_
  rintro e w1 ⟨rfl, q1⟩
  go_wp2_with fail
  refine (right_known _).mono ?_
  rintro e w2 ⟨rfl, q2⟩
  go_wp2_with fail
  refine (right_empty _).mono ?_
  rintro e w3 ⟨rfl, q3⟩
  go_wp2_with fail
  refine (fix_known _).mono ?_
  rintro e w4 ⟨rfl, rfl⟩
  go_wp2_with fail
  go_ret
  exact ⟨rfl, (q1.trans q2).trans q3⟩
end Go.Proofs.Ytendklfngpoljab.sumk
