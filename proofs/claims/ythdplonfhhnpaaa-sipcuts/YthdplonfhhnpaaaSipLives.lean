/- custkeep.sipLives answers true: two known numbers. -/
import Derived.Test.YthdplonfhhnpaaaSipOf
namespace Go.Proofs.Ythdplonfhhnpaaa.sipl
open Go.ChangeShapes Go.WideShapes Go.ChangeAt Go.RowKit Go.BigFrame
open Go.Proofs.Ythdplonfhhnpaaa Go.Proofs.Ythdplonfhhnpaaa.sipm Go.Proofs.Ythdplonfhhnpaaa.boxes Go.Proofs.Ythdplonfhhnpaaa.sipb Go.Proofs.Ythdplonfhhnpaaa.sipt Go.Proofs.Ythdplonfhhnpaaa.sipn Go.Proofs.Ythdplonfhhnpaaa.sipf Go.Proofs.Ythdplonfhhnpaaa.sipr Go.Proofs.Ythdplonfhhnpaaa.sipo Go.Proofs.Ythdplonfhhnpaaa.sipe

abbrev sec0 : UInt64 := 506097522914230528
abbrev sec1 : UInt64 := 1084818905618843912
abbrev t15 : ByteArray := ⟨#[0, 1, 2, 3, 4, 5, 6, 7, 8, 9, 10, 11, 12, 13, 14]⟩
theorem known0 : ofv sec0 sec1 ⟨#[]⟩ = 8246050544436514353 := by decide +kernel
theorem known1 : ofv sec0 sec1 t15 = 11613035633349379557 := by decide +kernel
theorem of0 (w : World) : Calls Try.prog 12 #[.agg #[.int .u64 506097522914230528, .int .u64 1084818905618843912], .string ⟨#[]⟩] w fun e w' => e = .returned (.int .u64 8246050544436514353) ∧ Below w.heap.size w w' := by
  have h := of_any sec0 sec1 ⟨#[]⟩ w (by decide)
  rw [known0] at h
  exact h
theorem of1 (w : World) : Calls Try.prog 12 #[.agg #[.int .u64 506097522914230528, .int .u64 1084818905618843912], .string t15] w fun e w' => e = .returned (.int .u64 11613035633349379557) ∧ Below w.heap.size w w' := by
  have h := of_any sec0 sec1 t15 w (by decide)
  rw [known1] at h
  exact h
abbrev KS : Array Value := #[.int .u64 506097522914230528, .int .u64 1084818905618843912]
theorem ks_one : KS.all (·.oneCell') = true := by simp [Value.oneCell']
set_option maxHeartbeats 4000000 in
theorem lives_any (w : World) : Calls Try.prog 14 #[] w fun e w' => e = .returned (.bool true) ∧ Below w.heap.size w w' := by
  go_enter Try.func14, Try.ntmps14
  go_upto_region 2 with (refine blk_store _ rfl 24 _ _ rfl w.heap.size KS rfl rfl _ _ (Blk.new w #[.int .u64 0, .int .u64 0] 24) 2 sec_info rfl rfl ks_one ?_; intro W3 K3 p3)
  have B3 := p3.below ((Below.refl w.heap.size w).alloc (Nat.le_refl _) (.cells #[.int .u64 0, .int .u64 0] 24)) (Nat.le_refl _)
  clear p3
  have c0 := K3.cell 0
  have c1 := K3.cell 1
  go_wp2_with fail
  refine (of0 _).mono ?_
  rintro e W4 ⟨rfl, q⟩
  have K4 := K3.below q K3.lt
  have B4 := B3.trans (q.mono (Below.size B3))
  clear K3 B3 q c0 c1
  have c0 := K4.cell 0
  have c1 := K4.cell 1
  go_wp2_with fail
  refine (of1 _).mono ?_
  rintro e W5 ⟨rfl, q⟩
  have B5 := B4.trans (q.mono (Below.size B4))
  go_wp2_with fail
  go_ret
  exact ⟨rfl, B5⟩
end Go.Proofs.Ythdplonfhhnpaaa.sipl
