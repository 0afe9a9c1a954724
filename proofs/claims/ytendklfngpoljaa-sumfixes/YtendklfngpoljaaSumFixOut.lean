/- SumFixes, where its conditions do not hold: true at once. -/
import Derived.Test.YtendklfngpoljaaSumKeep
import Derived.Test.YtendklfngpoljaaSumCount
namespace Go.Proofs.Ytendklfngpoljaa.sumf
open Go.ChangeShapes Go.WideShapes Go.ChangeAt Go.RowKit
open Go.Proofs.Ytendklfngpoljaa.SM Go.Proofs.Ytendklfngpoljaa.sumw Go.Proofs.Ytendklfngpoljaa.sumk Go.Proofs.Ytendklfngpoljaa.sumc
theorem gq {a b c : World} (h : Grown a b) (h' : Qd b c) : Grown a c := by
  obtain ⟨m, rfl⟩ := h'; exact h
theorem app_data (a b : ByteArray) : (a ++ b).data.toList = a.data.toList ++ b.data.toList := by simp
/-- out of the law's conditions: true at once -/
theorem out1 (s : ByteArray) (x y : Int) (w : World) (h : ((s.size : Int) % 2 == 1) = true) (hs : s.size ≤ 281474976710656) :
    Calls Try.prog 8 #[.string s, .int .i64 x, .int .u16 y] w fun e w' => e = .returned (.bool true) ∧ Grown w w' := by
  go_enter Try.func8, Try.ntmps8
  go_wp2_with fail
  refine (lives _).mono ?_
  rintro e w1 ⟨rfl, q1⟩
  go_wp2_with fail
  refine (lives _).mono ?_
  rintro e w2 ⟨rfl, q2⟩
  go_wp2_with fail
  go_ret
  exact ⟨rfl, gq (gq (Grown.refl _) q1) q2⟩
theorem out2 (s : ByteArray) (x y : Int) (w : World) (h : ((s.size : Int) % 2 == 1) = false) (hx : x < 0) (hs : s.size ≤ 281474976710656) :
    Calls Try.prog 8 #[.string s, .int .i64 x, .int .u16 y] w fun e w' => e = .returned (.bool true) ∧ Grown w w' := by
  go_enter Try.func8, Try.ntmps8
  go_wp2_with fail
  refine (lives _).mono ?_
  rintro e w1 ⟨rfl, q1⟩
  go_wp2_with fail
  refine (lives _).mono ?_
  rintro e w2 ⟨rfl, q2⟩
  go_wp2_with fail
  go_ret
  exact ⟨rfl, gq (gq (Grown.refl _) q1) q2⟩
theorem out3 (s : ByteArray) (x y : Int) (w : World) (h : ((s.size : Int) % 2 == 1) = false) (hx : ¬ x < 0) (hx2 : (x % 2 == 1) = true) (hs : s.size ≤ 281474976710656) :
    Calls Try.prog 8 #[.string s, .int .i64 x, .int .u16 y] w fun e w' => e = .returned (.bool true) ∧ Grown w w' := by
  have hx0 : 0 ≤ x := by omega
  go_enter Try.func8, Try.ntmps8
  go_wp2_with fail
  refine (lives _).mono ?_
  rintro e w1 ⟨rfl, q1⟩
  go_wp2_with fail
  refine (lives _).mono ?_
  rintro e w2 ⟨rfl, q2⟩
  go_wp2_with fail
  go_ret
  exact ⟨rfl, gq (gq (Grown.refl _) q1) q2⟩
theorem out4 (s : ByteArray) (x y : Int) (w : World) (h : ((s.size : Int) % 2 == 1) = false) (hx0 : 0 ≤ x) (hx2 : (x % 2 == 1) = false) (hx3 : (s.size : Int) ≤ x) (hs : s.size ≤ 281474976710656) :
    Calls Try.prog 8 #[.string s, .int .i64 x, .int .u16 y] w fun e w' => e = .returned (.bool true) ∧ Grown w w' := by
  have hx : ¬ x < 0 := by omega
  go_enter Try.func8, Try.ntmps8
  go_wp2_with fail
  refine (lives _).mono ?_
  rintro e w1 ⟨rfl, q1⟩
  go_wp2_with fail
  refine (lives _).mono ?_
  rintro e w2 ⟨rfl, q2⟩
  go_wp2_with fail
  go_ret
  exact ⟨rfl, gq (gq (Grown.refl _) q1) q2⟩
end Go.Proofs.Ytendklfngpoljaa.sumf
