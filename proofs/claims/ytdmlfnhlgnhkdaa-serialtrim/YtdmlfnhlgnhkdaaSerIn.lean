/- What package serial's small functions, and custref's beside them, answer: way, Less, Within, Meets, Way, Inside, Plus. -/
import Derived.Test.YtdmlfnhlgnhkdaaRows
import Derived.WalkKit
import Derived.ProofKit
import Derived.OpenShut
import Derived.ShutString
import Derived.WalkSpells
import Derived.WalkLawsBesides
import Derived.Deep.QuietTactic
import Derived.BigQuiet
namespace Go.Proofs.Ytdmlfnhlgnhkdaa.seri
open Go.ChangeShapes Go.WideShapes Go.ChangeAt Go.RowKit

/-- the way from a to b -/
def wy (a b : Int) : Int := (b - a) % 4294967296
theorem wy_bd (a b : Int) : 0 ≤ wy a b ∧ wy a b < 4294967296 := by unfold wy; omega
/-- is x among s numbers from f on -/
def inn (x f s : Int) : Bool := decide (wy f x < s)
def lss (a b : Int) : Bool := decide (0 < wy a b) && decide (wy a b < 2147483648)
def mts (a n b m : Int) : Bool := (decide (0 < n) && decide (0 < m)) && (inn b a n || inn a b m)
theorem ret_int {k : IntKind} {a b : Int} (h : a = b) : Ending.returned (.int k a) = .returned (.int k b) := by rw [h]
theorem ret_bool {a b : Bool} (h : a = b) : Ending.returned (.bool a) = .returned (.bool b) := by rw [h]

theorem way_any (a b : Int) (w : World) :
    Calls Try.prog 18 #[.int .u32 a, .int .u32 b] w fun e w' => e = .returned (.int .u32 (wy a b)) ∧ w' = w := by
  go_enter Try.func18, Try.ntmps18
  go_wp2_with fail
  go_ret
  exact ⟨rfl, rfl⟩
theorem within_any (x f s : Int) (w : World) :
    Calls Try.prog 12 #[.int .u32 x, .int .u32 f, .int .u32 s] w fun e w' => e = .returned (.bool (inn x f s)) ∧ w' = w := by
  go_enter Try.func12, Try.ntmps12
  go_wp2_with fail
  refine (way_any _ _ _).mono ?_
  rintro e w' ⟨rfl, rfl⟩
  go_wp2_with fail
  go_ret
  exact ⟨rfl, rfl⟩
theorem less_any (a b : Int) (w : World) :
    Calls Try.prog 9 #[.int .u32 a, .int .u32 b] w fun e w' => e = .returned (.bool (lss a b)) ∧ w' = w := by
  go_enter Try.func9, Try.ntmps9
  go_wp2_with fail
  refine (way_any _ _ _).mono ?_
  rintro e w' ⟨rfl, rfl⟩
  go_wp2_with fail
  all_goals go_ret
  all_goals exact ⟨ret_bool (by unfold lss; first | (simp_all; done) | (simp_all; omega)), rfl⟩
theorem meets_any (a n b m : Int) (w : World) :
    Calls Try.prog 13 #[.int .u32 a, .int .u32 n, .int .u32 b, .int .u32 m] w fun e w' => e = .returned (.bool (mts a n b m)) ∧ w' = w := by
  go_enter Try.func13, Try.ntmps13
  by_cases hn : 0 < n
  · by_cases hm : 0 < m
    · go_wp2_with fail
      refine (within_any _ _ _ _).mono ?_
      rintro e w' ⟨rfl, rfl⟩
      cases h : inn b a n
      · go_wp2_with fail
        refine (within_any _ _ _ _).mono ?_
        rintro e w' ⟨rfl, rfl⟩
        go_wp2_with fail
        go_ret
        exact ⟨ret_bool (by unfold mts; simp_all), rfl⟩
      · go_wp2_with fail
        go_ret
        exact ⟨ret_bool (by unfold mts; simp_all), rfl⟩
    · go_wp2_with fail
      go_ret
      exact ⟨ret_bool (by unfold mts; rw [decide_eq_false (by omega : ¬ 0 < m)]; simp), rfl⟩
  · go_wp2_with fail
    go_ret
    exact ⟨ret_bool (by unfold mts; rw [decide_eq_false (by omega : ¬ 0 < n)]; simp), rfl⟩
theorem rway_any (a b : Int) (w : World) (a0 : 0 ≤ a) (a1 : a < 4294967296) (b0 : 0 ≤ b) (b1 : b < 4294967296) :
    Calls Try.prog 11 #[.int .u32 a, .int .u32 b] w fun e w' => e = .returned (.int .i64 (wy a b)) ∧ w' = w := by
  go_enter Try.func11, Try.ntmps11
  by_cases h : b - a < 0
  · go_wp2_with fail
    go_ret
    exact ⟨ret_int (by unfold wy; omega), rfl⟩
  · go_wp2_with fail
    go_ret
    exact ⟨ret_int (by unfold wy; omega), rfl⟩
theorem inside_any (x f s : Int) (w : World) (a0 : 0 ≤ x) (a1 : x < 4294967296) (b0 : 0 ≤ f) (b1 : f < 4294967296) (s0 : 0 ≤ s) (s1 : s < 4294967296) :
    Calls Try.prog 8 #[.int .u32 x, .int .u32 f, .int .u32 s] w fun e w' => e = .returned (.bool (inn x f s)) ∧ w' = w := by
  go_enter Try.func8, Try.ntmps8
  go_wp2_with fail
  refine (rway_any _ _ _ b0 b1 a0 a1).mono ?_
  rintro e w' ⟨rfl, rfl⟩
  go_wp2_with fail
  go_ret
  exact ⟨rfl, rfl⟩
theorem plus_any (a b : Int) (w : World) (a0 : 0 ≤ a) (a1 : a < 4294967296) (b0 : 0 ≤ b) (b1 : b < 4294967296) :
    Calls Try.prog 21 #[.int .u32 a, .int .u32 b] w fun e w' => e = .returned (.int .u32 ((a + b) % 4294967296)) ∧ w' = w := by
  go_enter Try.func21, Try.ntmps21
  go_wp2_with fail
  go_ret
  exact ⟨ret_int rfl, rfl⟩
end Go.Proofs.Ytdmlfnhlgnhkdaa.seri
