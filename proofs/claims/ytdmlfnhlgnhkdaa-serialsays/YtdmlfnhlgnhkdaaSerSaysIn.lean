/- The walk through custlaw.SerialSays. -/
import Derived.Test.YtdmlfnhlgnhkdaaSerIn
import Derived.Deep.DeepCutAuto
namespace Go.Proofs.Ytdmlfnhlgnhkdaa.sersy
open Go.ChangeShapes Go.WideShapes Go.ChangeAt Go.RowKit
open Go.Proofs.Ytdmlfnhlgnhkdaa.seri

theorem between_any (x a b : Int) (w : World) :
    Calls Try.prog 10 #[.int .i64 x, .int .i64 a, .int .i64 b] w fun e w' => e = .returned (.bool (decide (a ≤ x ∧ x ≤ b))) ∧ w' = w := by
  go_enter Try.func10, Try.ntmps10
  go_wp2
  all_goals go_ret
  all_goals exact ⟨by first | (simp_all; done) | (simp_all; omega), rfl⟩
theorem lss_btw (a b : Int) : lss a b = decide (1 ≤ wy a b ∧ wy a b ≤ 2147483647) := by
  unfold lss; rw [Bool.eq_iff_iff]; simp; omega
theorem walk (a n b m : Int) (w : World) (ha : 0 ≤ a ∧ a ≤ 4294967295) (hn : 0 ≤ n ∧ n ≤ 4294967295) (hb : 0 ≤ b ∧ b ≤ 4294967295) (hm : 0 ≤ m ∧ m ≤ 4294967295) :
    Calls Try.prog 3 #[.int .u32 a, .int .u32 n, .int .u32 b, .int .u32 m] w fun e w' => e = .returned (.bool true) ∧ Below w.heap.size w w' := by
  have CL := fun u => less_any a b u
  rw [lss_btw] at CL
  have CB := fun u => between_any (wy a b) 1 2147483647 u
  generalize decide (1 ≤ wy a b ∧ wy a b ≤ 2147483647) = lb at CL CB
  have CY := fun u => rway_any a b u (by omega) (by omega) (by omega) (by omega)
  generalize wy a b = yy at CB CY
  have CI := fun u => inside_any b a n u (by omega) (by omega) (by omega) (by omega) (by omega) (by omega)
  have CJ := fun u => inside_any a b m u (by omega) (by omega) (by omega) (by omega) (by omega) (by omega)
  have CK := fun u => inside_any a b n u (by omega) (by omega) (by omega) (by omega) (by omega) (by omega)
  have CW := fun u => within_any a b n u
  have CM := fun u => meets_any a n b m u
  have HM : Hid (mts a n b m = ((decide (0 < n) && decide (0 < m)) && (inn b a n || inn a b m))) := (rfl : _ = _)
  generalize mts a n b m = M at CM HM
  generalize inn b a n = x1 at CI HM
  generalize inn a b m = x2 at CJ HM
  generalize inn a b n = x3 at CK CW
  clear ha hb
  go_enter Try.func3, Try.ntmps3
  go_upto_region 1 with fail
  go_cut [9] (fun c wx => c = .bool M ∧ wx = w)
  case first =>
    by_cases h1 : 0 < n
    · by_cases h2 : 0 < m
      · have HM' : Hid (M = (x1 || x2)) := by show _ = _; rw [HM.out, decide_eq_true h1, decide_eq_true h2]; rfl
        clear HM CM CW CK
        go_wp2_with fail
        refine (CI _).mono ?_
        rintro e w1 ⟨rfl, rfl⟩
        cases x1 with
        | true =>
          go_wp2_with fail
          go_meet
          exact ⟨by rw [HM'.out]; rfl, rfl⟩
        | false =>
          go_wp2_with fail
          refine (CJ _).mono ?_
          rintro e w1 ⟨rfl, rfl⟩
          go_wp2_with fail
          go_meet
          exact ⟨by rw [HM'.out]; rfl, rfl⟩
      · have HM' : Hid (M = false) := by show _ = _; rw [HM.out, decide_eq_false h2]; simp
        clear HM CM CW CK
        go_wp2_with fail
        go_meet
        exact ⟨by rw [HM'.out], rfl⟩
    · have HM' : Hid (M = false) := by show _ = _; rw [HM.out, decide_eq_false h1]; simp
      clear HM CM CW CK
      go_wp2_with fail
      go_meet
      exact ⟨by rw [HM'.out], rfl⟩
  case rest =>
    obtain ⟨rfl, rfl⟩ := hcut
    clear HM CI CJ hn hm
    go_wp2_with fail
    refine (CL _).mono ?_
    rintro e w1 ⟨rfl, rfl⟩
    go_wp2_with fail
    refine (CY _).mono ?_
    rintro e w1 ⟨rfl, rfl⟩
    go_wp2_with fail
    refine (CB _).mono ?_
    rintro e w1 ⟨rfl, rfl⟩
    go_wp2_with fail
    refine (CW _).mono ?_
    rintro e w1 ⟨rfl, rfl⟩
    go_wp2_with fail
    refine (CK _).mono ?_
    rintro e w1 ⟨rfl, rfl⟩
    go_wp2_with fail
    refine (CM _).mono ?_
    rintro e w1 ⟨rfl, rfl⟩
    go_wp2_with fail
    go_ret
    exact ⟨by simp, Below.refl _ _⟩
end Go.Proofs.Ytdmlfnhlgnhkdaa.sersy
