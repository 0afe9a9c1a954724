/- custkeep.serialLives, and the walks through SerialOrder and SerialMeets. -/
import Derived.Test.YtdmlfnhlgnhkdaaSerTrimIn
import Derived.Deep.DeepCutAuto
namespace Go.Proofs.Ytdmlfnhlgnhkdaa.serk
open Go.ChangeShapes Go.WideShapes Go.ChangeAt Go.RowKit
open Go.Proofs.Ytdmlfnhlgnhkdaa.seri Go.Proofs.Ytdmlfnhlgnhkdaa.sert

theorem tr_lives : tr 4294967294 ⟨#[97, 98, 99, 100]⟩ 4294967295 2 = (4294967295, ⟨#[98, 99]⟩) := by decide +kernel
theorem lives (w : World) : Calls Try.prog 16 #[] w fun e w' => e = .returned (.bool true) ∧ w' = w := by
  have CT := fun u => trim_any 4294967294 ⟨#[97, 98, 99, 100]⟩ 4294967295 2 u (by omega) (by omega) (by decide)
  rw [tr_lives] at CT
  have C1 := fun u => less_any 4294967295 0 u
  have C2 := fun u => less_any 0 4294967295 u
  have C3 := fun u => within_any 1 4294967295 3 u
  rw [show lss 4294967295 0 = true by decide] at C1
  rw [show lss 0 4294967295 = false by decide] at C2
  rw [show inn 1 4294967295 3 = true by decide] at C3
  go_enter Try.func16, Try.ntmps16
  go_wp2_with fail
  refine (CT _).mono ?_
  rintro e w1 ⟨rfl, rfl⟩
  go_wp2_with fail
  refine (C1 _).mono ?_
  rintro e w1 ⟨rfl, rfl⟩
  go_wp2_with fail
  refine (C2 _).mono ?_
  rintro e w1 ⟨rfl, rfl⟩
  go_wp2_with fail
  refine (C3 _).mono ?_
  rintro e w1 ⟨rfl, rfl⟩
  go_wp2_with fail
  go_ret
  exact ⟨rfl, rfl⟩
theorem lss_shift (a b d : Int) : lss ((a + d) % 4294967296) ((b + d) % 4294967296) = lss a b := by
  unfold lss wy
  have : ((b + d) % 4294967296 - (a + d) % 4294967296) % 4294967296 = (b - a) % 4294967296 := by omega
  rw [this]
theorem lss_irr (a : Int) : lss a a = false := by
  unfold lss wy; simp
theorem lss_one (a b : Int) (ha : 0 ≤ a ∧ a ≤ 4294967295) (hb : 0 ≤ b ∧ b ≤ 4294967295) (h : ¬ a = b) (k : ¬ (a - b) % 4294967296 = 2147483648) : lss b a = !lss a b := by
  unfold lss wy
  rw [Bool.eq_iff_iff]
  simp
  omega
theorem lss_tr (a b c : Int) (h : lss a b = true) (k : lss b c = true) (l : wy a b + wy b c < 2147483648) : lss a c = true := by
  unfold lss at h k ⊢
  unfold wy at h k l ⊢
  simp at h k ⊢
  omega
set_option maxHeartbeats 1000000 in
theorem order (a b c d : Int) (w : World) (ha : 0 ≤ a ∧ a ≤ 4294967295) (hb : 0 ≤ b ∧ b ≤ 4294967295) (hc : 0 ≤ c ∧ c ≤ 4294967295) :
    Calls Try.prog 5 #[.int .u32 a, .int .u32 b, .int .u32 c, .int .u32 d] w fun e w' => e = .returned (.bool true) ∧ Below w.heap.size w w' := by
  have CA := fun u => less_any a a u
  rw [lss_irr] at CA
  have CB := fun u => less_any a b u
  have CS := fun u => less_any ((a + d) % 4294967296) ((b + d) % 4294967296) u
  rw [lss_shift] at CS
  have CR := fun u => less_any b a u
  have CC := fun u => less_any b c u
  have CD := fun u => less_any a c u
  have CX := fun u => rway_any a b u (by omega) (by omega) (by omega) (by omega)
  have CY := fun u => rway_any b c u (by omega) (by omega) (by omega) (by omega)
  have H1 : Hid (¬ a = b → ¬ (a - b) % 4294967296 = 2147483648 → lss b a = !lss a b) := fun h k => lss_one a b ha hb h k
  have H2 : Hid (lss a b = true → lss b c = true → wy a b + wy b c < 2147483648 → lss a c = true) := lss_tr a b c
  have x0 := wy_bd a b
  have y0 := wy_bd b c
  generalize lss a b = p at CB CS H1 H2
  generalize lss b a = q at CR H1
  generalize lss b c = r at CC H2
  generalize lss a c = t at CD H2
  generalize wy a b = x at CX H2 x0
  generalize wy b c = y at CY H2 y0
  clear ha hb hc
  go_enter Try.func5, Try.ntmps5
  go_wp2_with fail
  refine (lives _).mono ?_
  rintro e w1 ⟨rfl, rfl⟩
  go_wp2_with fail
  refine (CA _).mono ?_
  rintro e w1 ⟨rfl, rfl⟩
  go_wp2_with fail
  refine (CB _).mono ?_
  rintro e w1 ⟨rfl, rfl⟩
  go_wp2_with fail
  refine (CS _).mono ?_
  rintro e w1 ⟨rfl, rfl⟩
  go_upto_region 3 with fail
  go_cut [46] (fun c wx => c = .bool false ∧ wx = w1)
  case first =>
    by_cases h : a = b
    · have h' : (a != b) = false := by simpa using h
      go_wp2_with fail
      go_meet
      exact ⟨rfl, rfl⟩
    · have h' : (a != b) = true := by simpa using h
      by_cases k : (a - b) % 4294967296 = 2147483648
      · have k' : ((a - b) % 4294967296 != 2147483648) = false := by simpa using k
        clear h k
        go_wp2_with fail
        go_meet
        exact ⟨rfl, rfl⟩
      · have k' : ((a - b) % 4294967296 != 2147483648) = true := by simpa using k
        have e1 : Hid (q = !p) := H1.out h k
        clear h k
        go_wp2_with fail
        refine (CB _).mono ?_
        rintro e w1 ⟨rfl, rfl⟩
        go_wp2_with fail
        refine (CR _).mono ?_
        rintro e w1 ⟨rfl, rfl⟩
        go_wp2_with fail
        go_meet
        exact ⟨by rw [e1.out]; simp, rfl⟩
  case rest =>
    obtain ⟨rfl, rfl⟩ := hcut
    clear H1 CA CS CR
    go_wp2_with fail
    refine (CB _).mono ?_
    rintro e w1 ⟨rfl, rfl⟩
    cases p with
    | false =>
      go_wp2_with fail
      go_ret
      exact ⟨rfl, Below.refl _ _⟩
    | true =>
      go_wp2_with fail
      refine (CC _).mono ?_
      rintro e w1 ⟨rfl, rfl⟩
      cases r with
      | false =>
        go_wp2_with fail
        go_ret
        exact ⟨rfl, Below.refl _ _⟩
      | true =>
        go_wp2_with fail
        refine (CX _).mono ?_
        rintro e w1 ⟨rfl, rfl⟩
        go_wp2_with fail
        refine (CY _).mono ?_
        rintro e w1 ⟨rfl, rfl⟩
        by_cases k : 2147483648 ≤ x + y
        · go_wp2_with fail
          go_ret
          exact ⟨rfl, Below.refl _ _⟩
        · have e1 : Hid (t = true) := by show _ = _; have h := H2.out; simp only [true_imp_iff] at h; exact h (by omega)
          go_wp2_with fail
          refine (CD _).mono ?_
          rintro e w1 ⟨rfl, rfl⟩
          go_wp2_with fail
          go_ret
          exact ⟨by rw [e1.out]; simp, Below.refl _ _⟩
theorem mts_swap (a n b m : Int) : mts b m a n = mts a n b m := by
  unfold mts
  rw [Bool.and_comm (decide (0 < m)), Bool.or_comm]
theorem mts_self (a n : Int) : mts a n a n = decide (0 < n) := by
  unfold mts inn wy
  simp
theorem mts_in (a n b m x : Int) (h : inn x a n = true) (k : inn x b m = true) : mts a n b m = true := by
  unfold inn at h k
  unfold mts inn
  unfold wy at h k ⊢
  simp at h k ⊢
  omega
set_option maxHeartbeats 1000000 in
theorem meets (a n b m x : Int) (w : World) :
    Calls Try.prog 6 #[.int .u32 a, .int .u32 n, .int .u32 b, .int .u32 m, .int .u32 x] w fun e w' => e = .returned (.bool true) ∧ Below w.heap.size w w' := by
  have CA := fun u => meets_any a n b m u
  have CB := fun u => meets_any b m a n u
  have CC := fun u => meets_any a n a n u
  have CX := fun u => within_any x a n u
  have CY := fun u => within_any x b m u
  rw [mts_swap] at CB
  rw [mts_self] at CC
  have H : Hid (inn x a n = true → inn x b m = true → mts a n b m = true) := mts_in a n b m x
  generalize mts a n b m = M at CA CB H
  generalize inn x a n = p at CX H
  generalize inn x b m = q at CY H
  go_enter Try.func6, Try.ntmps6
  go_wp2_with fail
  refine (CA _).mono ?_
  rintro e w1 ⟨rfl, rfl⟩
  go_wp2_with fail
  refine (lives _).mono ?_
  rintro e w1 ⟨rfl, rfl⟩
  go_wp2_with fail
  refine (CB _).mono ?_
  rintro e w1 ⟨rfl, rfl⟩
  go_wp2_with fail
  refine (CC _).mono ?_
  rintro e w1 ⟨rfl, rfl⟩
  cases M with
  | true =>
    go_wp2_with fail
    go_ret
    exact ⟨rfl, Below.refl _ _⟩
  | false =>
    go_wp2_with fail
    refine (CX _).mono ?_
    rintro e w1 ⟨rfl, rfl⟩
    cases p with
    | false =>
      go_wp2_with fail
      go_ret
      exact ⟨rfl, Below.refl _ _⟩
    | true =>
      cases q with
      | true => exact absurd (H.out rfl rfl) (by decide)
      | false =>
        go_wp2_with fail
        refine (CY _).mono ?_
        rintro e w1 ⟨rfl, rfl⟩
        go_wp2_with fail
        go_ret
        exact ⟨rfl, Below.refl _ _⟩
end Go.Proofs.Ytdmlfnhlgnhkdaa.serk
