/- What custref's Between, bitsOf and HomeOf answer. -/
import Derived.Test.YtmnmjmbfnecmoaaTabIn1
namespace Go.Proofs.Ytmnmjmbfnecmoaa.rh
open Go.ChangeShapes Go.WideShapes Go.ChangeAt Go.RowKit Go.BigFrame
open Go.Proofs.Ytmnmjmbfnecmoaa Go.Proofs.Ytmnmjmbfnecmoaa.tm Go.Proofs.Ytmnmjmbfnecmoaa.tb Go.Proofs.Ytmnmjmbfnecmoaa.ti Go.Proofs.Ytmnmjmbfnecmoaa.boxes Go.Proofs.Ytmnmjmbfnecmoaa.rwr

theorem between_any (a b c : Int) (w : World) : Calls Try.prog 11 #[.int .i64 a, .int .i64 b, .int .i64 c] w fun e w' => e = .returned (.bool (decide (b ≤ a) && decide (a ≤ c))) ∧ w' = w := by
  by_cases h1 : b ≤ a
  · by_cases h2 : a ≤ c
    · go_enter Try.func11, Try.ntmps11
      go_wp2_with fail
      go_ret
      exact ⟨ret_bool (by simp [h1, h2]), rfl⟩
    · go_enter Try.func11, Try.ntmps11
      go_wp2_with fail
      go_ret
      exact ⟨ret_bool (by rw [decide_eq_false (show ¬ a ≤ c by omega)]), rfl⟩
  · go_enter Try.func11, Try.ntmps11
    go_wp2_with fail
    go_ret
    exact ⟨ret_bool (by rw [decide_eq_false (show ¬ b ≤ a by omega)]; rfl), rfl⟩
/-- the sizes ahead are not n -/
def bq (n : Nat) (k m : Int) : Prop := (k = 1 ∧ m = 2) ∨ (k = 2 ∧ m = 4 ∧ n ≠ 2) ∨ (k = 3 ∧ m = 8 ∧ n ≠ 2 ∧ n ≠ 4) ∨ (k = 4 ∧ m = 16 ∧ n ≠ 2 ∧ n ≠ 4 ∧ n ≠ 8) ∨ (k = 5 ∧ m = 32 ∧ n ≠ 2 ∧ n ≠ 4 ∧ n ≠ 8 ∧ n ≠ 16) ∨ (k = 6 ∧ m = 64 ∧ n ≠ 2 ∧ n ≠ 4 ∧ n ≠ 8 ∧ n ≠ 16 ∧ n ≠ 32) ∨ (k = 7 ∧ m = 128 ∧ bn n = 0)
set_option maxHeartbeats 1000000 in
theorem rbits_any (n : Nat) (w : World) : Calls Try.prog 30 #[.int .i64 (n : Int)] w fun e w' => e = .returned (.int .i64 (bn n : Int)) ∧ w' = w := by
  go_enter Try.func30, Try.ntmps30
  go_wp2_with fail
  go_loop [3, 4] (fun i s => ∃ k m : Int, i = .int .i64 k ∧ s = .int .i64 m ∧ Hid (bq n k m)) (fun i _ => 8 - (intOf i).toNat)
  case atStart => exact ⟨1, 2, rfl, rfl, Or.inl ⟨rfl, rfl⟩⟩
  case round =>
    obtain ⟨k, m, rfl, rfl, HN⟩ := hrel
    rcases HN.out with ⟨rfl, rfl⟩ | ⟨rfl, rfl, h⟩ | ⟨rfl, rfl, h⟩ | ⟨rfl, rfl, h⟩ | ⟨rfl, rfl, h⟩ | ⟨rfl, rfl, h⟩ | ⟨rfl, rfl, h⟩
    · have H : Hid True := trivial
      clear HN
      by_cases hn : n = 2
      · subst hn
        go_wp2_with fail
        go_ret
        exact ⟨rfl, rfl⟩
      · have hn' : ((2 : Int) == (n : Int)) = false := by simp; omega
        go_wp2_with fail
        go_round
        case rel => exact ⟨2, 4, rfl, rfl, Or.inr (Or.inl ⟨rfl, rfl, hn⟩)⟩
        case measure => simp [intOf]
    · have H : Hid (n ≠ 2) := h
      clear h HN
      by_cases hn : n = 4
      · subst hn
        go_wp2_with fail
        go_ret
        exact ⟨rfl, rfl⟩
      · have hn' : ((4 : Int) == (n : Int)) = false := by simp; omega
        go_wp2_with fail
        go_round
        case rel => exact ⟨3, 8, rfl, rfl, Or.inr (Or.inr (Or.inl ⟨rfl, rfl, ⟨H.out, hn⟩⟩))⟩
        case measure => simp [intOf]
    · have H : Hid (n ≠ 2 ∧ n ≠ 4) := h
      clear h HN
      by_cases hn : n = 8
      · subst hn
        go_wp2_with fail
        go_ret
        exact ⟨rfl, rfl⟩
      · have hn' : ((8 : Int) == (n : Int)) = false := by simp; omega
        go_wp2_with fail
        go_round
        case rel => exact ⟨4, 16, rfl, rfl, Or.inr (Or.inr (Or.inr (Or.inl ⟨rfl, rfl, ⟨H.out.1, H.out.2, hn⟩⟩)))⟩
        case measure => simp [intOf]
    · have H : Hid (n ≠ 2 ∧ n ≠ 4 ∧ n ≠ 8) := h
      clear h HN
      by_cases hn : n = 16
      · subst hn
        go_wp2_with fail
        go_ret
        exact ⟨rfl, rfl⟩
      · have hn' : ((16 : Int) == (n : Int)) = false := by simp; omega
        go_wp2_with fail
        go_round
        case rel => exact ⟨5, 32, rfl, rfl, Or.inr (Or.inr (Or.inr (Or.inr (Or.inl ⟨rfl, rfl, ⟨H.out.1, H.out.2.1, H.out.2.2, hn⟩⟩))))⟩
        case measure => simp [intOf]
    · have H : Hid (n ≠ 2 ∧ n ≠ 4 ∧ n ≠ 8 ∧ n ≠ 16) := h
      clear h HN
      by_cases hn : n = 32
      · subst hn
        go_wp2_with fail
        go_ret
        exact ⟨rfl, rfl⟩
      · have hn' : ((32 : Int) == (n : Int)) = false := by simp; omega
        go_wp2_with fail
        go_round
        case rel => exact ⟨6, 64, rfl, rfl, Or.inr (Or.inr (Or.inr (Or.inr (Or.inr (Or.inl ⟨rfl, rfl, ⟨H.out.1, H.out.2.1, H.out.2.2.1, H.out.2.2.2, hn⟩⟩)))))⟩
        case measure => simp [intOf]
    · have H : Hid (n ≠ 2 ∧ n ≠ 4 ∧ n ≠ 8 ∧ n ≠ 16 ∧ n ≠ 32) := h
      clear h HN
      by_cases hn : n = 64
      · subst hn
        go_wp2_with fail
        go_ret
        exact ⟨rfl, rfl⟩
      · have hn' : ((64 : Int) == (n : Int)) = false := by simp; omega
        go_wp2_with fail
        go_round
        case rel => exact ⟨7, 128, rfl, rfl, Or.inr (Or.inr (Or.inr (Or.inr (Or.inr (Or.inr (⟨rfl, rfl, bp_last H.out hn⟩))))))⟩
        case measure => simp [intOf]
    · have H : Hid (bn n = 0) := h
      clear h HN
      go_wp2_with fail
      go_ret
      exact ⟨ret_int (by rw [H.out]; rfl), rfl⟩
theorem halves (k : Nat) (_ : k < 18446744073709551616) : IntKind.u64.wrap (IntKind.u64.wrap ((IntKind.u64.wrap ((k : Int) / 4294967296 * 2135587861 + (k : Int) % 4294967296 * 2654435769)).tmod 4294967296 * 4294967296) + (k : Int) % 4294967296 * 2135587861) = ((k * 11400714819323198485 % 18446744073709551616 : Nat) : Int) := by
  rw [IntKind.wrap_u64, IntKind.wrap_u64, IntKind.wrap_u64, Int.tmod_eq_emod_of_nonneg (by omega)]
  omega
theorem half (N i : Nat) : N / 2 ^ i / 2 = N / 2 ^ (i + 1) := by rw [Nat.div_div_eq_div_mul, Nat.pow_succ]
theorem fin_home (b k : Nat) (h1 : 1 ≤ b) (h2 : b ≤ 6) : wrap64 ((k * 11400714819323198485 % 18446744073709551616 / 2 ^ (64 - b) : Nat) : Int) = (hmb b k : Int) := by
  show wrap64 ((hmb b k : Nat) : Int) = _
  have h3 : hmb b k < 2 ^ b := hmb_lt (by omega)
  have h4 : 2 ^ b ≤ 2 ^ 6 := Nat.pow_le_pow_right (by decide) h2
  have h5 : hmb b k < 64 := Nat.lt_of_lt_of_le h3 h4
  generalize hmb b k = x at *
  unfold wrap64; omega
set_option maxHeartbeats 1000000 in
theorem homeOf_any (b k : Nat) (w : World) (h1 : 1 ≤ b) (h2 : b ≤ 6) (hk : k < 18446744073709551616) : Calls Try.prog 14 #[.int .i64 (b : Int), .int .u64 (k : Int)] w fun e w' => e = .returned (.int .i64 (hmb b k : Int)) ∧ w' = w := by
  have HH : Hid (∀ p, p = _ → p = _) := fun _ h => h.trans (halves k hk)
  have HF : Hid (wrap64 ((k * 11400714819323198485 % 18446744073709551616 / 2 ^ (64 - b) : Nat) : Int) = (hmb b k : Int)) := fin_home b k h1 h2
  have HB : Hid (k * 11400714819323198485 % 18446744073709551616 < 18446744073709551616) := Nat.mod_lt _ (by decide)
  go_enter Try.func14, Try.ntmps14
  go_wp2_with fail
  generalize k * 11400714819323198485 % 18446744073709551616 = N at *
  go_loop [7, 24] (fun s i => ∃ j : Nat, i = .int .i64 (j : Int) ∧ j ≤ 64 - b ∧ s = .int .u64 ((N / 2 ^ j : Nat) : Int)) (fun _ i => 64 - b - (intOf i).toNat)
  case atStart => exact ⟨0, rfl, by omega, by rw [Nat.pow_zero, Nat.div_one]; exact congrArg _ (HH.out _ rfl)⟩
  case round =>
    obtain ⟨j, rfl, hj, rfl⟩ := hrel
    by_cases hlt : j < 64 - b
    · have hlt' : (j : Int) < 64 - (b : Int) := by omega
      have HS : Hid (N / 2 ^ j / 2 = N / 2 ^ (j + 1)) := half N j
      have hx : N / 2 ^ j < 18446744073709551616 := Nat.lt_of_le_of_lt (Nat.div_le_self _ _) HB.out
      generalize N / 2 ^ j = x at *
      go_wp2_with fail
      go_round
      case rel => exact ⟨j + 1, by go_num, by omega, by rw [← HS.out]; go_num⟩
      case measure => simp [intOf]; omega
    · have hlt' : ¬ (j : Int) < 64 - (b : Int) := by omega
      obtain rfl : j = 64 - b := by omega
      clear hj hlt
      go_wp2_with fail
      go_ret
      exact ⟨ret_int (by rw [← HF.out, Int.natCast_ediv, Int.natCast_pow]; rfl), rfl⟩
end Go.Proofs.Ytmnmjmbfnecmoaa.rh
