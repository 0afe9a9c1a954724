/- What package table's small functions answer: rightBits, bitsOf, Home, homeIn, behind, way, usedOf. -/
import Derived.Test.YtmnmjmbfnecmoaaTabBase
namespace Go.Proofs.Ytmnmjmbfnecmoaa.ti
open Go.ChangeShapes Go.WideShapes Go.ChangeAt Go.RowKit Go.BigFrame
open Go.Proofs.Ytmnmjmbfnecmoaa Go.Proofs.Ytmnmjmbfnecmoaa.tm Go.Proofs.Ytmnmjmbfnecmoaa.tb Go.Proofs.Ytmnmjmbfnecmoaa.boxes Go.Proofs.Ytmnmjmbfnecmoaa.rwr
open Go.Proofs.Ytmnmjmbfnecmoaa.rws (Knd Own)

theorem right_any (b : Int) (w : World) : Calls Try.prog 26 #[.int .i64 b] w fun e w' => e = .returned (.bool (rb b)) ∧ w' = w := by
  unfold rb
  by_cases h1 : 1 ≤ b
  · by_cases h2 : b ≤ 6
    · go_enter Try.func26, Try.ntmps26
      go_wp2_with fail
      go_ret
      exact ⟨ret_bool (by simp [h1, h2]), rfl⟩
    · go_enter Try.func26, Try.ntmps26
      go_wp2_with fail
      go_ret
      exact ⟨ret_bool (by simp [h2]), rfl⟩
  · go_enter Try.func26, Try.ntmps26
    go_wp2_with fail
    go_ret
    exact ⟨ret_bool (by rw [decide_eq_false (show ¬ 1 ≤ b by omega)]; rfl), rfl⟩
/-- the sizes ahead are not n -/
def bp (n : Nat) (k : Int) : Prop := k = 1 ∨ (k = 2 ∧ n ≠ 2) ∨ (k = 3 ∧ n ≠ 2 ∧ n ≠ 4) ∨ (k = 4 ∧ n ≠ 2 ∧ n ≠ 4 ∧ n ≠ 8) ∨ (k = 5 ∧ n ≠ 2 ∧ n ≠ 4 ∧ n ≠ 8 ∧ n ≠ 16) ∨ (k = 6 ∧ n ≠ 2 ∧ n ≠ 4 ∧ n ≠ 8 ∧ n ≠ 16 ∧ n ≠ 32) ∨ (k = 7 ∧ bn n = 0)
theorem bp_last {n : Nat} (h : n ≠ 2 ∧ n ≠ 4 ∧ n ≠ 8 ∧ n ≠ 16 ∧ n ≠ 32) (h6 : n ≠ 64) : bn n = 0 := by unfold bn; simp [h, h6]
set_option maxHeartbeats 1000000 in
theorem bits_any (sa : Option Addr) (n sc : Nat) (w : World) : Calls Try.prog 27 #[.slice sa n sc] w fun e w' => e = .returned (.int .i64 (bn n : Int)) ∧ w' = w := by
  go_enter Try.func27, Try.ntmps27
  go_wp2_with fail
  go_loop [3] (fun i => ∃ k : Int, i = .int .i64 k ∧ Hid (bp n k)) (fun i => 8 - (intOf i).toNat)
  case atStart => exact ⟨1, rfl, Or.inl rfl⟩
  case round =>
    obtain ⟨k, rfl, HN⟩ := hrel
    rcases HN.out with rfl | ⟨rfl, h⟩ | ⟨rfl, h⟩ | ⟨rfl, h⟩ | ⟨rfl, h⟩ | ⟨rfl, h⟩ | ⟨rfl, h⟩
    · by_cases hn : n = 2
      · subst hn
        go_wp2_with fail
        go_ret
        exact ⟨rfl, rfl⟩
      · have hn' : ¬ (n : Int) = 2 := by omega
        go_wp2_with fail
        go_round
        case rel => exact ⟨2, rfl, Or.inr (Or.inl ⟨rfl, hn⟩)⟩
        case measure => simp [intOf]
    · have H : Hid (n ≠ 2) := h
      clear h HN
      by_cases hn : n = 4
      · subst hn
        go_wp2_with fail
        go_ret
        exact ⟨rfl, rfl⟩
      · have hn' : ¬ (n : Int) = 4 := by omega
        go_wp2_with fail
        go_round
        case rel => exact ⟨3, rfl, Or.inr (Or.inr (Or.inl ⟨rfl, H.out, hn⟩))⟩
        case measure => simp [intOf]
    · have H : Hid (n ≠ 2 ∧ n ≠ 4) := h
      clear h HN
      by_cases hn : n = 8
      · subst hn
        go_wp2_with fail
        go_ret
        exact ⟨rfl, rfl⟩
      · have hn' : ¬ (n : Int) = 8 := by omega
        go_wp2_with fail
        go_round
        case rel => exact ⟨4, rfl, Or.inr (Or.inr (Or.inr (Or.inl ⟨rfl, H.out.1, H.out.2, hn⟩)))⟩
        case measure => simp [intOf]
    · have H : Hid (n ≠ 2 ∧ n ≠ 4 ∧ n ≠ 8) := h
      clear h HN
      by_cases hn : n = 16
      · subst hn
        go_wp2_with fail
        go_ret
        exact ⟨rfl, rfl⟩
      · have hn' : ¬ (n : Int) = 16 := by omega
        go_wp2_with fail
        go_round
        case rel => exact ⟨5, rfl, Or.inr (Or.inr (Or.inr (Or.inr (Or.inl ⟨rfl, H.out.1, H.out.2.1, H.out.2.2, hn⟩))))⟩
        case measure => simp [intOf]
    · have H : Hid (n ≠ 2 ∧ n ≠ 4 ∧ n ≠ 8 ∧ n ≠ 16) := h
      clear h HN
      by_cases hn : n = 32
      · subst hn
        go_wp2_with fail
        go_ret
        exact ⟨rfl, rfl⟩
      · have hn' : ¬ (n : Int) = 32 := by omega
        go_wp2_with fail
        go_round
        case rel => exact ⟨6, rfl, Or.inr (Or.inr (Or.inr (Or.inr (Or.inr (Or.inl ⟨rfl, H.out.1, H.out.2.1, H.out.2.2.1, H.out.2.2.2, hn⟩)))))⟩
        case measure => simp [intOf]
    · have H : Hid (n ≠ 2 ∧ n ≠ 4 ∧ n ≠ 8 ∧ n ≠ 16 ∧ n ≠ 32) := h
      clear h HN
      by_cases hn : n = 64
      · subst hn
        go_wp2_with fail
        go_ret
        exact ⟨rfl, rfl⟩
      · have hn' : ¬ (n : Int) = 64 := by omega
        go_wp2_with fail
        go_round
        case rel => exact ⟨7, rfl, Or.inr (Or.inr (Or.inr (Or.inr (Or.inr (Or.inr ⟨rfl, bp_last H.out hn⟩)))))⟩
        case measure => simp [intOf]
    · have H : Hid (bn n = 0) := h
      clear h HN
      go_wp2_with fail
      go_ret
      exact ⟨ret_int (by rw [H.out]; rfl), rfl⟩
theorem shr_law (k : Nat) (b D : Nat) (d : Int) (hd : d = (D : Int)) (h : 2 ^ (64 - b) = D) (hD : 2 ≤ D) : wrap64 (IntKind.u64.wrap ((k : Int) * 11400714819323198485) / d) = (hmb b k : Int) := by
  subst hd
  rw [IntKind.wrap_u64]
  have e : ((k : Int) * 11400714819323198485) % 18446744073709551616 / (D : Int) = ((k * 11400714819323198485 % 18446744073709551616 / D : Nat) : Int) := by rw [Int.natCast_ediv, Int.natCast_emod, Int.natCast_mul]; rfl
  rw [e]
  unfold hmb
  rw [h]
  have h2 : k * 11400714819323198485 % 18446744073709551616 / D < 9223372036854775808 := by
    rw [Nat.div_lt_iff_lt_mul (by omega)]
    have := Nat.mod_lt (k * 11400714819323198485) (show 0 < 18446744073709551616 by decide)
    have h3 : 9223372036854775808 * 2 ≤ 9223372036854775808 * D := Nat.mul_le_mul_left _ hD
    omega
  generalize k * 11400714819323198485 % 18446744073709551616 / D = x at *
  unfold wrap64; omega
set_option maxHeartbeats 1000000 in
theorem home_ok (b k : Nat) (w : World) (h1 : 1 ≤ b) (h2 : b ≤ 6) : Calls Try.prog 9 #[.int .i64 (b : Int), .int .u64 (k : Int)] w fun e w' => e = .returned (.tuple #[.int .i64 (hmb b k : Int), .int .i64 0]) ∧ w' = w := by
  have CR := fun u => right_any (b : Int) u
  have er : rb (b : Int) = true := by unfold rb; simp; omega
  rw [er] at CR
  have hb : b = 1 ∨ b = 2 ∨ b = 3 ∨ b = 4 ∨ b = 5 ∨ b = 6 := by omega
  clear er h1 h2
  have e1 := shr_law k 1 9223372036854775808 9223372036854775808 rfl rfl (by decide)
  have e2 := shr_law k 2 4611686018427387904 4611686018427387904 rfl rfl (by decide)
  have e3 := shr_law k 3 2305843009213693952 2305843009213693952 rfl rfl (by decide)
  have e4 := shr_law k 4 1152921504606846976 1152921504606846976 rfl rfl (by decide)
  have e5 := shr_law k 5 576460752303423488 576460752303423488 rfl rfl (by decide)
  have e6 := shr_law k 6 288230376151711744 288230376151711744 rfl rfl (by decide)
  rcases hb with rfl | rfl | rfl | rfl | rfl | rfl
  all_goals
    go_enter Try.func9, Try.ntmps9
    go_wp2_with fail
    refine (CR _).mono ?_
    rintro e w1 ⟨rfl, rfl⟩
    go_wp2_with fail
    go_ret2
    exact ⟨ret_two (by first | exact e1 | exact e2 | exact e3 | exact e4 | exact e5 | exact e6) rfl, rfl⟩
theorem home_no (b : Int) (k : Int) (w : World) (h : rb b = false) : Calls Try.prog 9 #[.int .i64 b, .int .u64 k] w fun e w' => e = .returned (.tuple #[.int .i64 0, .int .i64 1]) ∧ w' = w := by
  have CR := fun u => right_any b u
  rw [h] at CR
  clear h
  go_enter Try.func9, Try.ntmps9
  go_wp2_with fail
  refine (CR _).mono ?_
  rintro e w1 ⟨rfl, rfl⟩
  go_wp2_with fail
  go_ret2
  exact ⟨rfl, rfl⟩
theorem behind_any (sa : Option Addr) (n sc a : Nat) (w : World) (hn : 0 < n) (hm : n ≤ 1000) (ha : a < n) : Calls Try.prog 35 #[.slice sa n sc, .int .i64 (a : Int)] w fun e w' => e = .returned (.int .i64 (nx n a : Int)) ∧ w' = w := by
  have e := nx_tmod n a
  have h0 : ¬ (n : Int) = 0 := by omega
  go_enter Try.func35, Try.ntmps35
  go_wp2_with fail
  go_ret
  exact ⟨rfl, rfl⟩
theorem way_any (sa : Option Addr) (n sc a b : Nat) (w : World) (hn : 0 < n) (hm : n ≤ 1000) (ha : a < n) (hb : b < n) : Calls Try.prog 40 #[.slice sa n sc, .int .i64 (a : Int), .int .i64 (b : Int)] w fun e w' => e = .returned (.int .i64 (stp n a b : Int)) ∧ w' = w := by
  have e := stp_tmod n a b (by omega)
  have h0 : ¬ (n : Int) = 0 := by omega
  go_enter Try.func40, Try.ntmps40
  go_wp2_with fail
  go_ret
  exact ⟨rfl, rfl⟩
end Go.Proofs.Ytmnmjmbfnecmoaa.ti
