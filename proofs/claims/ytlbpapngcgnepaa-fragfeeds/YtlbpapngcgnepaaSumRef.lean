/- What the document's own answer to sums (package custref) comes to: the same sum of words. -/
import Derived.Test.YtlbpapngcgnepaaJoinB
namespace Go.Proofs.Ytlbpapngcgnepaa.sumr
open Go.ChangeShapes Go.WideShapes Go.ChangeAt Go.RowKit
open Go.Proofs.Ytlbpapngcgnepaa.SM Go.Proofs.Ytlbpapngcgnepaa.sumw

theorem endAround_any (a b : Int) (w : World) (h0 : 0 ≤ a) (h1 : a ≤ 65535) (h2 : 0 ≤ b) (h3 : b ≤ 65535) :
    Calls Try.prog 86 #[.int .i64 a, .int .i64 b] w fun e w' => e = .returned (.int .i64 (ea a b)) ∧ w' = w := by
  go_enter Try.func86, Try.ntmps86
  go_wp2
  · go_ret
    exact ⟨ret_int (by unfold ea; rw [if_pos (by omega)]), rfl⟩
  · go_ret
    exact ⟨ret_int (by unfold ea; rw [if_neg (by omega)]), rfl⟩

theorem wordAt_two (s : ByteArray) (k : Nat) (w : World) (hs : s.size ≤ 281474976710656) (h : k + 1 < s.size) :
    Calls Try.prog 87 #[.string s, .int .i64 (k : Int)] w fun e w' => e = .returned (.int .i64 (256 * (s[k].toNat : Int) + (s[k + 1].toNat : Int))) ∧ w' = w := by
  have h1 : (k : Int) + 1 < s.size := by omega
  have h2 : (k : Int) < s.size := by omega
  have hb := byte_bd s[k]
  have hb' := byte_bd s[k + 1]
  have hix : ∀ u, (Instr.index 9 (.string s) (.int .i64 ((k : Int) + 1))).run Try.prog u = .ok (.int .u8 (s[k + 1].toNat : Int)) u := fun u => by
    rw [run_index_string u 9 s .i64 _ Try.underlying9, dif_pos ⟨by omega, by omega⟩]
    have e : ((k : Int) + 1).toNat = k + 1 := by omega
    simp only [e]
  go_enter Try.func87, Try.ntmps87
  go_wp2
  go_ret
  exact ⟨rfl, rfl⟩
theorem wordAt_one (s : ByteArray) (k : Nat) (w : World) (hs : s.size ≤ 281474976710656) (h : k < s.size) (hle : s.size ≤ k + 1) :
    Calls Try.prog 87 #[.string s, .int .i64 (k : Int)] w fun e w' => e = .returned (.int .i64 (256 * (s[k].toNat : Int))) ∧ w' = w := by
  have h1 : ¬ (k : Int) + 1 < s.size := by omega
  have h2 : (k : Int) < s.size := by omega
  have hb := byte_bd s[k]
  go_enter Try.func87, Try.ntmps87
  go_wp2
  go_ret
  exact ⟨rfl, rfl⟩

set_option maxHeartbeats 400000 in
theorem sumOf_any (n : Int) (s : ByteArray) (w : World) (h0 : 0 ≤ n) (h1 : n ≤ 65535) (hs : s.size ≤ 281474976710656) :
    Calls Try.prog 68 #[.int .i64 n, .string s] w fun e w' => e = .returned (.int .i64 (wsum n s.data.toList)) ∧ w' = w := by
  have hl : s.data.toList.length = s.size := by simp
  go_enter Try.func68, Try.ntmps68
  go_wp2_with fail
  go_loop [0, 5] (fun a i => ∃ (k : Nat) (c : Int), k ≤ s.size + 1 ∧ i = .int .i64 k ∧ a = .int .i64 c ∧ 0 ≤ c ∧ c ≤ 65535 ∧ Hid (wsum c (s.data.toList.drop k) = wsum n s.data.toList)) (fun _ i => s.size + 1 - (intOf i).toNat)
  case atStart => exact ⟨0, n, Nat.zero_le _, rfl, rfl, h0, h1, (rfl : _ = _)⟩
  case round =>
    obtain ⟨k, c, hk, rfl, rfl, hc0, hc1, hw⟩ := hrel
    by_cases hlt : k < s.size
    · have hlt' : (k : Int) < (s.size : Int) := by omega
      have hb := byte_bd s[k]
      by_cases h2 : k + 1 < s.size
      · have hb' := byte_bd s[k + 1]
        have hbd := ea_bd c (256 * (s[k].toNat : Int) + (s[k + 1].toNat : Int)) hc0 hc1 (by omega) (by omega)
        go_wp2_with fail
        refine (wordAt_two s k _ hs h2).mono ?_
        rintro e w' ⟨rfl, rfl⟩
        go_wp2_with fail
        refine (endAround_any _ _ _ hc0 hc1 (by omega) (by omega)).mono ?_
        rintro e w' ⟨rfl, rfl⟩
        go_wp2_with fail
        go_round
        case rel =>
          refine ⟨k + 2, _, by omega, by go_num, rfl, hbd.1, hbd.2, ?_⟩
          exact ((wsum_step c s.data.toList k (by omega)).symm.trans hw.out : _ = _)
        case measure => simp [intOf]; omega
      · have hbd := ea_bd c (256 * (s[k].toNat : Int)) hc0 hc1 (by omega) (by omega)
        go_wp2_with fail
        refine (wordAt_one s k _ hs hlt (by omega)).mono ?_
        rintro e w' ⟨rfl, rfl⟩
        go_wp2_with fail
        refine (endAround_any _ _ _ hc0 hc1 (by omega) (by omega)).mono ?_
        rintro e w' ⟨rfl, rfl⟩
        go_wp2_with fail
        go_round
        case rel =>
          refine ⟨k + 2, _, by omega, by go_num, rfl, hbd.1, hbd.2, ?_⟩
          have hh := hw.out
          rw [wsum_last c _ k (by omega) (by omega)] at hh
          have he := wsum_end (ea c (256 * (s[k].toNat : Int))) s.data.toList (k + 2) (by omega)
          exact (he.trans hh : _ = _)
        case measure => simp [intOf]; omega
    · have hge : ¬ (k : Int) < (s.size : Int) := by omega
      go_wp2_with fail
      go_ret
      refine ⟨ret_int ?_, rfl⟩
      have := hw.out
      rw [wsum_end c _ k (by omega)] at this
      exact this
theorem check_any (s : ByteArray) (w : World) (hs : s.size ≤ 281474976710656) :
    Calls Try.prog 52 #[.string s] w fun e w' => e = .returned (.int .i64 (65535 - wsum 0 s.data.toList)) ∧ w' = w := by
  have hb := wsum_bd 0 s.data.toList (by omega) (by omega)
  go_enter Try.func52, Try.ntmps52
  go_wp2_with fail
  refine (sumOf_any 0 s _ (by omega) (by omega) hs).mono ?_
  rintro e w' ⟨rfl, rfl⟩
  go_wp2_with fail
  go_ret
  exact ⟨rfl, rfl⟩
end Go.Proofs.Ytlbpapngcgnepaa.sumr
