/- What package sum's functions answer, and that they change nothing: contracts of Add, Of, Right, Fix and what they call. -/
import Derived.Test.YtlbpapngcgnepaaRows
import Derived.Test.YtlbpapngcgnepaaSumMath
import Derived.WalkKit
import Derived.ProofKit
import Derived.OpenShut
import Derived.ShutString
import Derived.WalkSpells
import Derived.WalkLawsBesides
import Derived.Deep.QuietTactic
import Derived.BigQuiet
namespace Go.Proofs.Ytlbpapngcgnepaa.sumw
open Go.ChangeShapes Go.WideShapes Go.ChangeAt Go.RowKit
open Go.Proofs.Ytlbpapngcgnepaa.SM

theorem ret_int {k : IntKind} {a b : Int} (h : a = b) : Ending.returned (.int k a) = .returned (.int k b) := by rw [h]

theorem less_any (a : Int) (w : World) (h0 : 0 ≤ a) (h1 : a ≤ 65535) :
    Calls Try.prog 66 #[.int .u16 a] w fun e w' => e = .returned (.int .u16 (65535 - a)) ∧ w' = w := by
  go_enter Try.func66, Try.ntmps66
  go_wp2
  go_ret
  exact ⟨rfl, rfl⟩
theorem word_any (a b : Int) (w : World) (h0 : 0 ≤ a) (h1 : a ≤ 255) (h2 : 0 ≤ b) (h3 : b ≤ 255) :
    Calls Try.prog 85 #[.int .u8 a, .int .u8 b] w fun e w' => e = .returned (.int .u16 (256 * a + b)) ∧ w' = w := by
  go_enter Try.func85, Try.ntmps85
  go_wp2
  go_ret
  exact ⟨ret_int (word_or a b h0 h1 h2 h3), rfl⟩
theorem plus_any (a b : Int) (w : World) (h0 : 0 ≤ a) (h1 : a ≤ 65535) (h2 : 0 ≤ b) (h3 : b ≤ 65535) :
    Calls Try.prog 84 #[.int .u16 a, .int .u16 b] w fun e w' => e = .returned (.int .u16 (ea a b)) ∧ w' = w := by
  go_enter Try.func84, Try.ntmps84
  go_wp2
  · go_ret
    exact ⟨ret_int (by unfold ea; rw [if_pos (by omega)]), rfl⟩
  · go_ret
    exact ⟨ret_int (by unfold ea; rw [if_neg (by omega)]), rfl⟩

/-- the world has at most drawn -/
def Qd (w w' : World) : Prop := ∃ m, w' = w.drewN m
theorem Qd.refl (w : World) : Qd w w := ⟨0, rfl⟩
theorem Qd.drewN {w w' : World} (h : Qd w w') (n : Nat) : Qd w (w'.drewN n) := by
  obtain ⟨m, rfl⟩ := h; exact ⟨m + n, by rw [World.drewN_drewN]⟩
theorem Qd.trans {w w' w'' : World} (h : Qd w w') (h' : Qd w' w'') : Qd w w'' := by
  obtain ⟨m, rfl⟩ := h'; exact h.drewN m
theorem Qd.quiet {P : Program} {f : FuncId} {args : Array Value} {w : World} {n : Nat} {v : Value}
    (h : Calls P f args (w.drewN n) fun e w' => e = .returned v ∧ Qd (w.drewN n) w') : Calls P f args (w.drewN n) fun e w'' => e = .returned v ∧ ∃ m, w'' = w.drewN m :=
  Calls.quiet_of h

theorem word_byte (x y : UInt8) (w : World) :
    Calls Try.prog 85 #[.int .u8 (x.toNat : Int), .int .u8 (y.toNat : Int)] w fun e w' => e = .returned (.int .u16 (256 * (x.toNat : Int) + (y.toNat : Int))) ∧ w' = w :=
  word_any _ _ w (byte_bd x).1 (byte_bd x).2 (byte_bd y).1 (byte_bd y).2

set_option maxHeartbeats 400000 in
theorem add_any (n : Int) (s : ByteArray) (w : World) (h0 : 0 ≤ n) (h1 : n ≤ 65535) (hs : s.size ≤ 281474976710656) :
    Calls Try.prog 67 #[.int .u16 n, .string s] w fun e w' => e = .returned (.int .u16 (wsum n s.data.toList)) ∧ Qd w w' := by
  have hl : s.data.toList.length = s.size := by simp
  go_enter Try.func67, Try.ntmps67
  go_wp2_with fail
  go_loopw [0, 6] (fun a i w' => ∃ (k : Nat) (c : Int), k ≤ s.size ∧ k % 2 = 0 ∧ i = .int .i64 k ∧ a = .int .u16 c ∧ 0 ≤ c ∧ c ≤ 65535 ∧ Hid (wsum c (s.data.toList.drop k) = wsum n s.data.toList) ∧ Qd w w') (fun _ i _ => s.size - (intOf i).toNat)
  case atStart => exact ⟨0, n, Nat.zero_le _, rfl, rfl, rfl, h0, h1, (rfl : _ = _), Qd.refl _⟩
  case round =>
    obtain ⟨k, c, hk, hk2, rfl, rfl, hc0, hc1, hw, hq⟩ := hrel
    by_cases hlt : k + 1 < s.size
    · have hlt' : (k : Int) < (s.size : Int) - (s.size : Int) % 2 := by omega
      have hk1 : (k : Int) + 1 < s.size := by omega
      have hkk : (k : Int) < s.size := by omega
      have hk0 : (0 : Int) ≤ (k : Int) + 1 := by omega
      go_wp2_with fail
      go_quiet ((first | (go_at_call 85; exact Calls.quiet_of_same (word_byte _ _ _)) | (go_at_call 84; exact Calls.quiet_of_same (plus_any _ _ _ hc0 hc1 (by have := byte_bd s[k]; have := byte_bd s[k+1]; omega) (by have := byte_bd s[k]; have := byte_bd s[k+1]; omega)))))
      go_wp2_with fail
      go_roundw
      case rel =>
        have hb := byte_bd s[k]
        have hb' := byte_bd s[k + 1]
        have hbd := ea_bd c (256 * (s[k].toNat : Int) + (s[k + 1].toNat : Int)) hc0 hc1 (by omega) (by omega)
        refine ⟨k + 2, _, by omega, by omega, by go_num, rfl, hbd.1, hbd.2, ?_, hq.drewN _⟩
        have hst := wsum_step c s.data.toList k (by omega)
        exact (hst.symm.trans hw.out : _ = _)
      case measure => simp [intOf]; omega
    · have hge : ¬ (k : Int) < (s.size : Int) - (s.size : Int) % 2 := by omega
      by_cases hodd : k = s.size
      · have hno : ¬ (s.size : Int) - (s.size : Int) % 2 < (s.size : Int) := by omega
        go_wp2_with fail
        go_ret
        refine ⟨ret_int ?_, hq⟩
        have := hw.out
        rw [wsum_end c _ k (by omega)] at this
        exact this
      · have hyes : (s.size : Int) - (s.size : Int) % 2 < (s.size : Int) := by omega
        have hk1 : k < s.size := by omega
        have hix : ∀ u, (Instr.index 9 (.string s) (.int .i64 ((s.size : Int) - (s.size : Int) % 2))).run Try.prog u = .ok (.int .u8 (s[k].toNat : Int)) u := fun u => by
          rw [run_index_string u 9 s .i64 _ Try.underlying9, dif_pos ⟨by omega, by omega⟩]
          have e : ((s.size : Int) - (s.size : Int) % 2).toNat = k := by omega
          simp only [e]
        go_wp2_with fail
        refine (word_any _ _ _ (byte_bd _).1 (byte_bd _).2 (by omega) (by omega)).mono ?_
        rintro e w' ⟨rfl, rfl⟩
        go_wp2_with fail
        refine (plus_any _ _ _ hc0 hc1 (by have := byte_bd s[k]; omega) (by have := byte_bd s[k]; omega)).mono ?_
        rintro e w' ⟨rfl, rfl⟩
        go_wp2_with fail
        go_ret
        refine ⟨ret_int ?_, hq⟩
        have := hw.out
        rw [wsum_last c _ k (by omega) (by omega)] at this
        rw [← this]; rfl

theorem of_any (s : ByteArray) (w : World) (hs : s.size ≤ 281474976710656) :
    Calls Try.prog 48 #[.string s] w fun e w' => e = .returned (.int .u16 (65535 - wsum 0 s.data.toList)) ∧ Qd w w' := by
  have hb := wsum_bd 0 s.data.toList (by omega) (by omega)
  go_enter Try.func48, Try.ntmps48
  go_wp2_with fail
  refine (add_any 0 s _ (by omega) (by omega) hs).mono ?_
  rintro e w' ⟨rfl, hq⟩
  go_wp2_with fail
  refine (less_any _ _ hb.1 hb.2).mono ?_
  rintro e w'' ⟨rfl, rfl⟩
  go_wp2_with fail
  go_ret
  exact ⟨rfl, hq⟩
end Go.Proofs.Ytlbpapngcgnepaa.sumw
