/- The small ones: ports.Check, bitOf, bitsLike; cmp.Or of three numbers; math/bits' TrailingZeros64 and OnesCount64; custref.Between, PortsRight. -/
import Derived.Test.YtajhdpkiafaebaaDoorPtBase
import Derived.Laws.Bits128
namespace Go.Proofs.YtajhdpkiafaebaaDoor.pt1
open Go.ChangeShapes Go.WideShapes Go.ChangeAt Go.RowKit Go.BigFrame
open Go.Proofs.YtajhdpkiafaebaaDoor Go.Proofs.YtajhdpkiafaebaaDoor.pm Go.Proofs.YtajhdpkiafaebaaDoor.pp Go.Proofs.YtajhdpkiafaebaaDoor.pt Go.Proofs.YtajhdpkiafaebaaDoor.boxes

theorem between_any (a b c : Int) (w : World) : Calls Tryd.prog 19 #[.int .i64 a, .int .i64 b, .int .i64 c] w fun e w' => e = .returned (.bool (decide (b ≤ a) && decide (a ≤ c))) ∧ w' = w := by
  by_cases h1 : b ≤ a
  · by_cases h2 : a ≤ c
    · go_enter Tryd.func19, Tryd.ntmps19
      go_wp2_with fail
      go_ret
      exact ⟨ret_bool (by simp [h1, h2]), rfl⟩
    · go_enter Tryd.func19, Tryd.ntmps19
      go_wp2_with fail
      go_ret
      exact ⟨ret_bool (by rw [decide_eq_false (show ¬ a ≤ c by omega)]), rfl⟩
  · go_enter Tryd.func19, Tryd.ntmps19
    go_wp2_with fail
    go_ret
    exact ⟨ret_bool (by rw [decide_eq_false (show ¬ b ≤ a by omega)]; rfl), rfl⟩
theorem check_any (b : Int) (t : Nat) (w : World) : Calls Tryd.prog 13 #[.agg (PC b t)] w fun e w' => e = .returned (.int .i64 (perr b)) ∧ Below w.heap.size w w' := by
  have F0 := (Blk.new w (PC b t) 24).cell
  have b0 := (Below.refl w.heap.size w).alloc (Nat.le_refl _) (.cells (PC b t) 24)
  by_cases h1 : b < 64
  · have e : perr b = 1 := by unfold perr; rw [if_neg (by omega)]
    rw [e]; clear e
    go_enter Tryd.func13, Tryd.ntmps13
    go_wp2_with fail
    go_ret
    exact ⟨rfl, b0⟩
  by_cases h2 : 65472 < b
  · have e : perr b = 1 := by unfold perr; rw [if_neg (by omega)]
    rw [e]; clear e
    go_enter Tryd.func13, Tryd.ntmps13
    go_wp2_with fail
    go_ret
    exact ⟨rfl, b0⟩
  have hm : b.tmod 64 = b % 64 := Int.tmod_eq_emod_of_nonneg (by omega)
  by_cases h3 : b % 64 = 0
  · have e : perr b = 0 := by unfold perr; rw [if_pos (by omega)]
    have hm0 : (b % 64 != 0) = false := by simpa using h3
    rw [e]; clear e hm h3
    go_enter Tryd.func13, Tryd.ntmps13
    go_wp2_with fail
    go_ret
    exact ⟨rfl, b0⟩
  · have e : perr b = 1 := by unfold perr; rw [if_neg (by omega)]
    have hm0 : (b % 64 != 0) = true := by simpa using h3
    rw [e]; clear e hm h3
    go_enter Tryd.func13, Tryd.ntmps13
    go_wp2_with fail
    go_ret
    exact ⟨rfl, b0⟩
theorem right_any (b : Int) (t : Nat) (w : World) : Calls Tryd.prog 11 #[.agg (PC b t)] w fun e w' => e = .returned (.int .i64 (perr b)) ∧ Below w.heap.size w w' := by
  have F0 := (Blk.new w (PC b t) 24).cell
  have b0 := (Below.refl w.heap.size w).alloc (Nat.le_refl _) (.cells (PC b t) 24)
  have CB := fun u => between_any b 64 65472 u
  by_cases h1 : 64 ≤ b ∧ b ≤ 65472
  · have hb : (decide (64 ≤ b) && decide (b ≤ 65472)) = true := by simp [h1]
    rw [hb] at CB
    have hm : b.tmod 64 = b % 64 := Int.tmod_eq_emod_of_nonneg (by omega)
    by_cases h3 : b % 64 = 0
    · have e : perr b = 0 := by unfold perr; rw [if_pos (by omega)]
      have hm0 : (b % 64 != 0) = false := by simpa using h3
      rw [e]; obtain ⟨h1, _⟩ := h1; clear e hm h3 hb
      go_enter Tryd.func11, Tryd.ntmps11
      go_wp2_with fail
      refine (CB _).mono ?_
      rintro e w1 ⟨rfl, rfl⟩
      go_wp2_with fail
      go_ret
      exact ⟨rfl, b0⟩
    · have e : perr b = 1 := by unfold perr; rw [if_neg (by omega)]
      have hm0 : (b % 64 != 0) = true := by simpa using h3
      rw [e]; obtain ⟨h1, _⟩ := h1; clear e hm h3 hb
      go_enter Tryd.func11, Tryd.ntmps11
      go_wp2_with fail
      refine (CB _).mono ?_
      rintro e w1 ⟨rfl, rfl⟩
      go_wp2_with fail
      go_ret
      exact ⟨rfl, b0⟩
  · have hb : (decide (64 ≤ b) && decide (b ≤ 65472)) = false := by
      rw [Bool.and_eq_false_iff, decide_eq_false_iff_not, decide_eq_false_iff_not]; omega
    rw [hb] at CB
    have e : perr b = 1 := by unfold perr; rw [if_neg (by omega)]
    rw [e]; clear e h1 hb
    go_enter Tryd.func11, Tryd.ntmps11
    go_wp2_with fail
    refine (CB _).mono ?_
    rintro e w1 ⟨rfl, rfl⟩
    go_wp2_with fail
    go_ret
    exact ⟨rfl, b0⟩
theorem shl_nat {k : Nat} (h : k < 64) : IntKind.u64.wrap ((2 : Int) ^ k) = ((2 ^ k : Nat) : Int) := by
  have hp := pow_lt h
  rw [IntKind.wrap_u64, show ((2 : Int) ^ k) = ((2 ^ k : Nat) : Int) by simp]
  generalize 2 ^ k = N at *
  omega
theorem bitOf_any (b p : Int) (h0 : 64 ≤ b) (h1 : b ≤ 65472) (w : World) : Calls Tryd.prog 16 #[.int .i64 b, .int .i64 p] w fun e w' => e = .returned (.int .u64 (bo (p - b))) ∧ w' = w := by
  by_cases h2 : p < b
  · have e : bo (p - b) = 0 := by unfold bo; rw [if_neg (by omega)]
    rw [e]; clear e
    go_enter Tryd.func16, Tryd.ntmps16
    go_wp2_with fail
    go_ret
    exact ⟨rfl, rfl⟩
  have hw : IntKind.i64.wrap (b + 64) = b + 64 := by rw [IntKind.wrap_i64]; omega
  by_cases h3 : b + 64 ≤ p
  · have e : bo (p - b) = 0 := by unfold bo; rw [if_neg (by omega)]
    rw [e]; clear e
    go_enter Tryd.func16, Tryd.ntmps16
    go_wp2_with fail
    go_ret
    exact ⟨rfl, rfl⟩
  · obtain ⟨k, rfl⟩ : ∃ k : Nat, p = b + (k : Int) := ⟨(p - b).toNat, by omega⟩
    have hk : k < 64 := by omega
    have e : bo (b + (k : Int) - b) = 2 ^ k := by rw [show b + (k : Int) - b = (k : Int) by omega]; exact bo_nat hk
    have hw2 : IntKind.i64.wrap (b + (k : Int) - b) = (k : Int) := by rw [IntKind.wrap_i64]; omega
    have hp := pow_lt hk
    rw [e]
    have hw3 := shl_nat hk
    generalize 2 ^ k = N at *
    clear e hp
    go_enter Tryd.func16, Tryd.ntmps16
    go_wp2_with fail
    go_ret
    exact ⟨rfl, rfl⟩
theorem and1 (n : Int) : bits .and .i64 n 1 = n % 2 := by
  have h1 : (BitVec.ofInt 64 1).toNat = 2 ^ 1 - 1 := by decide
  have key : (BitVec.ofInt 64 n &&& BitVec.ofInt 64 1).toNat = (n % ((2 ^ 64 : Nat) : Int)).toNat % 2 ^ 1 := by
    rw [BitVec.toNat_and, BitVec.toNat_ofInt, h1, Nat.and_two_pow_sub_one_eq_mod]
  show IntKind.i64.wrap ((BitVec.ofInt 64 n &&& BitVec.ofInt 64 1).toNat : Nat) = n % 2
  rw [key, IntKind.wrap_i64]
  omega
theorem bitsLike_any (p : Int) (w : World) : Calls Tryd.prog 17 #[.int .i64 p] w fun e w' => e = .returned (.int .u64 (bl (p % 2).toNat)) ∧ w' = w := by
  have h := and1 p
  have h2 : p % 2 = 0 ∨ p % 2 = 1 := by omega
  rcases h2 with h2 | h2
  · rw [h2] at h ⊢
    have e : bl (0 : Int).toNat = 6148914691236517205 := rfl
    rw [e]; clear e h2
    go_enter Tryd.func17, Tryd.ntmps17
    go_wp2_with fail
    go_ret
    exact ⟨rfl, rfl⟩
  · rw [h2] at h ⊢
    have e : bl (1 : Int).toNat = 12297829382473034410 := rfl
    rw [e]; clear e h2
    go_enter Tryd.func17, Tryd.ntmps17
    go_wp2_with fail
    go_ret
    exact ⟨rfl, rfl⟩
def or3 (a b c : Nat) : Nat := if a ≠ 0 then a else if b ≠ 0 then b else c
theorem or_any (g : Nat) (a b c : Nat) (t : TypeId) (w : World) (F : Blk w g #[.int .u64 (a : Int), .int .u64 (b : Int), .int .u64 (c : Int)] t) :
    Calls Tryd.prog 15 #[.slice (some ⟨g, 0, none⟩) 3 3] w fun e w' => e = .returned (.int .u64 (or3 a b c : Nat)) ∧ w' = w := by
  have c0 := F.cell
  by_cases ha : a ≠ 0
  · have e : or3 a b c = a := by unfold or3; rw [if_pos ha]
    have ha' : ((a : Int) != 0) = true := by simpa using ha
    rw [e]; clear e
    go_enter Tryd.func15, Tryd.ntmps15
    go_wp2_with fail
    go_loopw [8] (fun s8 wr => s8 = .int .i64 0 ∧ wr = w) (fun s _ => 0)
    case atStart => exact ⟨rfl, rfl⟩
    case round =>
      obtain ⟨rfl, rfl⟩ := hrel
      go_wp2_with fail
      go_ret
      exact ⟨rfl, rfl⟩
  · by_cases hb : b ≠ 0
    · have e : or3 a b c = b := by unfold or3; rw [if_neg ha, if_pos hb]
      have ea : a = 0 := by simpa using ha
      subst ea
      have hb' : ((b : Int) != 0) = true := by simpa using hb
      rw [e]; clear e ha
      go_enter Tryd.func15, Tryd.ntmps15
      go_wp2_with fail
      go_loopw [8] (fun s8 wr => (s8 = .int .i64 0 ∨ s8 = .int .i64 1) ∧ wr = w) (fun s _ => 2 - (intOf s).toNat)
      case atStart => exact ⟨Or.inl rfl, rfl⟩
      case round =>
        obtain ⟨h | h, rfl⟩ := hrel
        · subst h
          go_wp2_with fail
          go_roundw
          case rel => simp
          case measure => simp [intOf]
        · subst h
          go_wp2_with fail
          go_ret
          exact ⟨rfl, rfl⟩
    · have ea : a = 0 := by simpa using ha
      have eb : b = 0 := by simpa using hb
      subst ea eb
      have e : or3 0 0 c = c := rfl
      rw [e]; clear e ha hb
      by_cases hc : c = 0
      · subst hc
        go_enter Tryd.func15, Tryd.ntmps15
        go_wp2_with fail
        go_loopw [8] (fun s8 wr => (s8 = .int .i64 0 ∨ s8 = .int .i64 1 ∨ s8 = .int .i64 2 ∨ s8 = .int .i64 3) ∧ wr = w) (fun s _ => 4 - (intOf s).toNat)
        case atStart => exact ⟨Or.inl rfl, rfl⟩
        case round =>
          obtain ⟨h | h | h | h, rfl⟩ := hrel
          · subst h
            go_wp2_with fail
            go_roundw
            case rel => simp
            case measure => simp [intOf]
          · subst h
            go_wp2_with fail
            go_roundw
            case rel => simp
            case measure => simp [intOf]
          · subst h
            go_wp2_with fail
            go_roundw
            case rel => simp
            case measure => simp [intOf]
          · subst h
            go_wp2_with fail
            go_ret
            exact ⟨rfl, rfl⟩
      · have hc' : ((c : Int) != 0) = true := by simpa using hc
        go_enter Tryd.func15, Tryd.ntmps15
        go_wp2_with fail
        go_loopw [8] (fun s8 wr => (s8 = .int .i64 0 ∨ s8 = .int .i64 1 ∨ s8 = .int .i64 2) ∧ wr = w) (fun s _ => 4 - (intOf s).toNat)
        case atStart => exact ⟨Or.inl rfl, rfl⟩
        case round =>
          obtain ⟨h | h | h, rfl⟩ := hrel
          · subst h
            go_wp2_with fail
            go_roundw
            case rel => simp
            case measure => simp [intOf]
          · subst h
            go_wp2_with fail
            go_roundw
            case rel => simp
            case measure => simp [intOf]
          · subst h
            go_wp2_with fail
            go_ret
            exact ⟨rfl, rfl⟩
end Go.Proofs.YtajhdpkiafaebaaDoor.pt1
