/- The small ones: prefix.isRight, has, isNet, bitOf, half. -/
import Derived.Test.YtiddpkppfpdfhaaPfBase
import Derived.Test.YtiddpkppfpdfhaaNetSmall
import Derived.Test.YtiddpkppfpdfhaaLast
import Derived.Laws.StructEq
import Derived.ChangeKeysEq
import Derived.Laws.BitsAllLaws
namespace Go.Proofs.Ytiddpkppfpdfhaa.pf
open Go.ChangeShapes Go.WideShapes Go.ChangeAt Go.RowKit Go.BigFrame
open Go.Proofs.Ytiddpkppfpdfhaa Go.Proofs.Ytiddpkppfpdfhaa.pm Go.Proofs.Ytiddpkppfpdfhaa.boxes Go.Proofs.Ytiddpkppfpdfhaa.rwr
open Go.Proofs.Ytiddpkppfpdfhaa.rws (Knd Own)

theorem bitOf_any (a i n : Nat) (w : World) (h1 : n ≤ 32) (hi : i < n) (ha : a < 4294967296) : Calls Try.prog 47 #[.int .u32 (a : Int), .int .i64 (i : Int)] w fun e w' => e = .returned (.int .u32 (if (bts 32 a n).getD i false then 1 else 0)) ∧ w' = w := by
  have hb := bts_get 32 n a i h1 hi ha
  have e : (if (bts 32 a n).getD i false = true then (1 : Int) else 0) = bits BinOp.and IntKind.u32 ((a : Int) / 2 ^ (31 - i)) 1 := by
    rw [List.getD_eq_getElem?_getD, hb, show 32 - 1 - i = 31 - i by omega]
    have e2 : (a : Int) / (2 : Int) ^ (31 - i) = ((a / 2 ^ (31 - i) : Nat) : Int) := by simp
    have hle : a / 2 ^ (31 - i) ≤ a := Nat.div_le_self _ _
    rw [e2]
    generalize a / 2 ^ (31 - i) = X at *
    rw [show (1 : Int) = ((1 : Nat) : Int) from rfl, u32_and_nat X 1 (by omega) (by omega), Nat.and_one_is_mod]
    rcases Nat.mod_two_eq_zero_or_one X with h | h <;> simp [h]
  rw [e]
  clear e hb
  have hi2 : i ≤ 31 := by omega
  go_enter Try.func47, Try.ntmps47
  go_wp2_with fail
  go_ret
  exact ⟨rfl, rfl⟩
theorem half_or (p : Pth) (b : Bool) (h1 : p.length ≤ 31) : bits BinOp.or IntKind.u32 (ad 32 p : Int) ((if b then 1 else 0 : Int) * (2 : Int) ^ (31 - p.length) % 4294967296) = (ad 32 (p ++ [b]) : Int) := by
  have hs := ad_snoc 32 p b (by omega)
  have hd := ad_dvd 32 p (by omega)
  have hlt := ad_lt 32 p
  have hp : (2 : Nat) ^ (31 - p.length) < 4294967296 := Nat.lt_of_le_of_lt (Nat.pow_le_pow_right (by decide) (show 31 - p.length ≤ 31 by omega)) (by decide)
  rw [show 32 - 1 - p.length = 31 - p.length by omega] at hs
  rw [hs]
  cases b
  · simp only [Bool.false_eq_true, if_false, Int.zero_mul, Int.zero_emod]
    rw [show (0 : Int) = ((0 : Nat) : Int) from rfl, u32_or_nat _ 0 hlt (by decide), Nat.or_zero, Nat.add_zero]
  · simp only [if_true, Int.one_mul]
    have e1 : (2 : Int) ^ (31 - p.length) % 4294967296 = ((2 ^ (31 - p.length) : Nat) : Int) := by
      rw [show (2 : Int) ^ (31 - p.length) = ((2 ^ (31 - p.length) : Nat) : Int) by simp]
      generalize 2 ^ (31 - p.length) = N at *
      omega
    rw [e1, u32_or_nat _ _ hlt hp]
    obtain ⟨q, hq⟩ := hd
    rw [hq, ← Nat.two_pow_add_eq_or_of_lt]
    exact Nat.pow_lt_pow_right (by decide) (by omega)
set_option maxRecDepth 20000 in
theorem half_any (p : Pth) (b : Bool) (w : World) (h1 : p.length ≤ 31) : Calls Try.prog 55 #[.agg (NC (ad 32 p) p.length), .int .i64 (if b then 1 else 0)] w fun e w' => e = .returned (.agg (NC (ad 32 (p ++ [b])) ((p.length + 1 : Nat) : Int))) ∧ Below w.heap.size w w' := by
  have b1 := (Below.refl w.heap.size w).alloc (Nat.le_refl _) (.cells (NC (ad 32 p) p.length) 27)
  have b2 := b1.alloc (by simp) (.cells #[.int .u32 0, .int .i64 0] 27)
  have G1 := (Blk.new w (NC (ad 32 p) p.length) 27).alloc (.cells #[.int .u32 0, .int .i64 0] 27)
  have F2 := Blk.newAt (w.alloc (.cells (NC (ad 32 p) p.length) 27)) #[.int .u32 0, .int .i64 0] 27 (b := w.heap.size + 1) (by simp)
  have HO : Hid (bits BinOp.or IntKind.u32 (ad 32 p : Int) ((if b then 1 else 0 : Int) * (2 : Int) ^ (31 - p.length) % 4294967296) = (ad 32 (p ++ [b]) : Int)) := half_or p b h1
  have h0 : (0 : Int) ≤ (if b then 1 else 0) := by split <;> decide
  have hb : (if b then 1 else 0 : Int) ≤ 1 := by split <;> decide
  generalize ad 32 (p ++ [b]) = R at *
  generalize ad 32 p = a at *
  generalize p.length = i at *
  generalize (if b = true then 1 else 0 : Int) = B at *
  go_enter Try.func55, Try.ntmps55
  go_upto_region 1 with fail
  generalize hW : (w.alloc (Obj.cells (NC a i) 27)).alloc (.cells #[.int .u32 0, .int .i64 0] 27) = W at *
  have nn := ab.ne W
  have c0 := ab.cells G1
  refine lst.wp_region_last (ab.Ab W) (by kernel_rfl) (by simp only [List.dropLast]; exact rfl) (by simp only [List.getLast?_cons_cons, List.getLast?_singleton]; exact rfl) (by kernel_rfl) (by kernel_rfl) (ab.Ab.drew _) ?_
  repeat (go_big_quiet_step (fail))
  refine wpQuiet_nil ?_
  intro _ hx
  obtain ⟨y, rfl⟩ := hx
  have F3 := F2.below y.h F2.lt
  have b3 := b2.trans (Below.mono y.h b2.size)
  have HO := HO.out
  simp only [HO]
  refine blk_store _ rfl 27 _ _ rfl (w.heap.size + 1) (NC R ((i + 1 : Nat) : Int)) rfl rfl _ _ F3 2 nt_info rfl rfl (nt_one ⟨R, _⟩) ?_
  intro W4 K4 p4
  go_wp2_with fail
  exact blk_one rfl rfl (w.heap.size + 1) (NC R ((i + 1 : Nat) : Int)) 27 rfl K4 _ Try.underlying27 rfl 2 nt_info rfl ⟨rfl, p4.below b3 (by omega)⟩
theorem pair_eq (a b c d : Int) (k : Nat) (w : World) : (Op.equalIn (k + 2) 55 (.agg #[.int .i64 a, .int .i64 b]) (.agg #[.int .i64 c, .int .i64 d])).run Try.prog w = .ok (decide (a = c ∧ b = d)) w := by
  have c1 : Try.prog.cellsOf 3 = 1 := by kernel_rfl
  obtain ⟨i, hi⟩ : ∃ i, Try.prog.info? 3 = some i := by
    cases h : Try.prog.info? 3 with
    | some i => exact ⟨i, rfl⟩
    | none => simp [Program.cellsOf, h] at c1
  have u0 := Try.underlying3
  have a0 := Try.isAgg3
  rw [show k + 2 = (k + 1) + 1 from rfl, run_equalIn_array w (k + 1) _ _ Try.underlying55 hi, c1, show List.range 2 = [0, 1] from rfl]
  simp only [Op.eqItems, part]
  go_simp
  repeat' split
  all_goals simp_all
set_option maxRecDepth 20000 in
theorem isRight_any (xa xb : Int) (xs : Bool) (xv : Int) (w : World) : Calls Try.prog 53 #[.agg (DC xa xb xs xv)] w fun e w' => e = .returned (.bool (decide (okN ⟨xa, xb, xs, xv⟩))) ∧ Below w.heap.size w w' := by
  have b1 := (Below.refl w.heap.size w).alloc (Nat.le_refl _) (.cells (DC xa xb xs xv) 57)
  have b2 := b1.alloc (by simp) (.cells #[.int .i64 0, .int .i64 0, .bool false, .int .i64 0] 57)
  have HE := fun w => pair_eq xa xb 0 0 9998 w
  cases xs
  · by_cases hv : xv = 0
    · subst hv
      have e : decide (okN ⟨xa, xb, false, 0⟩) = !decide (xa = 0 ∧ xb = 0) := by rw [← decide_not]; exact decide_eq_decide.2 (by simp [okN])
      rw [e]; clear e
      generalize decide (xa = 0 ∧ xb = 0) = r at *
      go_enter Try.func53, Try.ntmps53
      go_wp2_with fail
      go_ret
      exact ⟨rfl, b2⟩
    · have e : decide (okN ⟨xa, xb, false, xv⟩) = false := by simp [okN, hv]
      rw [e]; clear e
      go_enter Try.func53, Try.ntmps53
      go_wp2_with fail
      go_ret
      exact ⟨rfl, b2⟩
  · have e : decide (okN ⟨xa, xb, true, xv⟩) = true := by simp [okN]
    rw [e]; clear e
    go_enter Try.func53, Try.ntmps53
    go_wp2_with fail
    go_ret
    exact ⟨rfl, b2⟩
end Go.Proofs.Ytiddpkppfpdfhaa.pf
