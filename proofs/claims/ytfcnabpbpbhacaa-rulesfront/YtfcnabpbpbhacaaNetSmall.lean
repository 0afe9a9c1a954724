/- The small ones of nets: prefix.IsNet, prefix.Has. -/
import Derived.Test.YtfcnabpbpbhacaaNetBase
import Derived.Test.YtfcnabpbpbhacaaLast
import Derived.Laws.StructEq
import Derived.ChangeKeysEq
import Derived.Laws.BitsAllLaws
namespace Go.Proofs.Ytfcnabpbpbhacaa.pf
open Go.ChangeShapes Go.WideShapes Go.ChangeAt Go.RowKit Go.BigFrame
open Go.Proofs.Ytfcnabpbpbhacaa Go.Proofs.Ytfcnabpbpbhacaa.pm Go.Proofs.Ytfcnabpbpbhacaa.boxes Go.Proofs.Ytfcnabpbpbhacaa.rwr
open Go.Proofs.Ytfcnabpbpbhacaa.rws (Knd Own)

theorem cut_iff (a n : Nat) (hn : n ≤ 32) : (a * 2 ^ n % 4294967296 = 0) ↔ a / 2 ^ (32 - n) * 2 ^ (32 - n) = a := by
  have e : (4294967296 : Nat) = 2 ^ (32 - n) * 2 ^ n := by rw [← Nat.pow_add, show 32 - n + n = 32 by omega]
  have h0 := Nat.two_pow_pos n
  rw [e, Nat.mul_mod_mul_right]
  have hd := Nat.div_add_mod a (2 ^ (32 - n))
  rw [Nat.mul_comm] at hd
  generalize 2 ^ (32 - n) = K at *
  generalize 2 ^ n = M at *
  rw [Nat.mul_eq_zero]
  constructor
  · rintro (h | h)
    · rw [h] at hd; omega
    · omega
  · intro h; left; omega
theorem cut_int (a n : Nat) (hn : n ≤ 32) : ((a : Int) * (2 : Int) ^ n % 4294967296 == 0) = decide (a / 2 ^ (32 - n) * 2 ^ (32 - n) = a) := by
  have e : (a : Int) * (2 : Int) ^ n % 4294967296 = ((a * 2 ^ n % 4294967296 : Nat) : Int) := by simp
  have h := cut_iff a n hn
  rw [e]
  by_cases h1 : a / 2 ^ (32 - n) * 2 ^ (32 - n) = a
  · rw [decide_eq_true h1, h.2 h1]; rfl
  · rw [decide_eq_false h1]
    have h2 : ¬ a * 2 ^ n % 4294967296 = 0 := fun e => h1 (h.1 e)
    generalize a * 2 ^ n % 4294967296 = X at *
    simp; omega
theorem xor_iff (a c n : Nat) (hn : a / 2 ^ n * 2 ^ n = a) : ((c ^^^ a) / 2 ^ n = 0) ↔ c / 2 ^ n * 2 ^ n = a := by
  have h0 := Nat.two_pow_pos n
  rw [← Nat.shiftRight_eq_div_pow, Nat.shiftRight_xor_distrib, Nat.shiftRight_eq_div_pow, Nat.shiftRight_eq_div_pow]
  constructor
  · intro h
    have : c / 2 ^ n = a / 2 ^ n := by
      have := congrArg (fun x => x ^^^ (a / 2 ^ n)) h
      simpa [Nat.xor_assoc] using this
    rw [this, hn]
  · intro h
    have : c / 2 ^ n = a / 2 ^ n := by rw [← h, Nat.mul_div_cancel _ h0]
    rw [this, Nat.xor_self]
theorem xor_int (a c n : Nat) (ha : a < 4294967296) (hc : c < 4294967296) (hn : a / 2 ^ n * 2 ^ n = a) : (bits BinOp.xor IntKind.u32 (c : Int) (a : Int) / (2 : Int) ^ n == 0) = decide (c / 2 ^ n * 2 ^ n = a) := by
  rw [u32_xor_nat c a hc ha]
  have e : ((c ^^^ a : Nat) : Int) / (2 : Int) ^ n = (((c ^^^ a) / 2 ^ n : Nat) : Int) := by simp
  have h := xor_iff a c n hn
  rw [e]
  by_cases h1 : c / 2 ^ n * 2 ^ n = a
  · rw [decide_eq_true h1, h.2 h1]; rfl
  · rw [decide_eq_false h1]
    have h2 : ¬ (c ^^^ a) / 2 ^ n = 0 := fun e => h1 (h.1 e)
    generalize (c ^^^ a) / 2 ^ n = X at *
    simp; omega
set_option maxRecDepth 20000 in
theorem isNet_any (a : Nat) (l : Int) (w : World) (_ha : a < 4294967296) : Calls Try.prog 37 #[.agg (NC a l)] w fun e w' => e = .returned (.bool (isN a l)) ∧ Below w.heap.size w w' := by
  have b1 := (Below.refl w.heap.size w).alloc (Nat.le_refl _) (.cells (NC a l) 32)
  by_cases h0 : 0 ≤ l
  · by_cases h1 : l ≤ 32
    · have e : isN a l = decide (a / 2 ^ (32 - l.toNat) * 2 ^ (32 - l.toNat) = a) := by simp [isN, h0, h1]
      obtain ⟨n, rfl⟩ : ∃ n : Nat, l = n := ⟨l.toNat, by omega⟩
      have HC := cut_int a n (by omega)
      rw [e, Int.toNat_natCast, ← HC]; clear e HC
      go_enter Try.func37, Try.ntmps37
      go_wp2_with fail
      go_ret
      exact ⟨rfl, b1⟩
    · have e : isN a l = false := by simp [isN, h1]
      rw [e]; clear e
      go_enter Try.func37, Try.ntmps37
      go_wp2_with fail
      go_ret
      exact ⟨rfl, b1⟩
  · have e : isN a l = false := by simp [isN, h0]
    rw [e]; clear e
    go_enter Try.func37, Try.ntmps37
    go_wp2_with fail
    go_ret
    exact ⟨rfl, b1⟩
/-- whether a net has an address -/
def hasB (a : Nat) (l : Int) (c : Nat) : Bool := isN a l && decide (c / 2 ^ (32 - l.toNat) * 2 ^ (32 - l.toNat) = a)
set_option maxRecDepth 20000 in
theorem hasN_any (a c : Nat) (l : Int) (w : World) (ha : a < 4294967296) (hc : c < 4294967296) : Calls Try.prog 34 #[.agg (NC a l), .int .u32 (c : Int)] w fun e w' => e = .returned (.bool (hasB a l c)) ∧ Below w.heap.size w w' := by
  have G0 := Blk.new w (NC a l) 32
  have b1 := (Below.refl w.heap.size w).alloc (Nat.le_refl _) (.cells (NC a l) 32)
  have CN := fun W => isNet_any a l W ha
  cases hN : isN a l with
  | false =>
    have e : hasB a l c = false := by simp [hasB, hN]
    rw [e]; clear e
    rw [hN] at CN
    go_enter Try.func34, Try.ntmps34
    go_wp2_with fail
    refine (CN _).mono ?_
    rintro e w1 ⟨rfl, z⟩
    have G1 := G0.below z G0.lt
    have c1 := G1.cell
    have b2 := b1.trans (z.mono b1.size)
    go_wp2_with fail
    go_ret
    exact ⟨rfl, b2⟩
  | true =>
    have h := hN
    simp only [isN, Bool.and_eq_true, decide_eq_true_eq] at h
    obtain ⟨⟨h0, h1⟩, h2⟩ := h
    have e : hasB a l c = decide (c / 2 ^ (32 - l.toNat) * 2 ^ (32 - l.toNat) = a) := by simp [hasB, hN]
    rw [hN] at CN
    obtain ⟨n, rfl⟩ : ∃ n : Nat, l = n := ⟨l.toNat, by omega⟩
    rw [Int.toNat_natCast] at h2 e
    have HC := xor_int a c (32 - n) ha hc h2
    rw [e, ← HC]; clear e h2 HC
    go_enter Try.func34, Try.ntmps34
    go_wp2_with fail
    refine (CN _).mono ?_
    rintro e w1 ⟨rfl, z⟩
    have G1 := G0.below z G0.lt
    have c1 := G1.cell
    have b2 := b1.trans (z.mono b1.size)
    go_wp2_with fail
    go_ret
    exact ⟨rfl, b2⟩
theorem has_gen (a c n : Nat) (w : World) (h1 : n ≤ 32) (ha : a < 4294967296) (hc : c < 4294967296) : Calls Try.prog 34 #[.agg (NC a n), .int .u32 (c : Int)] w fun e w' => e = .returned (.bool (decide (c / 2 ^ (32 - n) * 2 ^ (32 - n) = a))) ∧ Below w.heap.size w w' := by
  refine (hasN_any a c n w ha hc).mono ?_
  rintro e w1 ⟨rfl, b⟩
  refine ⟨ret_bool ?_, b⟩
  unfold hasB isN
  rw [Int.toNat_natCast, decide_eq_true (show (0 : Int) ≤ (n : Int) by omega), decide_eq_true (show (n : Int) ≤ 32 by omega), Bool.true_and, Bool.true_and]
  by_cases h : c / 2 ^ (32 - n) * 2 ^ (32 - n) = a
  · rw [decide_eq_true h, Bool.and_true, decide_eq_true_eq, ← h, Nat.mul_div_cancel _ (Nat.two_pow_pos _)]
  · rw [decide_eq_false h, Bool.and_false]
theorem has_any (p : Pth) (c : Nat) (w : World) (hp : p.length ≤ 32) (hc : c < 4294967296) : Calls Try.prog 34 #[.agg (NC (ad 32 p) p.length), .int .u32 (c : Int)] w fun e w' => e = .returned (.bool (decide (bts 32 c p.length = p))) ∧ Below w.heap.size w w' := by
  refine (has_gen (ad 32 p) c p.length w hp (ad_lt 32 p) hc).mono ?_
  rintro e w1 ⟨rfl, b⟩
  exact ⟨ret_bool (decide_eq_decide.2 (bts_iff rfl hp hc).symm), b⟩
end Go.Proofs.Ytfcnabpbpbhacaa.pf
