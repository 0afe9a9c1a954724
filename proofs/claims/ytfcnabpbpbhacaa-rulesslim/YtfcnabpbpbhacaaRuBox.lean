/- Rules as boxes of bounds: the reference's road, in numbers. -/
import Derived.Test.YtfcnabpbpbhacaaRuMath
namespace Go.Proofs.Ytfcnabpbpbhacaa.ru
open Go.Proofs.Ytfcnabpbpbhacaa.pm

def lo (r : Ru) : Nat → Int
  | 0 => (r.fa : Int)
  | 1 => (r.ta : Int)
  | 2 => r.pr
  | 3 => r.a
  | _ => r.c
def hi (r : Ru) : Nat → Int
  | 0 => (r.fa : Int) + 2 ^ (32 - r.fl.toNat) - 1
  | 1 => (r.ta : Int) + 2 ^ (32 - r.tl.toNat) - 1
  | 2 => if r.pr = 0 then 255 else r.pr
  | 3 => r.b
  | _ => r.d
def ns (f : Fw) : Nat → Int
  | 0 => (f.f : Int)
  | 1 => (f.t : Int)
  | 2 => f.pr
  | 3 => f.p
  | _ => f.q
theorem five {P : Nat → Prop} : (∀ i, i < 5 → P i) ↔ P 0 ∧ P 1 ∧ P 2 ∧ P 3 ∧ P 4 := by
  constructor
  · intro h; exact ⟨h 0 (by omega), h 1 (by omega), h 2 (by omega), h 3 (by omega), h 4 (by omega)⟩
  · rintro ⟨h0, h1, h2, h3, h4⟩ i hi
    have : i = 0 ∨ i = 1 ∨ i = 2 ∨ i = 3 ∨ i = 4 := by omega
    rcases this with rfl | rfl | rfl | rfl | rfl <;> assumption
theorem pow_nat (k : Nat) : (2 : Int) ^ k = ((2 ^ k : Nat) : Int) := by simp
theorem hs_box {a c : Nat} {l : Int} (h : isN a l = true) : hs a l c = true ↔ (a : Int) ≤ (c : Int) ∧ (c : Int) ≤ (a : Int) + 2 ^ (32 - l.toNat) - 1 := by
  have h2 := h
  simp only [isN, Bool.and_eq_true, decide_eq_true_eq] at h2
  obtain ⟨_, h3⟩ := h2
  simp only [hs, h, Bool.true_and, decide_eq_true_eq]
  have h0 := Nat.two_pow_pos (32 - l.toNat)
  rw [pow_nat]
  generalize 2 ^ (32 - l.toNat) = K at *
  constructor
  · intro e
    have h4 := Nat.div_add_mod c K
    have h5 := Nat.mod_lt c h0
    rw [Nat.mul_comm] at h4
    omega
  · rintro ⟨h4, h5⟩
    have h6 : c / K = a / K := by
      refine Nat.div_eq_of_lt_le ?_ ?_
      · omega
      · rw [Nat.add_mul, Nat.one_mul]; omega
    rw [h6]; exact h3
theorem hn_box {a c : Nat} {x y : Int} (h : isN a x = true) (k : isN c y = true) : hn a x c y = true ↔ (a : Int) ≤ (c : Int) ∧ (c : Int) + 2 ^ (32 - y.toNat) - 1 ≤ (a : Int) + 2 ^ (32 - x.toNat) - 1 := by
  have hb := hs_box (c := c) h
  have h2 := h
  have k2 := k
  simp only [isN, Bool.and_eq_true, decide_eq_true_eq] at h2 k2
  obtain ⟨⟨h3, h4⟩, h5⟩ := h2
  obtain ⟨⟨k3, k4⟩, k5⟩ := k2
  obtain ⟨n, rfl⟩ : ∃ n : Nat, x = (n : Int) := ⟨x.toNat, by omega⟩
  obtain ⟨m, rfl⟩ : ∃ n : Nat, y = (n : Int) := ⟨y.toNat, by omega⟩
  simp only [Int.toNat_natCast] at *
  simp only [hn, Bool.and_eq_true, decide_eq_true_eq]
  rw [hb]
  simp only [pow_nat]
  have p0 := Nat.two_pow_pos (32 - m)
  constructor
  · rintro ⟨h6, h7, h8⟩
    refine ⟨h7, ?_⟩
    have e : 32 - n = (32 - m) + (m - n) := by omega
    rw [e, Nat.pow_add] at h5 h8 ⊢
    generalize 2 ^ (32 - m) = K at *
    generalize 2 ^ (m - n) = M at *
    generalize hq : c / K = q at *
    generalize hp : a / (K * M) = p at *
    have e1 : p * (K * M) + K * M = (p * M + M) * K := by rw [Nat.add_mul, Nat.mul_comm K M, Nat.mul_assoc]
    have h9 : q * K < (p * M + M) * K := by omega
    have h10 : q < p * M + M := Nat.lt_of_mul_lt_mul_right h9
    have h11 : (q + 1) * K ≤ (p * M + M) * K := Nat.mul_le_mul_right K (by omega)
    rw [Nat.add_mul, Nat.one_mul] at h11
    omega
  · rintro ⟨h6, h7⟩
    have h8 : 2 ^ (32 - m) ≤ 2 ^ (32 - n) := by omega
    refine ⟨?_, h6, by omega⟩
    by_cases hlt : (n : Int) ≤ (m : Int)
    · exact hlt
    · have := Nat.pow_lt_pow_right (a := 2) (by decide) (show 32 - n < 32 - m by omega)
      omega
theorem okR_iff {r : Ru} : okR r = true ↔ isN r.fa r.fl = true ∧ isN r.ta r.tl = true ∧ (0 ≤ r.pr ∧ r.pr ≤ 255) ∧ (0 ≤ r.a ∧ r.a ≤ r.b ∧ r.b ≤ 65535) ∧ (0 ≤ r.c ∧ r.c ≤ r.d ∧ r.d ≤ 65535) := by
  simp only [okR, okP, okB, Bool.and_eq_true, decide_eq_true_eq]
  constructor
  · rintro ⟨⟨⟨⟨h1, h2⟩, h3⟩, ⟨h4, h5⟩, h6⟩, ⟨h7, h8⟩, h9⟩; exact ⟨h1, h2, h3, ⟨h4, h5, h6⟩, h7, h8, h9⟩
  · rintro ⟨h1, h2, h3, ⟨h4, h5, h6⟩, h7, h8, h9⟩; exact ⟨⟨⟨⟨h1, h2⟩, h3⟩, ⟨h4, h5⟩, h6⟩, ⟨h7, h8⟩, h9⟩
theorem mts_box {r : Ru} {f : Fw} (hr : okR r = true) (hf : okP f.pr = true) : mts f r = true ↔ ∀ i, i < 5 → lo r i ≤ ns f i ∧ ns f i ≤ hi r i := by
  obtain ⟨h1, h2, h3, h4, h5⟩ := okR_iff.1 hr
  simp only [okP, Bool.and_eq_true, decide_eq_true_eq] at hf
  rw [five]
  simp only [mts, hp, Bool.and_eq_true, Bool.or_eq_true, decide_eq_true_eq, lo, hi, ns]
  rw [hs_box h1, hs_box h2]
  have e : (r.pr = 0 ∨ r.pr = f.pr) ↔ (r.pr ≤ f.pr ∧ f.pr ≤ if r.pr = 0 then 255 else r.pr) := by
    by_cases h0 : r.pr = 0
    · rw [if_pos h0]; omega
    · rw [if_neg h0]; omega
  rw [e]
  constructor
  · rintro ⟨⟨⟨⟨⟨⟨g1, g2⟩, g3⟩, g4⟩, g5⟩, g6⟩, g7⟩; exact ⟨g1, g2, g3, ⟨g4, g5⟩, g6, g7⟩
  · rintro ⟨g1, g2, g3, ⟨g4, g5⟩, g6, g7⟩; exact ⟨⟨⟨⟨⟨⟨g1, g2⟩, g3⟩, g4⟩, g5⟩, g6⟩, g7⟩
theorem cov_box {x y : Ru} (hx : okR x = true) (hy : okR y = true) : cov x y = true ↔ ∀ i, i < 5 → lo x i ≤ lo y i ∧ hi y i ≤ hi x i := by
  obtain ⟨h1, h2, h3, h4, h5⟩ := okR_iff.1 hx
  obtain ⟨k1, k2, k3, k4, k5⟩ := okR_iff.1 hy
  rw [five]
  simp only [cov, hp, Bool.and_eq_true, Bool.or_eq_true, decide_eq_true_eq, lo, hi]
  rw [hn_box h1 k1, hn_box h2 k2]
  have e : (x.pr = 0 ∨ x.pr = y.pr) ↔ (x.pr ≤ y.pr ∧ (if y.pr = 0 then 255 else y.pr) ≤ if x.pr = 0 then 255 else x.pr) := by
    by_cases h0 : x.pr = 0
    · rw [if_pos h0]; split <;> omega
    · rw [if_neg h0]; split <;> omega
  rw [e]
  constructor
  · rintro ⟨⟨⟨⟨⟨⟨g1, g2⟩, g3⟩, g4⟩, g5⟩, g6⟩, g7⟩; exact ⟨g1, g2, g3, ⟨g4, g5⟩, g6, g7⟩
  · rintro ⟨g1, g2, g3, ⟨g4, g5⟩, g6, g7⟩; exact ⟨⟨⟨⟨⟨⟨g1, g2⟩, g3⟩, g4⟩, g5⟩, g6⟩, g7⟩
end Go.Proofs.Ytfcnabpbpbhacaa.ru
