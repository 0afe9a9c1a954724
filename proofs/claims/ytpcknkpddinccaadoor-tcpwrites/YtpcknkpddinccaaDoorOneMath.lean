/- Plain mathematics of bytes of which one bit is other. -/
import Derived.Test.YtpcknkpddinccaaDoorSumMath
import Derived.WalkKit
import Derived.Laws.BitsAllLaws
namespace Go.Proofs.YtpcknkpddinccaaDoor.onem
open Go.Proofs.YtpcknkpddinccaaDoor.SM

theorem xor_step : ∀ x : Fin 256, ∀ r : Fin 8, (x.val ^^^ 2 ^ r.val = x.val + 2 ^ r.val ∨ (x.val ^^^ 2 ^ r.val) + 2 ^ r.val = x.val) ∧ x.val ^^^ 2 ^ r.val < 256 ∧ 0 < 2 ^ r.val ∧ 2 ^ r.val ≤ 128 := by decide +kernel
theorem pw_set : ∀ (l : List UInt8) (i : Nat) (h : i < l.length) (y : UInt8), pw (l.set i y) = pw l + (if i % 2 = 0 then 256 else 1) * ((y.toNat : Int) - (l[i].toNat : Int))
  | [], i, h, _ => by simp at h
  | [b], i, h, y => by
      have : i = 0 := by simp at h; omega
      subst this; simp [pw]; omega
  | b :: c :: r, 0, h, y => by simp [pw]; omega
  | b :: c :: r, 1, h, y => by simp [pw]; omega
  | b :: c :: r, i + 2, h, y => by
      have h' : i < r.length := by simpa using h
      have ih := pw_set r i h' y
      have e : (i + 2) % 2 = i % 2 := by omega
      simp only [List.set_cons_succ, pw, List.getElem_cons_succ, e]
      rw [ih]; omega
theorem norm_ne (a b : Int) (h0 : 0 ≤ a) (h1 : 0 ≤ b) (h : a ≠ b) (h2 : a - b < 65535) (h3 : b - a < 65535) : norm a ≠ norm b := by
  unfold norm; split <;> split <;> omega
/-- one bit turned -/
def turn (x : UInt8) (r : Nat) : UInt8 := UInt8.ofNat (x.toNat ^^^ 2 ^ r)
theorem turn_toNat (x : UInt8) (r : Nat) (hr : r < 8) : (turn x r).toNat = x.toNat ^^^ 2 ^ r := by
  have := (xor_step ⟨x.toNat, x.toNat_lt⟩ ⟨r, hr⟩).2.1
  unfold turn; rw [UInt8.toNat_ofNat']; exact Nat.mod_eq_of_lt this
theorem sum_ne (l : List UInt8) (i r : Nat) (h : i < l.length) (hr : r < 8) : wsum 0 l ≠ wsum 0 (l.set i (turn l[i] r)) := by
  rw [wsum_norm _ _ (by omega) (by omega), wsum_norm _ _ (by omega) (by omega), Int.zero_add, Int.zero_add]
  have hs := pw_set l i h (turn l[i] r)
  have ht := turn_toNat l[i] r hr
  have hx := xor_step ⟨l[i].toNat, l[i].toNat_lt⟩ ⟨r, hr⟩
  simp only at hx
  generalize 2 ^ r = p at hx ht
  have hd : ((turn l[i] r).toNat : Int) - (l[i].toNat : Int) = p ∨ ((turn l[i] r).toNat : Int) - (l[i].toNat : Int) = - (p : Int) := by rw [ht]; omega
  generalize ((turn l[i] r).toNat : Int) - (l[i].toNat : Int) = d at hs hd
  refine norm_ne _ _ (pw_nonneg _) (pw_nonneg _) ?_ ?_ ?_ <;> rw [hs] <;> split <;> omega

theorem bits_turn (x : UInt8) (r : Nat) (hr : r < 8) : bits .xor .u8 (x.toNat : Int) ((2 : Int) ^ r % 256) = ((turn x r).toNat : Int) := by
  have e : (2 : Int) ^ r % 256 = ((2 ^ r : Nat) : Int) := by
    have : r = 0 ∨ r = 1 ∨ r = 2 ∨ r = 3 ∨ r = 4 ∨ r = 5 ∨ r = 6 ∨ r = 7 := by omega
    rcases this with rfl | rfl | rfl | rfl | rfl | rfl | rfl | rfl <;> rfl
  have hx := (xor_step ⟨x.toNat, x.toNat_lt⟩ ⟨r, hr⟩).2.2.2
  simp only at hx
  rw [e, u8_xor_nat _ _ x.toNat_lt (by omega), turn_toNat x r hr]
end Go.Proofs.YtpcknkpddinccaaDoor.onem
