/- What Let, End and Free answer, as plain functions. -/
import Derived.Test.YtajhdpkiafaebaaDoorPtBase
namespace Go.Proofs.YtajhdpkiafaebaaDoor.pa
open Go.Proofs.YtajhdpkiafaebaaDoor.pm Go.Proofs.YtajhdpkiafaebaaDoor.pp Go.Proofs.YtajhdpkiafaebaaDoor.pt

/-- the number of the port that is let -/
def lkw (b : Int) (t : Nat) (w : Int) : Nat := lk t (w - b) (w % 2).toNat
def le (b : Int) (t : Nat) (w : Int) : Int := if perr b ≠ 0 then 1 else if w < 0 ∨ 65535 < w then 1 else if t = 18446744073709551615 then 6 else 0
def lb (b : Int) (t : Nat) (w : Int) : Int := if le b t w = 0 then b else 0
def lt (b : Int) (t : Nat) (w : Int) : Nat := if le b t w = 0 then st t (lkw b t w) else 0
def lp (b : Int) (t : Nat) (w : Int) : Int := if le b t w = 0 then b + (lkw b t w : Int) else 0
theorem le_zeros {b : Int} {t : Nat} {w : Int} (h : le b t w ≠ 0) : lb b t w = 0 ∧ lt b t w = 0 ∧ lp b t w = 0 := by
  unfold lb lt lp; rw [if_neg h, if_neg h, if_neg h]; exact ⟨rfl, rfl, rfl⟩
theorem le_ones {b : Int} {t : Nat} {w : Int} (h : le b t w = 0) : lb b t w = b ∧ lt b t w = st t (lkw b t w) ∧ lp b t w = b + (lkw b t w : Int) := by
  unfold lb lt lp; rw [if_pos h, if_pos h, if_pos h]; exact ⟨rfl, rfl, rfl⟩
theorem le_cases (b : Int) (t : Nat) (w : Int) : (le b t w = 1 ∧ perr b = 1) ∨ (le b t w = 1 ∧ perr b = 0 ∧ (w < 0 ∨ 65535 < w)) ∨ (le b t w = 6 ∧ perr b = 0 ∧ 0 ≤ w ∧ w ≤ 65535 ∧ t = 18446744073709551615) ∨ (le b t w = 0 ∧ perr b = 0 ∧ 0 ≤ w ∧ w ≤ 65535 ∧ t ≠ 18446744073709551615) := by
  unfold le
  rcases perr_cases b with ⟨h, _⟩ | ⟨h, _⟩
  · rw [if_neg (by rw [h]; decide)]
    by_cases h1 : w < 0 ∨ 65535 < w
    · rw [if_pos h1]; exact Or.inr (Or.inl ⟨rfl, h, h1⟩)
    · rw [if_neg h1]
      by_cases h2 : t = 18446744073709551615
      · rw [if_pos h2]; exact Or.inr (Or.inr (Or.inl ⟨rfl, h, by omega, by omega, h2⟩))
      · rw [if_neg h2]; exact Or.inr (Or.inr (Or.inr ⟨rfl, h, by omega, by omega, h2⟩))
  · rw [if_pos (by rw [h]; decide)]; exact Or.inl ⟨rfl, h⟩
/-- a port that is let is one of these, and was free -/
theorem le_lk {b : Int} {t : Nat} {w : Int} (ht : t < 18446744073709551616) (h : le b t w = 0) : Lk t (w - b) (w % 2).toNat (lkw b t w) := by
  rcases le_cases b t w with ⟨a, _⟩ | ⟨a, _⟩ | ⟨a, _⟩ | ⟨_, _, _, _, hn⟩
  · rw [a] at h; cases h
  · rw [a] at h; cases h
  · rw [a] at h; cases h
  · exact lk_is ht hn _ (by omega)
theorem lt_lt {b : Int} {t : Nat} {w : Int} (ht : t < 18446744073709551616) : lt b t w < 18446744073709551616 := by
  by_cases h : le b t w = 0
  · rw [(le_ones h).2.1]; exact st_lt ht (le_lk ht h).free.1
  · rw [(le_zeros h).2.1]; decide
/-- one is free again -/
def Let_ (b : Int) (t : Nat) (p : Int) : Prop := b ≤ p ∧ p < b + 64 ∧ t.testBit (p - b).toNat = true
instance (b : Int) (t : Nat) (p : Int) : Decidable (Let_ b t p) := inferInstanceAs (Decidable (_ ∧ _))
def ee (b : Int) (t : Nat) (p : Int) : Int := if perr b ≠ 0 then 1 else if Let_ b t p then 0 else 7
def eb (b : Int) (t : Nat) (p : Int) : Int := if ee b t p = 0 then b else 0
def et (b : Int) (t : Nat) (p : Int) : Nat := if ee b t p = 0 then cl t (p - b).toNat else 0
theorem ee_zeros {b : Int} {t : Nat} {p : Int} (h : ee b t p ≠ 0) : eb b t p = 0 ∧ et b t p = 0 := by
  unfold eb et; rw [if_neg h, if_neg h]; exact ⟨rfl, rfl⟩
theorem ee_ones {b : Int} {t : Nat} {p : Int} (h : ee b t p = 0) : eb b t p = b ∧ et b t p = cl t (p - b).toNat := by
  unfold eb et; rw [if_pos h, if_pos h]; exact ⟨rfl, rfl⟩
theorem ee_cases (b : Int) (t : Nat) (p : Int) : (ee b t p = 1 ∧ perr b = 1) ∨ (ee b t p = 7 ∧ perr b = 0 ∧ ¬ Let_ b t p) ∨ (ee b t p = 0 ∧ perr b = 0 ∧ Let_ b t p) := by
  unfold ee
  rcases perr_cases b with ⟨h, _⟩ | ⟨h, _⟩
  · rw [if_neg (by rw [h]; decide)]
    by_cases h1 : Let_ b t p
    · rw [if_pos h1]; exact Or.inr (Or.inr ⟨rfl, h, h1⟩)
    · rw [if_neg h1]; exact Or.inr (Or.inl ⟨rfl, h, h1⟩)
  · rw [if_pos (by rw [h]; decide)]; exact Or.inl ⟨rfl, h⟩
theorem et_lt {b : Int} {t : Nat} {p : Int} (ht : t < 18446744073709551616) : et b t p < 18446744073709551616 := by
  by_cases h : ee b t p = 0
  · rw [(ee_ones h).2]; exact cl_lt ht _
  · rw [(ee_zeros h).2]; decide
/-- how many are free -/
def fn (b : Int) (t : Nat) : Int := if perr b = 0 then (nf t : Int) else 0
end Go.Proofs.YtajhdpkiafaebaaDoor.pa
