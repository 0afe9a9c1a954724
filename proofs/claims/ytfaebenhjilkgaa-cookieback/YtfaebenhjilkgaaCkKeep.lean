/- Plain mathematics of cookies: one that was made is opened in its time and the next; which ones are opened; places. -/
import Derived.Test.YtfaebenhjilkgaaCkBase
namespace Go.Proofs.Ytfaebenhjilkgaa.ckp
open Go.Proofs.Ytfaebenhjilkgaa Go.Proofs.Ytfaebenhjilkgaa.ckm Go.Proofs.Ytfaebenhjilkgaa.ckb

theorem mk_bd (k l : UInt64) (r : Ro) (s : Int) {c i : Int} (c0 : 0 ≤ c) (c1 : c < 32) (i0 : 0 ≤ i) (i1 : i < 8) : 0 ≤ mk k l r s c i ∧ mk k l r s c i ≤ 4294967295 := by
  have := mkm_bd k l r s c i
  unfold mk ckn; omega
theorem mk_c (k l : UInt64) (r : Ro) (s : Int) {c i : Int} (i0 : 0 ≤ i) (i1 : i < 8) : mk k l r s c i / 134217728 = c := by
  have := mkm_bd k l r s c i
  unfold mk ckn; omega
theorem mk_i (k l : UInt64) (r : Ro) (s : Int) {c i : Int} (i0 : 0 ≤ i) (i1 : i < 8) : mk k l r s c i / 16777216 % 8 = i := by
  have := mkm_bd k l r s c i
  unfold mk ckn; omega
theorem mk_top (k l : UInt64) (r : Ro) (s c i : Int) : mk k l r s c i / 16777216 = 8 * c + i := by
  have := mkm_bd k l r s c i
  unfold mk ckn; omega
/-- the one that was made, opened -/
theorem ope_mk (k l : UInt64) (r : Ro) (s : Int) {c i n : Int} (hr : r.ok = true) (i0 : 0 ≤ i) (i1 : i < 8) (n0 : 0 ≤ n) (n1 : n ≤ 31) :
    ope k l r s (mk k l r s c i) n = if n = c ∨ n = (c + 1) % 32 then 0 else 9 := by
  unfold ope
  rw [mk_c k l r s i0 i1, mk_i k l r s i0 i1, hr, if_pos (by unfold am; simp; omega), if_pos (rfl : mk k l r s c i = _)]
  by_cases h : n = c ∨ n = (c + 1) % 32
  · rw [if_neg (by omega), if_pos h]
  · rw [if_pos (by omega), if_neg h]
theorem opv_mk (k l : UInt64) (r : Ro) (s : Int) {c i n : Int} (hr : r.ok = true) (i0 : 0 ≤ i) (i1 : i < 8) (n0 : 0 ≤ n) (n1 : n ≤ 31) :
    opv k l r s (mk k l r s c i) n = if n = c ∨ n = (c + 1) % 32 then sz i else 0 := by
  unfold opv
  rw [ope_mk k l r s hr i0 i1 n0 n1, mk_i k l r s i0 i1]
  by_cases h : n = c ∨ n = (c + 1) % 32
  · rw [if_pos h, if_pos h]; rfl
  · rw [if_neg h, if_neg h]; rfl
/-- is it the one that was made with its own count and index -/
def good (k l : UInt64) (r : Ro) (s x : Int) : Bool := decide (mk k l r s (x / 134217728) (x / 16777216 % 8) = x)
theorem mk_iff (k l : UInt64) (r : Ro) (s x : Int) {c i : Int} (i0 : 0 ≤ i) (i1 : i < 8) : mk k l r s c i = x ↔ c = x / 134217728 ∧ i = x / 16777216 % 8 ∧ good k l r s x = true := by
  unfold good
  constructor
  · intro h
    have h1 := mk_c k l r s (c := c) i0 i1
    have h2 := mk_i k l r s (c := c) i0 i1
    rw [h] at h1 h2
    exact ⟨h1.symm, h2.symm, by rw [h1, h2]; simpa using h⟩
  · rintro ⟨rfl, rfl, h⟩
    simpa using h
/-- how many of a count's first j are x -/
def one (g : Bool) (x a : Int) (j : Nat) : Int := if a = x / 134217728 ∧ x / 16777216 % 8 < (j : Int) ∧ g = true then 1 else 0
theorem one_step (g : Bool) (x a : Int) (j : Nat) (b : Bool) (hb : b = true ↔ a = x / 134217728 ∧ (j : Int) = x / 16777216 % 8 ∧ g = true) : one g x a (j + 1) = if b = true then one g x a j + 1 else one g x a j := by
  unfold one
  by_cases h : b = true
  · have := hb.1 h
    rw [if_pos h, if_pos ⟨this.1, by omega, this.2.2⟩, if_neg (by omega)]; rfl
  · rw [if_neg h]
    have hn : ¬ (a = x / 134217728 ∧ (j : Int) = x / 16777216 % 8 ∧ g = true) := fun h' => h (hb.2 h')
    by_cases h2 : a = x / 134217728 ∧ x / 16777216 % 8 < (j : Int) ∧ g = true
    · rw [if_pos h2, if_pos ⟨h2.1, by omega, h2.2.2⟩]
    · rw [if_neg h2, if_neg]
      rintro ⟨h3, h4, h5⟩
      by_cases h6 : (j : Int) = x / 16777216 % 8
      · exact hn ⟨h3, h6, h5⟩
      · exact h2 ⟨h3, by omega, h5⟩
theorem one_zero (g : Bool) (x a : Int) : one g x a 0 = 0 := by
  unfold one; rw [if_neg]; rintro ⟨_, h, _⟩; omega
/-- in all -/
def all2 (g : Bool) (x n : Int) : Int := one g x n 8 + one g x ((n + 31) % 32) 8
theorem all2_ope (k l : UInt64) (r : Ro) (s x n : Int) (h : (r.ok && am n 32) = true) (x0 : 0 ≤ x) (x1 : x ≤ 4294967295) :
    (all2 (good k l r s x) x n = if ope k l r s x n = 0 then 1 else 0) := by
  unfold all2 one ope
  rw [if_pos h]
  simp only [Bool.and_eq_true] at h
  have nb := am_ok h.2
  have hg : good k l r s x = true ↔ mk k l r s (x / 134217728) (x / 16777216 % 8) = x := by unfold good; simp
  by_cases hgd : good k l r s x = true
  · have hm := hg.1 hgd
    rw [if_pos hm]
    simp only [hgd, and_true]
    by_cases h1 : x / 134217728 ≠ n ∧ (x / 134217728 + 1) % 32 ≠ n
    · rw [if_pos h1, if_neg (by omega), if_neg (by omega), if_neg (by omega)]; rfl
    · rw [if_neg h1, if_pos rfl]
      by_cases h2 : n = x / 134217728
      · rw [if_pos (by omega), if_neg (by omega)]; rfl
      · rw [if_neg (by omega), if_pos (by omega)]; rfl
  · have hm : ¬ mk k l r s (x / 134217728) (x / 16777216 % 8) = x := fun h' => hgd (hg.2 h')
    rw [if_neg hm]
    rw [if_neg (fun h => hgd h.2.2), if_neg (fun h => hgd h.2.2)]
    by_cases h1 : x / 134217728 ≠ n ∧ (x / 134217728 + 1) % 32 ≠ n
    · rw [if_pos h1]; rfl
    · rw [if_neg h1]; rfl
theorem ope_arg (k l : UInt64) (r : Ro) (s x n : Int) : ope k l r s x n = 1 ↔ (r.ok && am n 32) = false := by
  unfold ope
  by_cases h : (r.ok && am n 32) = true
  · rw [if_pos h]
    constructor
    · intro h2; split at h2
      · omega
      · split at h2 <;> omega
    · intro h2; rw [h2] at h; cases h
  · rw [if_neg h]; simp at h ⊢; simpa using h
theorem pl_cases (n : Int) : (pl n 8 = 0 ∧ n < 536) ∨ (pl n 8 = 1 ∧ 536 ≤ n ∧ n < 1220) ∨ (pl n 8 = 2 ∧ 1220 ≤ n ∧ n < 1300) ∨ (pl n 8 = 3 ∧ 1300 ≤ n ∧ n < 1360) ∨ (pl n 8 = 4 ∧ 1360 ≤ n ∧ n < 1440) ∨ (pl n 8 = 5 ∧ 1440 ≤ n ∧ n < 1460) ∨ (pl n 8 = 6 ∧ 1460 ≤ n ∧ n < 8960) ∨ (pl n 8 = 7 ∧ 8960 ≤ n) := by
  have e : pl n 8 = if (8960 : Int) ≤ n then 7 else if (1460 : Int) ≤ n then 6 else if (1440 : Int) ≤ n then 5 else if (1360 : Int) ≤ n then 4 else if (1300 : Int) ≤ n then 3 else if (1220 : Int) ≤ n then 2 else if (536 : Int) ≤ n then 1 else if (216 : Int) ≤ n then 0 else 0 := rfl
  rw [e]
  repeat' split
  all_goals omega
theorem sz_less (j : Nat) (h : j < 7) : sz (j : Int) < sz ((j : Int) + 1) := by
  match j, h with
  | 0, _ | 1, _ | 2, _ | 3, _ | 4, _ | 5, _ | 6, _ => decide
end Go.Proofs.Ytfaebenhjilkgaa.ckp
