/- Plain mathematics of end-around sums: the sum of words, one by one, is a remainder by 65535 that is told as 65535 instead of 0 unless all is 0. No program is named here. -/
import Derived.Laws.BitsAllLaws
namespace Go.Proofs.Ytfaebenhjilkgaa.SM

/-- two words, end-around -/
def ea (a b : Int) : Int := if a + b > 65535 then a + b - 65535 else a + b
/-- a sum over bytes, the higher one first, one by one -/
def wsum : Int → List UInt8 → Int
  | n, [] => n
  | n, [b] => ea n (256 * (b.toNat : Int))
  | n, b :: c :: r => wsum (ea n (256 * (b.toNat : Int) + (c.toNat : Int))) r
/-- the plain sum of words -/
def pw : List UInt8 → Int
  | [] => 0
  | [b] => 256 * (b.toNat : Int)
  | b :: c :: r => 256 * (b.toNat : Int) + (c.toNat : Int) + pw r
/-- 0, or from 1 to 65535 -/
def norm (x : Int) : Int := if x = 0 then 0 else (x - 1) % 65535 + 1

theorem ea_norm (n b : Int) (h0 : 0 ≤ n) (h1 : n ≤ 65535) (h2 : 0 ≤ b) (h3 : b ≤ 65535) : ea n b = norm (n + b) := by
  unfold ea norm; split <;> split <;> omega
theorem norm_bd (x : Int) : 0 ≤ norm x ∧ norm x ≤ 65535 := by
  unfold norm; split <;> omega
theorem norm_add (x y : Int) (hx : 0 ≤ x) (hy : 0 ≤ y) : norm (norm x + y) = norm (x + y) := by
  unfold norm; split <;> split <;> split <;> omega
theorem norm_id (x : Int) (h0 : 0 ≤ x) (h1 : x ≤ 65535) : norm x = x := by
  unfold norm; split <;> omega
theorem ea_bd (n b : Int) (h0 : 0 ≤ n) (h1 : n ≤ 65535) (h2 : 0 ≤ b) (h3 : b ≤ 65535) : 0 ≤ ea n b ∧ ea n b ≤ 65535 := by
  unfold ea; split <;> omega
theorem byte_bd (b : UInt8) : 0 ≤ (b.toNat : Int) ∧ (b.toNat : Int) ≤ 255 := by
  have := b.toNat_lt; omega
theorem pw_nonneg : ∀ l, 0 ≤ pw l
  | [] => by simp [pw]
  | [b] => by simp only [pw]; have := byte_bd b; omega
  | b :: c :: r => by simp only [pw]; have := pw_nonneg r; have := byte_bd b; have := byte_bd c; omega
theorem wsum_norm : ∀ (n : Int) (l : List UInt8), 0 ≤ n → n ≤ 65535 → wsum n l = norm (n + pw l)
  | n, [], h0, h1 => by simp only [wsum, pw]; rw [Int.add_zero, norm_id n h0 h1]
  | n, [b], h0, h1 => by simp only [wsum, pw]; have := byte_bd b; exact ea_norm _ _ h0 h1 (by omega) (by omega)
  | n, b :: c :: r, h0, h1 => by
      have hb := byte_bd b; have hc := byte_bd c; have hr := pw_nonneg r
      have he := ea_bd n (256 * (b.toNat : Int) + (c.toNat : Int)) h0 h1 (by omega) (by omega)
      simp only [wsum, pw]
      rw [wsum_norm _ r he.1 he.2, ea_norm _ _ h0 h1 (by omega) (by omega), norm_add _ _ (by omega) hr]
      congr 1; omega
theorem wsum_bd (n : Int) (l : List UInt8) (h0 : 0 ≤ n) (h1 : n ≤ 65535) : 0 ≤ wsum n l ∧ wsum n l ≤ 65535 := by
  rw [wsum_norm n l h0 h1]; exact norm_bd _
theorem pw_append : ∀ (a b : List UInt8), a.length % 2 = 0 → pw (a ++ b) = pw a + pw b
  | [], b, _ => by simp [pw]
  | [x], b, h => by simp at h
  | x :: y :: r, b, h => by
      have : (r.length) % 2 = 0 := by simp only [List.length_cons] at h; omega
      simp only [List.cons_append, pw]; rw [pw_append r b this]; omega
/-- the even prefix and what is left: a round of the loop -/
theorem wsum_step (n : Int) (l : List UInt8) (i : Nat) (h : i + 1 < l.length) :
    wsum n (l.drop i) = wsum (ea n (256 * ((l[i]'(by omega)).toNat : Int) + (l[i + 1].toNat : Int))) (l.drop (i + 2)) := by
  rw [List.drop_eq_getElem_cons (by omega : i < l.length), List.drop_eq_getElem_cons h, wsum]
theorem wsum_last (n : Int) (l : List UInt8) (i : Nat) (h : i < l.length) (h1 : l.length = i + 1) :
    wsum n (l.drop i) = ea n (256 * (l[i].toNat : Int)) := by
  rw [List.drop_eq_getElem_cons h, List.drop_eq_nil_of_le (by omega : l.length ≤ i + 1), wsum]
theorem wsum_end (n : Int) (l : List UInt8) (i : Nat) (h : l.length ≤ i) : wsum n (l.drop i) = n := by
  rw [List.drop_eq_nil_of_le h, wsum]

theorem word_or (a b : Int) (h0 : 0 ≤ a) (h1 : a ≤ 255) (h2 : 0 ≤ b) (h3 : b ≤ 255) : bits .or .u16 (a * 256) b = 256 * a + b := by
  rw [u16_or _ _ (by omega) (by omega) h2 (by omega)]
  rw [nat_join 8 _ _ (by omega) (by omega)]
  omega
end Go.Proofs.Ytfaebenhjilkgaa.SM
