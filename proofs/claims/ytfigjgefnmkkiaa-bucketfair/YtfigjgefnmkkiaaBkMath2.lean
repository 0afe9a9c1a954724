/- Buckets as numbers: what the laws on a run ask, in one place. -/
import Derived.Test.YtfigjgefnmkkiaaBkMath
namespace Go.Proofs.Ytfigjgefnmkkiaa.bkt
/-- what custkeep.BucketBounds and BucketFair ask of a run that is fine -/
theorem pair_facts {b : Bu} {l : List Dp} (h : rerr b l = 0) {i k : Nat} {di dk : Dp} (hik : i ≤ k) (hi : l[i]? = some di) (hk : l[k]? = some dk) :
    P b l (k + 1) - P b l i ≤ b.m + b.r * (dk.a - di.a) ∧ (i = 0 → P b l (k + 1) - P b l i ≤ b.h + b.r * (dk.a - b.a)) ∧ 0 ≤ dk.a - di.a ∧ dk.a - di.a ≤ 1099511627776 ∧ 0 ≤ b.r * (dk.a - di.a) ∧ b.r * (dk.a - di.a) ≤ 1099511627776000000 ∧ 0 ≤ dk.a - b.a ∧ dk.a - b.a ≤ 1099511627776 ∧ 0 ≤ b.r * (dk.a - b.a) ∧ b.r * (dk.a - b.a) ≤ 1099511627776000000 := by
  obtain ⟨hc, _, he⟩ := rerr_zero.1 h
  obtain ⟨c1, c2, c3, c4⟩ := chk_zero.1 hc
  obtain ⟨q1, q2⟩ := bounds_some hc he hi k dk hik hk
  obtain ⟨q3, q4⟩ := bounds_all hc he k dk hk
  obtain ⟨q5, q6⟩ := bounds_all hc he i di hi
  have sk := step hc he hk
  have si := step hc he hi
  obtain ⟨_, k1, k2⟩ := lerr_zero.1 (terr_zero.1 sk.t).1
  obtain ⟨e1, e2, _⟩ := h_step hk sk
  have hn : 0 ≤ (st b (l.take (k + 1))).h := by
    have := tk_chk sk.t
    rw [← st_step hk] at this
    exact (chk_zero.1 this).2.2.1.1
  have m1 := mul_in c1.1 c1.2 (x := dk.a - di.a) (by omega) (by omega)
  have m2 := mul_in c1.1 c1.2 (x := dk.a - b.a) (by omega) (by omega)
  refine ⟨by omega, fun h0 => ?_, by omega, by omega, m1.1, m1.2, by omega, by omega, m2.1, m2.2⟩
  subst h0
  have e0 : P b l 0 = 0 := rfl
  rw [e0]; omega
theorem one_facts {b : Bu} {l : List Dp} (h : rerr b l = 0) {k : Nat} {dk : Dp} (hk : l[k]? = some dk) :
    ∃ p, (rtd b l)[k]? = some p ∧ P b l (k + 1) = P b l k + (if p then dk.n else 0) ∧ 0 ≤ dk.n ∧ dk.n ≤ 1000000000 ∧ (p = false → dk.n > b.m ∨ (∃ i di, i < k ∧ l[i]? = some di ∧ dk.n + (P b l k - P b l i) > b.m + b.r * (dk.a - di.a)) ∨ dk.n + P b l k > b.h + b.r * (dk.a - b.a)) := by
  obtain ⟨hc, _, he⟩ := rerr_zero.1 h
  have sk := step hc he hk
  obtain ⟨_, n0, n1⟩ := terr_zero.1 sk.t
  refine ⟨_, ?_, P_step hk, n0, n1, fun hp => fair hc he hk hp⟩
  unfold rtd
  rw [if_pos h]
  exact td_at hk
theorem P_facts {b : Bu} {l : List Dp} (h : rerr b l = 0) {i k : Nat} (hik : i ≤ k) (hk : k ≤ l.length) : P b l i ≤ P b l k ∧ 0 ≤ P b l i ∧ P b l k ≤ 1000000000 * 500 := by
  obtain ⟨hc, h5, he⟩ := rerr_zero.1 h
  have hm : ∀ n, i + n ≤ l.length → P b l i ≤ P b l (i + n) := by
    intro n
    induction n with
    | zero => intro _; exact Int.le_refl _
    | succ n ih =>
      intro hn
      obtain ⟨d, hd⟩ := some_at (l := l) (k := i + n) (by omega)
      have := P_mono hc he hd
      have := ih (by omega)
      show P b l i ≤ P b l (i + n + 1)
      omega
  have h1 := hm (k - i) (by omega)
  rw [show i + (k - i) = k by omega] at h1
  have h2 := P_le hc he k hk
  have h3 := P_le hc he i (by omega)
  exact ⟨h1, h3.1, by omega⟩
end Go.Proofs.Ytfigjgefnmkkiaa.bkt
