/- The document's hash, plain: rounds over numbers of 64 bits, bytes one by one; no step forgets what was ahead of it. -/
import Derived.Laws.BitsAllLaws
namespace Go.Proofs.Ytfaebenhjilkgaa.sipm

/-- bits above come in below -/
def rt (k : Nat) (n : UInt64) : UInt64 := UInt64.ofNat (n.toNat * 2 ^ k + n.toNat / 2 ^ (64 - k))
theorem rt_nat (k : Nat) (n : UInt64) : (rt k n).toNat = (n.toNat * 2 ^ k + n.toNat / 2 ^ (64 - k)) % 18446744073709551616 := by unfold rt; rw [UInt64.toNat_ofNat']
theorem eq_of_nat {a b : UInt64} (h : a.toNat = b.toNat) : a = b := UInt64.toNat_inj.1 h
/-- what a turn makes of a number of K M: its lower part goes up, its upper one comes in below -/
theorem rot (n K M : Nat) (hM : 0 < M) (hn : n < K * M) : (n * K + n / M) % (K * M) = (n % M) * K + n / M := by
  have h1 : n / M < K := Nat.div_lt_of_lt_mul (by rw [Nat.mul_comm]; exact hn)
  have h2 := Nat.div_add_mod n M
  have h3 : n * K = (n / M) * (K * M) + (n % M) * K := by
    have e : n * K = (M * (n / M) + n % M) * K := by rw [h2]
    rw [e, Nat.add_mul, Nat.mul_comm M (n / M), Nat.mul_assoc, Nat.mul_comm M K]
  have h4 : (n % M) * K + n / M < K * M := by
    have h5 := Nat.mod_lt n hM
    have h6 : (n % M + 1) * K ≤ M * K := Nat.mul_le_mul_right K h5
    rw [Nat.add_mul, Nat.one_mul] at h6
    rw [Nat.mul_comm K M]; omega
  rw [h3, Nat.add_assoc, Nat.mul_comm (n / M), Nat.mul_add_mod, Nat.mod_eq_of_lt h4]
theorem rot_inj {x y K M : Nat} (hM : 0 < M) (hx : x < K * M) (hy : y < K * M) (h : (x * K + x / M) % (K * M) = (y * K + y / M) % (K * M)) : x = y := by
  rw [rot x K M hM hx, rot y K M hM hy] at h
  have a1 : x / M < K := Nat.div_lt_of_lt_mul (by rw [Nat.mul_comm]; exact hx)
  have b1 : y / M < K := Nat.div_lt_of_lt_mul (by rw [Nat.mul_comm]; exact hy)
  have hK : 0 < K := Nat.lt_of_le_of_lt (Nat.zero_le _) a1
  have e1 := congrArg (· % K) h
  have e2 := congrArg (· / K) h
  replace e1 : (x % M * K + x / M) % K = (y % M * K + y / M) % K := e1
  replace e2 : (x % M * K + x / M) / K = (y % M * K + y / M) / K := e2
  rw [Nat.mul_comm (x % M) K, Nat.mul_comm (y % M) K, Nat.mul_add_mod, Nat.mul_add_mod, Nat.mod_eq_of_lt a1, Nat.mod_eq_of_lt b1] at e1
  rw [Nat.mul_comm (x % M) K, Nat.mul_comm (y % M) K, Nat.mul_add_div hK, Nat.mul_add_div hK, Nat.div_eq_of_lt a1, Nat.div_eq_of_lt b1] at e2
  have h2 := Nat.div_add_mod x M
  have h3 := Nat.div_add_mod y M
  rw [← h2, ← h3, e1]
  omega
theorem rt_inj {k : Nat} (hk : k = 13 ∨ k = 16 ∨ k = 17 ∨ k = 21 ∨ k = 32) {a b : UInt64} (h : rt k a = rt k b) : a = b := by
  apply eq_of_nat
  have e := congrArg UInt64.toNat h
  rw [rt_nat, rt_nat] at e
  have hz : (18446744073709551616 : Nat) = 2 ^ k * 2 ^ (64 - k) := by rcases hk with rfl | rfl | rfl | rfl | rfl <;> decide
  have ha := a.toNat_lt
  have hb := b.toNat_lt
  rw [hz] at e
  have ha' : a.toNat < 2 ^ k * 2 ^ (64 - k) := by rw [← hz]; exact ha
  have hb' : b.toNat < 2 ^ k * 2 ^ (64 - k) := by rw [← hz]; exact hb
  exact rot_inj (Nat.pow_pos (by decide)) ha' hb' e
theorem xor_inj {a b c : UInt64} (h : a ^^^ c = b ^^^ c) : a = b := by
  have e := congrArg (· ^^^ c) h
  simpa [UInt64.xor_assoc] using e
theorem xor_injl {a b c : UInt64} (h : c ^^^ a = c ^^^ b) : a = b := by
  rw [UInt64.xor_comm c a, UInt64.xor_comm c b] at h; exact xor_inj h
theorem add_inj {a b c : UInt64} (h : a + c = b + c) : a = b := by
  have e := congrArg (· - c) h
  simpa using e
/-- four numbers -/
structure V4 where
  a : UInt64
  b : UInt64
  c : UInt64
  d : UInt64
def rnd (v : V4) : V4 :=
  let a1 := v.a + v.b
  let b1 := rt 13 v.b ^^^ a1
  let c1 := v.c + v.d
  let d1 := rt 16 v.d ^^^ c1
  let a3 := rt 32 a1 + d1
  let c2 := c1 + b1
  ⟨a3, rt 17 b1 ^^^ c2, rt 32 c2, rt 21 d1 ^^^ a3⟩
theorem rnd_inj {v w : V4} (h : rnd v = rnd w) : v = w := by
  obtain ⟨a, b, c, d⟩ := v
  obtain ⟨a', b', c', d'⟩ := w
  simp only [rnd, V4.mk.injEq] at h
  obtain ⟨h1, h2, h3, h4⟩ := h
  rw [h1] at h4
  have hd1 := rt_inj (by simp) (xor_inj h4)
  have hc2 := rt_inj (by simp) h3
  rw [hc2] at h2
  have hb1 := rt_inj (by simp) (xor_inj h2)
  rw [hd1] at h1
  have ha1 := rt_inj (by simp) (add_inj h1)
  rw [hb1] at hc2
  have hc1 := add_inj hc2
  rw [ha1] at hb1
  have hb := rt_inj (by simp) (xor_inj hb1)
  rw [hc1] at hd1
  have hd := rt_inj (by simp) (xor_inj hd1)
  rw [hb] at ha1
  rw [hd] at hc1
  rw [add_inj ha1, hb, add_inj hc1, hd]
def tk (v : V4) (m : UInt64) : V4 :=
  let u := rnd (rnd { v with d := v.d ^^^ m })
  { u with a := u.a ^^^ m }
theorem tk_inj {v w : V4} {m : UInt64} (h : tk v m = tk w m) : v = w := by
  unfold tk at h
  simp only [V4.mk.injEq] at h
  obtain ⟨h1, h2, h3, h4⟩ := h
  have e : rnd (rnd { v with d := v.d ^^^ m }) = rnd (rnd { w with d := w.d ^^^ m }) := by
    generalize rnd (rnd { v with d := v.d ^^^ m }) = x at *
    generalize rnd (rnd { w with d := w.d ^^^ m }) = y at *
    obtain ⟨x1, x2, x3, x4⟩ := x
    obtain ⟨y1, y2, y3, y4⟩ := y
    simp only at h1 h2 h3 h4
    rw [xor_inj h1, h2, h3, h4]
  have e2 := rnd_inj (rnd_inj e)
  obtain ⟨a, b, c, d⟩ := v
  obtain ⟨a', b', c', d'⟩ := w
  simp only [V4.mk.injEq] at e2
  obtain ⟨rfl, rfl, rfl, e4⟩ := e2
  rw [xor_inj e4]
/-- bytes as a number, the lowest first -/
def eight : List UInt8 → UInt64
  | [] => 0
  | b :: r => eight r * 256 + UInt64.ofNat b.toNat
/-- a byte more -/
def stp (x : V4 × List UInt8) (b : UInt8) : V4 × List UInt8 := if x.2.length = 7 then (tk x.1 (eight (x.2 ++ [b])), []) else (x.1, x.2 ++ [b])
def eat (x : V4 × List UInt8) (l : List UInt8) : V4 × List UInt8 := l.foldl stp x
theorem eat_app (x : V4 × List UInt8) (a b : List UInt8) : eat x (a ++ b) = eat (eat x a) b := by unfold eat; rw [List.foldl_append]
theorem stp_len (x : V4 × List UInt8) (b : UInt8) (h : x.2.length ≤ 7) : (stp x b).2.length = (x.2.length + 1) % 8 := by
  unfold stp
  split
  · rename_i e; rw [e]; rfl
  · rw [List.length_append, List.length_singleton]; omega
theorem eat_len : ∀ (l : List UInt8) (x : V4 × List UInt8), x.2.length ≤ 7 → (eat x l).2.length = (x.2.length + l.length) % 8
  | [], x, h => by show x.2.length = _; simp; omega
  | b :: r, x, h => by
    have h1 := stp_len x b h
    have := eat_len r (stp x b) (by omega)
    show (eat (stp x b) r).2.length = _
    rw [this, h1, List.length_cons]; omega
/-- fewer than eight are kept -/
theorem eat_few : ∀ (l : List UInt8) (V : V4) (P : List UInt8), P.length + l.length ≤ 7 → eat (V, P) l = (V, P ++ l)
  | [], V, P, _ => by simp [eat]
  | b :: r, V, P, h => by
    show eat (stp (V, P) b) r = _
    have : stp (V, P) b = (V, P ++ [b]) := by unfold stp; rw [if_neg (by simp at h ⊢; omega)]
    rw [this, eat_few r V (P ++ [b]) (by simp at h ⊢; omega)]
    simp
/-- what is kept, and what comes, at once -/
theorem eat_part (V : V4) (P l : List UInt8) (h : P.length ≤ 7) : eat (V, P) l = eat (V, []) (P ++ l) := by
  rw [eat_app, eat_few P V [] (by simpa using h)]; simp
/-- eight of them are taken -/
theorem eat_eight (V : V4) (l : List UInt8) (h : l.length = 8) : eat (V, []) l = (tk V (eight l), []) := by
  have hl : l = l.take 7 ++ [l[7]'(by omega)] := by
    have := List.take_append_drop 7 l
    rw [List.drop_eq_getElem_cons (by omega), List.drop_eq_nil_of_le (by omega)] at this
    exact this.symm
  generalize l[7]'(by omega) = b at hl
  have h7 : (l.take 7).length = 7 := by rw [List.length_take]; omega
  generalize l.take 7 = q at hl h7
  subst hl
  rw [eat_app, eat_few q V [] (by simp; omega)]
  show stp (V, [] ++ q) b = _
  unfold stp
  rw [if_pos (by simp [h7])]
  simp
theorem eat_chunk (V : V4) (l r : List UInt8) (h : l.length = 8) : eat (V, []) (l ++ r) = eat (tk V (eight l), []) r := by
  rw [eat_app, eat_eight V l h]
end Go.Proofs.Ytfaebenhjilkgaa.sipm
