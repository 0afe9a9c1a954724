/- Rules as plain data: what is met, decided, covered, left out; the laws on these. -/
import Derived.Test.YtfcnabpbpbhacaaNetMath
namespace Go.Proofs.Ytfcnabpbpbhacaa.ru
open Go.Proofs.Ytfcnabpbpbhacaa.pm

structure Ru where
  fa : Nat
  fl : Int
  ta : Nat
  tl : Int
  pr : Int
  a : Int
  b : Int
  c : Int
  d : Int
  ps : Bool
def ru0 : Ru := ⟨0, 0, 0, 0, 0, 0, 0, 0, 0, false⟩
structure Fw where
  f : Nat
  t : Nat
  pr : Int
  p : Int
  q : Int
/-- whether a net has an address -/
def hs (a : Nat) (l : Int) (c : Nat) : Bool := isN a l && decide (c / 2 ^ (32 - l.toNat) * 2 ^ (32 - l.toNat) = a)
def okP (n : Int) : Bool := decide (0 ≤ n) && decide (n ≤ 255)
def okB (x y : Int) : Bool := decide (0 ≤ x) && decide (x ≤ y) && decide (y ≤ 65535)
def okR (r : Ru) : Bool := isN r.fa r.fl && isN r.ta r.tl && okP r.pr && okB r.a r.b && okB r.c r.d
def okF (f : Fw) : Bool := okP f.pr && okB f.p f.p && okB f.q f.q
def hp (r : Ru) (n : Int) : Bool := decide (r.pr = 0) || decide (r.pr = n)
def mts (f : Fw) (r : Ru) : Bool := hs r.fa r.fl f.f && hs r.ta r.tl f.t && hp r f.pr && decide (r.a ≤ f.p) && decide (f.p ≤ r.b) && decide (r.c ≤ f.q) && decide (f.q ≤ r.d)
def hn (ao : Nat) (lo : Int) (ai : Nat) (li : Int) : Bool := decide (lo ≤ li) && hs ao lo ai
def cov (x y : Ru) : Bool := hn x.fa x.fl y.fa y.fl && hn x.ta x.tl y.ta y.tl && hp x y.pr && decide (x.a ≤ y.a) && decide (y.b ≤ x.b) && decide (x.c ≤ y.c) && decide (y.d ≤ x.d)
def chk (l : List Ru) : Int := if 64 < l.length then 2 else if l.all okR then 0 else 4
def slN (l : List Ru) : Nat → List Ru
  | 0 => []
  | n + 1 => slN l n ++ (match l[n]? with | none => [] | some r => if (l.take n).any (fun x => cov x r) then [] else [r])
def slim (l : List Ru) : List Ru := slN l l.length
/-- where the first is that meets -/
def fst (f : Fw) (l : List Ru) : Int := match l.findIdx? (mts f) with | none => -1 | some i => (i : Int)
/-- what is decided -/
def pas (f : Fw) (l : List Ru) (o : Bool) : Bool := match l.find? (mts f) with | none => o | some r => r.ps
def derr (l : List Ru) (f : Fw) : Int := if chk l ≠ 0 then chk l else if okF f then 0 else 1
def dpas (l : List Ru) (f : Fw) (o : Bool) : Bool := if derr l f = 0 then pas f l o else false
def didx (l : List Ru) (f : Fw) : Int := if derr l f = 0 then fst f l else 0
def cerr (x y : Ru) : Int := if okR x && okR y then 0 else 4
def ccov (x y : Ru) : Bool := okR x && okR y && cov x y
def sl (l : List Ru) : List Ru := if chk l = 0 then slim l else []

theorem chk_zero {l : List Ru} : chk l = 0 ↔ l.length ≤ 64 ∧ ∀ r ∈ l, okR r = true := by
  unfold chk
  by_cases h : 64 < l.length
  · rw [if_pos h]; exact ⟨fun e => absurd e (by decide), fun e => absurd e.1 (by omega)⟩
  · rw [if_neg h]
    by_cases h2 : l.all okR = true
    · rw [if_pos h2]; exact ⟨fun _ => ⟨by omega, List.all_eq_true.1 h2⟩, fun _ => rfl⟩
    · rw [if_neg h2]; exact ⟨fun e => absurd e (by decide), fun e => absurd (List.all_eq_true.2 e.2) h2⟩
theorem chk_two (x y : Ru) : chk [x, y] = cerr x y := by
  unfold chk cerr
  rw [if_neg (by simp)]
  simp
theorem chk_one (x : Ru) : chk [x] = if okR x then 0 else 4 := by
  unfold chk
  rw [if_neg (by simp)]
  simp

theorem hs_up {ao ai c : Nat} {lo li : Int} (h1 : hn ao lo ai li = true) (h2 : hs ai li c = true) : hs ao lo c = true := by
  simp only [hn, hs, isN, Bool.and_eq_true, decide_eq_true_eq] at h1 h2 ⊢
  obtain ⟨hl, ⟨⟨h0, h3⟩, h4⟩, h5⟩ := h1
  obtain ⟨⟨⟨g0, g3⟩, g4⟩, g5⟩ := h2
  refine ⟨⟨⟨h0, h3⟩, h4⟩, ?_⟩
  obtain ⟨n, rfl⟩ : ∃ n : Nat, lo = (n : Int) := ⟨lo.toNat, by omega⟩
  obtain ⟨m, rfl⟩ : ∃ n : Nat, li = (n : Int) := ⟨li.toNat, by omega⟩
  simp only [Int.toNat_natCast] at *
  have e : 32 - n = (32 - m) + (m - n) := by omega
  rw [e, Nat.pow_add] at h5 ⊢
  rw [← Nat.div_div_eq_div_mul] at h5 ⊢
  have e2 : c / 2 ^ (32 - m) = ai / 2 ^ (32 - m) := by
    rw [← g5, Nat.mul_div_cancel _ (Nat.two_pow_pos _)]
  rw [e2]; exact h5
theorem hn_trans {a b c : Nat} {x y z : Int} (h1 : hn a x b y = true) (h2 : hn b y c z = true) : hn a x c z = true := by
  have h3 := h2
  simp only [hn, Bool.and_eq_true, decide_eq_true_eq] at h2
  have := hs_up h1 h2.2
  simp only [hn, Bool.and_eq_true, decide_eq_true_eq] at h1 ⊢
  exact ⟨by omega, this⟩
theorem hn_refl {a : Nat} {l : Int} (h : isN a l = true) : hn a l a l = true := by
  have h2 := h
  simp only [isN, Bool.and_eq_true, decide_eq_true_eq] at h2
  simp only [hn, hs, h, Bool.and_eq_true, decide_eq_true_eq]
  exact ⟨Int.le_refl _, trivial, h2.2⟩
theorem cov_mts {x y : Ru} {f : Fw} (h : cov x y = true) (hm : mts f y = true) : mts f x = true := by
  simp only [cov, mts, hp, Bool.and_eq_true, Bool.or_eq_true, decide_eq_true_eq] at *
  obtain ⟨⟨⟨⟨⟨⟨h1, h2⟩, h3⟩, h4⟩, h5⟩, h6⟩, h7⟩ := h
  obtain ⟨⟨⟨⟨⟨⟨g1, g2⟩, g3⟩, g4⟩, g5⟩, g6⟩, g7⟩ := hm
  exact ⟨⟨⟨⟨⟨⟨hs_up h1 g1, hs_up h2 g2⟩, by omega⟩, by omega⟩, by omega⟩, by omega⟩, by omega⟩
theorem cov_trans {x y z : Ru} (h : cov x y = true) (hm : cov y z = true) : cov x z = true := by
  simp only [cov, hp, Bool.and_eq_true, Bool.or_eq_true, decide_eq_true_eq] at *
  obtain ⟨⟨⟨⟨⟨⟨h1, h2⟩, h3⟩, h4⟩, h5⟩, h6⟩, h7⟩ := h
  obtain ⟨⟨⟨⟨⟨⟨g1, g2⟩, g3⟩, g4⟩, g5⟩, g6⟩, g7⟩ := hm
  exact ⟨⟨⟨⟨⟨⟨hn_trans h1 g1, hn_trans h2 g2⟩, by omega⟩, by omega⟩, by omega⟩, by omega⟩, by omega⟩
theorem cov_refl {x : Ru} (h : okR x = true) : cov x x = true := by
  simp only [okR, Bool.and_eq_true] at h
  simp only [cov, hp, Bool.and_eq_true, Bool.or_eq_true, decide_eq_true_eq]
  exact ⟨⟨⟨⟨⟨⟨hn_refl h.1.1.1.1, hn_refl h.1.1.1.2⟩, by simp⟩, Int.le_refl _⟩, Int.le_refl _⟩, Int.le_refl _⟩, Int.le_refl _⟩

theorem slN_snoc (l : List Ru) (r : Ru) : ∀ n, n ≤ l.length → slN (l ++ [r]) n = slN l n
  | 0, _ => rfl
  | n + 1, h => by
    simp only [slN]
    rw [slN_snoc l r n (by omega), List.getElem?_append_left (by omega), List.take_append_of_le_length (by omega)]
theorem slN_succ (l : List Ru) (n : Nat) (x : Ru) (h : l[n]? = some x) : slN l (n + 1) = if (l.take n).any (fun y => cov y x) then slN l n else slN l n ++ [x] := by
  simp only [slN, h]
  split <;> simp
theorem slim_snoc (l : List Ru) (r : Ru) : slim (l ++ [r]) = slim l ++ (if l.any (fun x => cov x r) then [] else [r]) := by
  unfold slim
  rw [List.length_append, List.length_singleton]
  simp only [slN]
  rw [slN_snoc l r _ (Nat.le_refl _), List.getElem?_append_right (Nat.le_refl _), Nat.sub_self]
  simp only [List.getElem?_cons_zero]
  rw [List.take_append_of_le_length (Nat.le_refl _), List.take_length]
theorem snoc_ind {P : List Ru → Prop} (h0 : P []) (h1 : ∀ l x, P l → P (l ++ [x])) (l : List Ru) : P l := by
  have : ∀ k (l : List Ru), l.length = k → P l := by
    intro k
    induction k with
    | zero => intro l h; rw [List.eq_nil_of_length_eq_zero h]; exact h0
    | succ k ih =>
      intro l h
      have hne : l ≠ [] := fun e => by rw [e] at h; simp at h
      rw [← List.dropLast_concat_getLast hne]
      exact h1 _ _ (ih _ (by rw [List.length_dropLast]; omega))
  exact this _ l rfl
theorem slim_mem (l : List Ru) : ∀ x ∈ slim l, x ∈ l := by
  induction l using snoc_ind with
  | h0 => intro x h; exact h
  | h1 l r ih =>
    intro x h
    rw [slim_snoc, List.mem_append] at h
    rcases h with h | h
    · exact List.mem_append_left _ (ih x h)
    · split at h
      · simp at h
      · exact List.mem_append_right _ h
theorem slN_len (l : List Ru) : ∀ n, (slN l n).length ≤ n
  | 0 => Nat.le_refl _
  | n + 1 => by
    simp only [slN, List.length_append]
    have := slN_len l n
    split
    · simp; omega
    · split <;> simp <;> omega
theorem slim_len (l : List Ru) : (slim l).length ≤ l.length := slN_len l _
theorem slim_slim (l : List Ru) : slim (slim l) = slim l := by
  induction l using snoc_ind with
  | h0 => rfl
  | h1 l r ih =>
    rw [slim_snoc]
    by_cases h : l.any (fun x => cov x r) = true
    · rw [if_pos h, List.append_nil, ih]
    · rw [if_neg h, slim_snoc, ih, if_neg]
      intro h2
      apply h
      rw [List.any_eq_true] at h2 ⊢
      obtain ⟨x, hx, hc⟩ := h2
      exact ⟨x, slim_mem l x hx, hc⟩
theorem find_slim (f : Fw) (l : List Ru) : (slim l).find? (mts f) = l.find? (mts f) := by
  induction l using snoc_ind with
  | h0 => rfl
  | h1 l r ih =>
    rw [slim_snoc, List.find?_append, List.find?_append, ih]
    by_cases h : l.any (fun x => cov x r) = true
    · rw [if_pos h]
      cases e : l.find? (mts f) with
      | some y => rfl
      | none =>
        obtain ⟨x, hx, hc⟩ := List.any_eq_true.1 h
        have hn := List.find?_eq_none.1 e x hx
        have : ¬ mts f r = true := fun hm => hn (cov_mts hc hm)
        simp [this]
    · rw [if_neg h]
theorem pas_slim (f : Fw) (l : List Ru) (o : Bool) : pas f (slim l) o = pas f l o := by unfold pas; rw [find_slim]
theorem chk_slim {l : List Ru} (h : chk l = 0) : chk (slim l) = 0 := by
  rw [chk_zero] at h ⊢
  have := slim_len l
  exact ⟨by omega, fun r hr => h.2 r (slim_mem l r hr)⟩

theorem fst_some {f : Fw} {l : List Ru} {i : Nat} (h : fst f l = (i : Int)) : ∃ r, l[i]? = some r ∧ mts f r = true ∧ (∀ o, pas f l o = r.ps) := by
  unfold fst at h
  cases e : l.findIdx? (mts f) with
  | none => rw [e] at h; simp at h
  | some j =>
    rw [e] at h
    obtain rfl : j = i := Int.ofNat.inj h
    obtain ⟨hj, hp, hb⟩ := List.findIdx?_eq_some_iff_getElem.1 e
    refine ⟨l[j], List.getElem?_eq_getElem hj, hp, fun o => ?_⟩
    unfold pas
    have : l.find? (mts f) = some l[j] := List.find?_eq_some_iff_getElem.2 ⟨hp, j, hj, rfl, fun k hk => by simpa using hb k hk⟩
    rw [this]
theorem fst_ge (f : Fw) (l : List Ru) : -1 ≤ fst f l ∧ fst f l < (l.length : Int) := by
  unfold fst
  cases e : l.findIdx? (mts f) with
  | none => simp; omega
  | some j =>
    obtain ⟨hj, _⟩ := List.findIdx?_eq_some_iff_getElem.1 e
    simp; omega
theorem fst_none {f : Fw} {l : List Ru} (h : fst f l < 0) : fst f l = -1 ∧ (∀ o, pas f l o = o) ∧ ∀ x ∈ l, mts f x = false := by
  unfold fst at *
  cases e : l.findIdx? (mts f) with
  | some j => rw [e] at h; simp at h; omega
  | none =>
    have hn := List.findIdx?_eq_none_iff.1 e
    refine ⟨rfl, fun o => ?_, hn⟩
    unfold pas
    rw [List.find?_eq_none.2 (fun x hx => by simp [hn x hx])]
theorem fst_snoc (f : Fw) (l : List Ru) (r : Ru) : fst f (l ++ [r]) = if 0 ≤ fst f l then fst f l else if mts f r then (l.length : Int) else -1 := by
  unfold fst
  rw [List.findIdx?_append]
  cases e : l.findIdx? (mts f) with
  | some j => simp
  | none =>
    by_cases h : mts f r = true
    · simp [h]
    · simp [h]
theorem pas_snoc (f : Fw) (l : List Ru) (r : Ru) (o : Bool) (h : 0 ≤ fst f l) : pas f (l ++ [r]) o = pas f l o := by
  obtain ⟨i, hi⟩ : ∃ i : Nat, fst f l = (i : Int) := ⟨(fst f l).toNat, by omega⟩
  obtain ⟨x, hx, hm, hp⟩ := fst_some hi
  have h2 : fst f (l ++ [r]) = (i : Int) := by rw [fst_snoc, if_pos h, hi]
  obtain ⟨y, hy, _, hq⟩ := fst_some h2
  rw [hp, hq]
  have hl := (List.getElem?_eq_some_iff.1 hx).1
  rw [List.getElem?_append_left hl, hx] at hy
  rw [Option.some.inj hy]
theorem pas_left (f : Fw) (l : List Ru) (n : Nat) (o : Bool) (h : (n : Int) ≠ fst f l) : pas f (l.eraseIdx n) o = pas f l o := by
  by_cases hn : n < l.length
  · have e : l = l.take n ++ (l[n] :: l.drop (n + 1)) := by simp
    rw [List.eraseIdx_eq_take_drop_succ]
    unfold pas
    have e2 : l.find? (mts f) = (l.take n ++ (l[n] :: l.drop (n + 1))).find? (mts f) := by rw [← e]
    rw [e2, List.find?_append, List.find?_append]
    cases e3 : (l.take n).find? (mts f) with
    | some y => rfl
    | none =>
      have : ¬ mts f l[n] = true := fun hm => by
        apply h
        unfold fst
        have : l.findIdx? (mts f) = some n := List.findIdx?_eq_some_iff_getElem.2 ⟨hn, hm, fun j hj => by
          have hjl : j < l.length := by omega
          have := List.find?_eq_none.1 e3 l[j] (List.mem_take_iff_getElem.2 ⟨j, by omega, rfl⟩)
          simpa using this⟩
        rw [this]
      rw [List.find?_cons_of_neg (by simpa using this)]
  · rw [List.eraseIdx_of_length_le (by omega)]
theorem chk_erase {l : List Ru} (n : Nat) (h : chk l = 0) : chk (l.eraseIdx n) = 0 := by
  rw [chk_zero] at h ⊢
  have := List.length_eraseIdx_le l n
  exact ⟨by omega, fun r hr => h.2 r (List.mem_of_mem_eraseIdx hr)⟩
end Go.Proofs.Ytfcnabpbpbhacaa.ru
