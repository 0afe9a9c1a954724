/- Nets in numbers: a net's bits as a path, an address' bits; whether a number and a length are a net. -/
import Derived.Below
namespace Go.Proofs.Ytfcnabpbpbhacaa.pm

abbrev Pth := List Bool
/-- one path is ahead of another one: a beginning, or 0 where it has 1 -/
def lt : Pth → Pth → Prop
  | [], [] => False
  | [], _ :: _ => True
  | _ :: _, [] => False
  | false :: p, false :: q => lt p q
  | true :: p, true :: q => lt p q
  | false :: _, true :: _ => True
  | true :: _, false :: _ => False

theorem lt_irrefl : ∀ p : Pth, ¬ lt p p := by
  intro p
  induction p with
  | nil => simp [lt]
  | cons b p ih => cases b <;> simpa [lt] using ih
theorem lt_trans : ∀ {p q r : Pth}, lt p q → lt q r → lt p r := by
  intro p
  induction p with
  | nil =>
    intro q r h1 h2
    cases q with
    | nil => simp [lt] at h1
    | cons c q => cases r <;> cases c <;> (try rename_i d r; cases d) <;> simp_all [lt]
  | cons b p ih =>
    intro q r h1 h2
    cases q with
    | nil => cases b <;> simp [lt] at h1
    | cons c q =>
      cases r with
      | nil => cases c <;> simp [lt] at h2
      | cons d r =>
        cases b <;> cases c <;> cases d <;> simp_all only [lt]
        · exact ih h1 h2
        · exact ih h1 h2
theorem lt_tri : ∀ (p q : Pth), lt p q ∨ p = q ∨ lt q p := by
  intro p
  induction p with
  | nil => intro q; cases q <;> simp [lt]
  | cons b p ih =>
    intro q
    cases q with
    | nil => cases b <;> simp [lt]
    | cons c q => cases b <;> cases c <;> simp [lt, ih]
/- nets -/
/-- the number of a path's bts, the uppermost of k -/
def ad : Nat → Pth → Nat
  | _, [] => 0
  | 0, _ :: _ => 0
  | k + 1, b :: p => (if b then 2 ^ k else 0) + ad k p
def bts : Nat → Nat → Nat → Pth
  | _, _, 0 => []
  | 0, _, _ + 1 => []
  | k + 1, a, n + 1 => decide (2 ^ k ≤ a) :: bts k (if 2 ^ k ≤ a then a - 2 ^ k else a) n
theorem ad_lt : ∀ (k : Nat) (p : Pth), ad k p < 2 ^ k := by
  intro k
  induction k with
  | zero => intro p; cases p <;> simp [ad]
  | succ k ih =>
    intro p
    cases p with
    | nil => simp [ad]; exact Nat.two_pow_pos _
    | cons b p =>
      have := ih p
      simp only [ad, Nat.pow_succ]
      split <;> omega
/-- the order of paths is the one of their numbers, and of like ones of their lengths: then one begins with the other -/
theorem lt_ad : ∀ (k : Nat) (p q : Pth), p.length ≤ k → q.length ≤ k → lt p q → ad k p < ad k q ∨ (ad k p = ad k q ∧ p <+: q ∧ p.length < q.length) := by
  intro k
  induction k with
  | zero =>
    intro p q hp hq h
    cases p <;> cases q <;> simp_all [lt]
  | succ k ih =>
    intro p q hp hq h
    cases p with
    | nil =>
      cases q with
      | nil => simp [lt] at h
      | cons c q =>
        by_cases h0 : ad (k + 1) (c :: q) = 0
        · right; exact ⟨by rw [h0]; rfl, List.nil_prefix, by simp⟩
        · left; show 0 < _; omega
    | cons b p =>
      cases q with
      | nil => cases b <;> simp [lt] at h
      | cons c q =>
        have e1 := ad_lt k p
        have e2 := ad_lt k q
        simp only [List.length_cons, Nat.add_le_add_iff_right] at hp hq
        cases b <;> cases c <;> simp only [lt] at h
        · rcases ih p q hp hq h with h | ⟨h1, h2, h3⟩
          · left; simpa [ad] using h
          · right; exact ⟨by simpa [ad] using h1, by simpa [List.cons_prefix_cons] using h2, by simpa using h3⟩
        · left; simp [ad]; omega
        · rcases ih p q hp hq h with h | ⟨h1, h2, h3⟩
          · left; simpa [ad] using h
          · right; exact ⟨by simpa [ad] using h1, by simpa [List.cons_prefix_cons] using h2, by simpa using h3⟩
theorem ad_inj {k : Nat} {p q : Pth} (hp : p.length ≤ k) (hq : q.length ≤ k) (h1 : ad k p = ad k q) (h2 : p.length = q.length) : p = q := by
  rcases lt_tri p q with h | h | h
  · rcases lt_ad k p q hp hq h with h | ⟨_, _, h⟩ <;> omega
  · exact h
  · rcases lt_ad k q p hq hp h with h | ⟨_, _, h⟩ <;> omega
theorem bts_length : ∀ (k n a : Nat), n ≤ k → (bts k a n).length = n := by
  intro k
  induction k with
  | zero => intro n a h; have : n = 0 := by omega
            subst this; rfl
  | succ k ih =>
    intro n a h
    cases n with
    | zero => rfl
    | succ n => simp only [bts, List.length_cons, ih n _ (by omega)]
theorem ad_bts : ∀ (k n a : Nat), n ≤ k → a < 2 ^ k → ad k (bts k a n) = a / 2 ^ (k - n) * 2 ^ (k - n) := by
  intro k
  induction k with
  | zero => intro n a h ha; have : n = 0 := by omega
            subst this; simp at ha; subst ha; rfl
  | succ k ih =>
    intro n a h ha
    cases n with
    | zero => simp only [bts, ad]; rw [Nat.sub_zero, Nat.div_eq_of_lt ha, Nat.zero_mul]
    | succ n =>
      simp only [bts, ad, Nat.succ_sub_succ]
      have hk : 2 ^ k = 2 ^ n * 2 ^ (k - n) := by rw [← Nat.pow_add]; congr 1; omega
      rw [Nat.pow_succ] at ha
      by_cases h2 : 2 ^ k ≤ a
      · simp only [h2, decide_true, if_true]
        rw [ih n (a - 2 ^ k) (by omega) (by omega)]
        have : a / 2 ^ (k - n) = (a - 2 ^ k) / 2 ^ (k - n) + 2 ^ n := by
          have e : a = (a - 2 ^ k) + 2 ^ n * 2 ^ (k - n) := by omega
          conv => lhs; rw [e]
          rw [Nat.add_mul_div_right _ _ (Nat.two_pow_pos _)]
        rw [this, Nat.add_mul, ← hk]; omega
      · simp only [h2, decide_false, if_false, Bool.false_eq_true, Nat.zero_add]
        exact ih n a (by omega) (by omega)
theorem bts_take : ∀ (k n m a : Nat), n ≤ m → m ≤ k → (bts k a m).take n = bts k a n := by
  intro k
  induction k with
  | zero => intro n m a h1 h2; have : m = 0 := by omega
            subst this; have : n = 0 := by omega
            subst this; rfl
  | succ k ih =>
    intro n m a h1 h2
    cases n with
    | zero => simp [bts]
    | succ n =>
      cases m with
      | zero => omega
      | succ m => simp only [bts, List.take_succ_cons, ih n m _ (by omega) (by omega)]
/-- whether an address is in a net -/
theorem bts_iff {k n a : Nat} {p : Pth} (hn : p.length = n) (hk : n ≤ k) (ha : a < 2 ^ k) : bts k a n = p ↔ a / 2 ^ (k - n) * 2 ^ (k - n) = ad k p := by
  constructor
  · intro h; rw [← h, ad_bts k n a hk ha]
  · intro h
    refine ad_inj (k := k) (by rw [bts_length _ _ _ hk]; exact hk) (by omega) ?_ (by rw [bts_length _ _ _ hk, hn])
    rw [ad_bts k n a hk ha, h]
theorem bts_get : ∀ (k n a i : Nat), n ≤ k → i < n → a < 2 ^ k → (bts k a n)[i]? = some (decide (a / 2 ^ (k - 1 - i) % 2 = 1)) := by
  intro k
  induction k with
  | zero => intro n a i h1 h2; omega
  | succ k ih =>
    intro n a i h1 h2 ha
    cases n with
    | zero => omega
    | succ n =>
      rw [Nat.pow_succ] at ha
      cases i with
      | zero =>
        simp only [bts, List.getElem?_cons_zero, Nat.add_sub_cancel, Nat.sub_zero]
        congr 1
        refine decide_eq_decide.2 ?_
        by_cases h2 : 2 ^ k ≤ a
        · have : a / 2 ^ k = 1 := by
            rw [Nat.div_eq_of_lt_le] <;> omega
          simp [this, h2]
        · rw [Nat.div_eq_of_lt (by omega)]; simp; omega
      | succ i =>
        simp only [bts, List.getElem?_cons_succ]
        have e : k + 1 - 1 - (i + 1) = k - 1 - i := by omega
        rw [e]
        by_cases h3 : 2 ^ k ≤ a
        · simp only [h3, if_true]
          rw [ih n (a - 2 ^ k) i (by omega) (by omega) (by omega)]
          congr 1
          have hk : 2 ^ k = 2 ^ i * 2 * 2 ^ (k - 1 - i) := by rw [← Nat.pow_succ, ← Nat.pow_add]; congr 1; omega
          have : a / 2 ^ (k - 1 - i) = (a - 2 ^ k) / 2 ^ (k - 1 - i) + 2 ^ i * 2 := by
            have e : a = (a - 2 ^ k) + 2 ^ i * 2 * 2 ^ (k - 1 - i) := by omega
            conv => lhs; rw [e]
            rw [Nat.add_mul_div_right _ _ (Nat.two_pow_pos _)]
          rw [this]
          refine decide_eq_decide.2 ?_
          omega
        · simp only [h3, if_false]
          exact ih n a i (by omega) (by omega) (by omega)
theorem ad_snoc : ∀ (k : Nat) (p : Pth) (b : Bool), p.length < k → ad k (p ++ [b]) = ad k p + (if b then 2 ^ (k - 1 - p.length) else 0) := by
  intro k
  induction k with
  | zero => intro p b h; omega
  | succ k ih =>
    intro p b h
    cases p with
    | nil => simp [ad]
    | cons c p =>
      simp only [List.length_cons] at h
      simp only [List.cons_append, ad, ih p b (by omega), List.length_cons]
      rw [show k + 1 - 1 - (p.length + 1) = k - 1 - p.length by omega]; omega
/-- the bts behind a path's own are 0 -/
theorem ad_dvd : ∀ (k : Nat) (p : Pth), p.length ≤ k → 2 ^ (k - p.length) ∣ ad k p := by
  intro k
  induction k with
  | zero => intro p h; cases p <;> simp_all [ad]
  | succ k ih =>
    intro p h
    cases p with
    | nil => simp [ad]
    | cons c p =>
      simp only [List.length_cons, Nat.succ_sub_succ] at h ⊢
      have := ih p (by omega)
      simp only [ad]
      refine Nat.dvd_add ?_ this
      split
      · exact Nat.pow_dvd_pow 2 (by omega)
      · exact Nat.dvd_zero _
/-- whether it is a net -/
def isN (a : Nat) (l : Int) : Bool := decide (0 ≤ l) && decide (l ≤ 32) && decide (a / 2 ^ (32 - l.toNat) * 2 ^ (32 - l.toNat) = a)
def path (a : Nat) (l : Int) : Pth := bts 32 a l.toNat
theorem isN_yes {a : Nat} {l : Int} (h : isN a l = true) (ha : a < 4294967296) : (path a l).length ≤ 32 ∧ a = ad 32 (path a l) ∧ l = ((path a l).length : Int) := by
  simp only [isN, Bool.and_eq_true, decide_eq_true_eq] at h
  obtain ⟨⟨h1, h2⟩, h3⟩ := h
  have e := bts_length 32 l.toNat a (by omega)
  unfold path
  exact ⟨by omega, by rw [ad_bts 32 _ a (by omega) ha, h3], by omega⟩
theorem bts_ad {p : Pth} (hp : p.length ≤ 32) : bts 32 (ad 32 p) p.length = p := by
  refine (bts_iff rfl hp (ad_lt 32 p)).2 ?_
  obtain ⟨q, hq⟩ := ad_dvd 32 p hp
  rw [hq, Nat.mul_div_cancel_left _ (Nat.two_pow_pos _), Nat.mul_comm]
theorem isN_path {p : Pth} (hp : p.length ≤ 32) : isN (ad 32 p) p.length = true ∧ path (ad 32 p) p.length = p := by
  refine ⟨?_, by unfold path; rw [Int.toNat_natCast]; exact bts_ad hp⟩
  have h := (bts_iff (a := ad 32 p) rfl hp (ad_lt 32 p)).1 (bts_ad hp)
  simp only [isN, Int.toNat_natCast, Bool.and_eq_true, decide_eq_true_eq]
  exact ⟨⟨by omega, by omega⟩, h⟩
end Go.Proofs.Ytfcnabpbpbhacaa.pm
