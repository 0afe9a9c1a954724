/- How a tree is laid out; a net as a path; what is put in at the end of what is laid out. -/
import Derived.Test.YtfcnabpbpbhacaaPfMath
namespace Go.Proofs.Ytfcnabpbpbhacaa.pm

structure Nd where
  a : Int
  b : Int
  s : Bool
  v : Int
abbrev z0 : Nd := ⟨0, 0, false, 0⟩
def way : T → Nat → Int
  | .nil, _ => 0
  | .nd _ _ _, o => (o : Int)
def hd (s : Option Int) (l r : T) (o : Nat) : Nd := ⟨way l (o + 1), way r (o + 1 + sz l), s.isSome, s.getD 0⟩
def lay : Nat → T → List Nd
  | _, .nil => []
  | o, .nd s l r => hd s l r o :: (lay (o + 1) l ++ lay (o + 1 + sz l) r)
/-- the tree lies there -/
def Seg (ns : List Nd) : Nat → T → Prop
  | _, .nil => True
  | o, .nd s l r => ns[o]? = some (hd s l r o) ∧ Seg ns (o + 1) l ∧ Seg ns (o + 1 + sz l) r
def nx (x : Nd) (b : Bool) : Int := if b then x.b else x.a
def stN (x : Nd) (b : Bool) (n : Int) : Nd := if b then { x with b := n } else { x with a := n }

theorem lay_length : ∀ (t : T) (o : Nat), (lay o t).length = sz t := by
  intro t
  induction t with
  | nil => intro o; rfl
  | nd s l r ihl ihr => intro o; simp [lay, sz, ihl, ihr]; omega
theorem way_nil {t : T} {o : Nat} (ho : 0 < o) : way t o = 0 ↔ t = .nil := by
  cases t with
  | nil => simp [way]
  | nd s l r => simp only [way, reduceCtorEq, iff_false]; omega
theorem way_ne {t : T} {o : Nat} (h : t ≠ .nil) : way t o = (o : Int) := by
  cases t with
  | nil => exact absurd rfl h
  | nd s l r => rfl
theorem seg_lay : ∀ (t : T) (a c : List Nd), Seg (a ++ (lay a.length t ++ c)) a.length t := by
  intro t
  induction t with
  | nil => intro a c; trivial
  | nd s l r ihl ihr =>
    intro a c
    refine ⟨by simp [lay], ?_, ?_⟩
    · have := ihl (a ++ [hd s l r a.length]) (lay (a.length + 1 + sz l) r ++ c)
      simpa [lay] using this
    · have := ihr (a ++ [hd s l r a.length] ++ lay (a.length + 1) l) c
      simp only [List.length_append, List.length_singleton, lay_length] at this
      simpa [lay] using this
theorem seg_get : ∀ (t : T) (ns : List Nd) (o : Nat), Seg ns o t → ∀ i x, (lay o t)[i]? = some x → ns[o + i]? = some x := by
  intro t
  induction t with
  | nil => intro ns o _ i x h; simp [lay] at h
  | nd s l r ihl ihr =>
    intro ns o h i x hx
    cases i with
    | zero => simp only [lay, List.getElem?_cons_zero] at hx; rw [Nat.add_zero, h.1]; exact hx
    | succ i =>
      simp only [lay, List.getElem?_cons_succ] at hx
      by_cases hi : i < sz l
      · rw [List.getElem?_append_left (by rw [lay_length]; exact hi)] at hx
        have := ihl ns _ h.2.1 i x hx
        rwa [Nat.add_right_comm] at this
      · rw [List.getElem?_append_right (by rw [lay_length]; omega), lay_length] at hx
        have := ihr ns _ h.2.2 (i - sz l) x hx
        rwa [show o + 1 + sz l + (i - sz l) = o + (i + 1) by omega] at this
theorem seg_le : ∀ (t : T) (ns : List Nd) (o : Nat), Seg ns o t → t ≠ .nil → o + sz t ≤ ns.length := by
  intro t ns o h hn
  have hp := sz_pos hn
  have hl : (lay o t)[sz t - 1]? = some ((lay o t)[sz t - 1]'(by rw [lay_length]; omega)) := List.getElem?_eq_getElem _
  have := seg_get t ns o h _ _ hl
  have := (List.getElem?_eq_some_iff.1 this).1
  omega
theorem seg_eq {t : T} {ns : List Nd} (h : Seg ns 0 t) (hl : ns.length = sz t) : ns = lay 0 t := by
  refine List.ext_getElem? fun i => ?_
  by_cases hi : i < sz t
  · have e : (lay 0 t)[i]? = some ((lay 0 t)[i]'(by rw [lay_length]; exact hi)) := List.getElem?_eq_getElem _
    have := seg_get t ns 0 h i _ e
    rw [Nat.zero_add] at this
    rw [this, e]
  · rw [List.getElem?_eq_none (by omega), List.getElem?_eq_none (by rw [lay_length]; omega)]
theorem seg_self (t : T) : Seg (lay 0 t) 0 t := by
  have := seg_lay t [] []
  simpa using this
/-- the rows that are told from a node on -/
def at_ (p : Pth) (t : T) : List Rw := (rows t).map (pre p)
theorem at_nd (p : Pth) (s : Option Int) (l r : T) : at_ p (.nd s l r) = (own s).map (pre p) ++ (at_ (p ++ [false]) l ++ at_ (p ++ [true]) r) := by
  have hf : ∀ b, pre p ∘ cns b = pre (p ++ [b]) := by
    intro b; funext x; simp [pre, cns]
  simp only [at_, rows, List.map_append, List.map_map, hf]
theorem at_nil (t : T) : at_ [] t = rows t := by
  have : pre [] = id := by funext x; simp [pre]
  simp [at_, this]

/- nets -/
/-- the number of a path's bts, the uppermost of k -/
def ad : Nat → Pth → Nat
  | _, [] => 0
  | 0, _ :: _ => 0
  | k + 1, b :: p => (if b then 2 ^ k else 0) + ad k p
def bts : Nat → Nat → Nat → Pth
  | _, _, 0 => []
  | 0, _, _ + 1 => []
  | k + 1, a, n + 1 => decide (2 ^ k ≤ a) :: bts k (if 2 ^ k ≤ a then a - 2 ^ k else a) n
theorem ad_lt : ∀ (k : Nat) (p : Pth), ad k p < 2 ^ k := by
  intro k
  induction k with
  | zero => intro p; cases p <;> simp [ad]
  | succ k ih =>
    intro p
    cases p with
    | nil => simp [ad]; exact Nat.two_pow_pos _
    | cons b p =>
      have := ih p
      simp only [ad, Nat.pow_succ]
      split <;> omega
/-- the order of paths is the one of their numbers, and of like ones of their lengths: then one begins with the other -/
theorem lt_ad : ∀ (k : Nat) (p q : Pth), p.length ≤ k → q.length ≤ k → lt p q → ad k p < ad k q ∨ (ad k p = ad k q ∧ p <+: q ∧ p.length < q.length) := by
  intro k
  induction k with
  | zero =>
    intro p q hp hq h
    cases p <;> cases q <;> simp_all [lt]
  | succ k ih =>
    intro p q hp hq h
    cases p with
    | nil =>
      cases q with
      | nil => simp [lt] at h
      | cons c q =>
        by_cases h0 : ad (k + 1) (c :: q) = 0
        · right; exact ⟨by rw [h0]; rfl, List.nil_prefix, by simp⟩
        · left; show 0 < _; omega
    | cons b p =>
      cases q with
      | nil => cases b <;> simp [lt] at h
      | cons c q =>
        have e1 := ad_lt k p
        have e2 := ad_lt k q
        simp only [List.length_cons, Nat.add_le_add_iff_right] at hp hq
        cases b <;> cases c <;> simp only [lt] at h
        · rcases ih p q hp hq h with h | ⟨h1, h2, h3⟩
          · left; simpa [ad] using h
          · right; exact ⟨by simpa [ad] using h1, by simpa [List.cons_prefix_cons] using h2, by simpa using h3⟩
        · left; simp [ad]; omega
        · rcases ih p q hp hq h with h | ⟨h1, h2, h3⟩
          · left; simpa [ad] using h
          · right; exact ⟨by simpa [ad] using h1, by simpa [List.cons_prefix_cons] using h2, by simpa using h3⟩
theorem ad_inj {k : Nat} {p q : Pth} (hp : p.length ≤ k) (hq : q.length ≤ k) (h1 : ad k p = ad k q) (h2 : p.length = q.length) : p = q := by
  rcases lt_tri p q with h | h | h
  · rcases lt_ad k p q hp hq h with h | ⟨_, _, h⟩ <;> omega
  · exact h
  · rcases lt_ad k q p hq hp h with h | ⟨_, _, h⟩ <;> omega
theorem bts_length : ∀ (k n a : Nat), n ≤ k → (bts k a n).length = n := by
  intro k
  induction k with
  | zero => intro n a h; have : n = 0 := by omega
            subst this; rfl
  | succ k ih =>
    intro n a h
    cases n with
    | zero => rfl
    | succ n => simp only [bts, List.length_cons, ih n _ (by omega)]
theorem ad_bts : ∀ (k n a : Nat), n ≤ k → a < 2 ^ k → ad k (bts k a n) = a / 2 ^ (k - n) * 2 ^ (k - n) := by
  intro k
  induction k with
  | zero => intro n a h ha; have : n = 0 := by omega
            subst this; simp at ha; subst ha; rfl
  | succ k ih =>
    intro n a h ha
    cases n with
    | zero => simp only [bts, ad]; rw [Nat.sub_zero, Nat.div_eq_of_lt ha, Nat.zero_mul]
    | succ n =>
      simp only [bts, ad, Nat.succ_sub_succ]
      have hk : 2 ^ k = 2 ^ n * 2 ^ (k - n) := by rw [← Nat.pow_add]; congr 1; omega
      rw [Nat.pow_succ] at ha
      by_cases h2 : 2 ^ k ≤ a
      · simp only [h2, decide_true, if_true]
        rw [ih n (a - 2 ^ k) (by omega) (by omega)]
        have : a / 2 ^ (k - n) = (a - 2 ^ k) / 2 ^ (k - n) + 2 ^ n := by
          have e : a = (a - 2 ^ k) + 2 ^ n * 2 ^ (k - n) := by omega
          conv => lhs; rw [e]
          rw [Nat.add_mul_div_right _ _ (Nat.two_pow_pos _)]
        rw [this, Nat.add_mul, ← hk]; omega
      · simp only [h2, decide_false, if_false, Bool.false_eq_true, Nat.zero_add]
        exact ih n a (by omega) (by omega)
theorem bts_take : ∀ (k n m a : Nat), n ≤ m → m ≤ k → (bts k a m).take n = bts k a n := by
  intro k
  induction k with
  | zero => intro n m a h1 h2; have : m = 0 := by omega
            subst this; have : n = 0 := by omega
            subst this; rfl
  | succ k ih =>
    intro n m a h1 h2
    cases n with
    | zero => simp [bts]
    | succ n =>
      cases m with
      | zero => omega
      | succ m => simp only [bts, List.take_succ_cons, ih n m _ (by omega) (by omega)]
/-- whether an address is in a net -/
theorem bts_iff {k n a : Nat} {p : Pth} (hn : p.length = n) (hk : n ≤ k) (ha : a < 2 ^ k) : bts k a n = p ↔ a / 2 ^ (k - n) * 2 ^ (k - n) = ad k p := by
  constructor
  · intro h; rw [← h, ad_bts k n a hk ha]
  · intro h
    refine ad_inj (k := k) (by rw [bts_length _ _ _ hk]; exact hk) (by omega) ?_ (by rw [bts_length _ _ _ hk, hn])
    rw [ad_bts k n a hk ha, h]
theorem bts_get : ∀ (k n a i : Nat), n ≤ k → i < n → a < 2 ^ k → (bts k a n)[i]? = some (decide (a / 2 ^ (k - 1 - i) % 2 = 1)) := by
  intro k
  induction k with
  | zero => intro n a i h1 h2; omega
  | succ k ih =>
    intro n a i h1 h2 ha
    cases n with
    | zero => omega
    | succ n =>
      rw [Nat.pow_succ] at ha
      cases i with
      | zero =>
        simp only [bts, List.getElem?_cons_zero, Nat.add_sub_cancel, Nat.sub_zero]
        congr 1
        refine decide_eq_decide.2 ?_
        by_cases h2 : 2 ^ k ≤ a
        · have : a / 2 ^ k = 1 := by
            rw [Nat.div_eq_of_lt_le] <;> omega
          simp [this, h2]
        · rw [Nat.div_eq_of_lt (by omega)]; simp; omega
      | succ i =>
        simp only [bts, List.getElem?_cons_succ]
        have e : k + 1 - 1 - (i + 1) = k - 1 - i := by omega
        rw [e]
        by_cases h3 : 2 ^ k ≤ a
        · simp only [h3, if_true]
          rw [ih n (a - 2 ^ k) i (by omega) (by omega) (by omega)]
          congr 1
          have hk : 2 ^ k = 2 ^ i * 2 * 2 ^ (k - 1 - i) := by rw [← Nat.pow_succ, ← Nat.pow_add]; congr 1; omega
          have : a / 2 ^ (k - 1 - i) = (a - 2 ^ k) / 2 ^ (k - 1 - i) + 2 ^ i * 2 := by
            have e : a = (a - 2 ^ k) + 2 ^ i * 2 * 2 ^ (k - 1 - i) := by omega
            conv => lhs; rw [e]
            rw [Nat.add_mul_div_right _ _ (Nat.two_pow_pos _)]
          rw [this]
          refine decide_eq_decide.2 ?_
          omega
        · simp only [h3, if_false]
          exact ih n a i (by omega) (by omega) (by omega)
theorem ad_snoc : ∀ (k : Nat) (p : Pth) (b : Bool), p.length < k → ad k (p ++ [b]) = ad k p + (if b then 2 ^ (k - 1 - p.length) else 0) := by
  intro k
  induction k with
  | zero => intro p b h; omega
  | succ k ih =>
    intro p b h
    cases p with
    | nil => simp [ad]
    | cons c p =>
      simp only [List.length_cons] at h
      simp only [List.cons_append, ad, ih p b (by omega), List.length_cons]
      rw [show k + 1 - 1 - (p.length + 1) = k - 1 - p.length by omega]; omega
/-- the bts behind a path's own are 0 -/
theorem ad_dvd : ∀ (k : Nat) (p : Pth), p.length ≤ k → 2 ^ (k - p.length) ∣ ad k p := by
  intro k
  induction k with
  | zero => intro p h; cases p <;> simp_all [ad]
  | succ k ih =>
    intro p h
    cases p with
    | nil => simp [ad]
    | cons c p =>
      simp only [List.length_cons, Nat.succ_sub_succ] at h ⊢
      have := ih p (by omega)
      simp only [ad]
      refine Nat.dvd_add ?_ this
      split
      · exact Nat.pow_dvd_pow 2 (by omega)
      · exact Nat.dvd_zero _
end Go.Proofs.Ytfcnabpbpbhacaa.pm
