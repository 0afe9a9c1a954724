/- Buckets as plain numbers: what Check, Level, Take and Run answer; the laws on these. -/
import Derived.Test.YtfigjgefnmkkiaaProg
namespace Go.Proofs.Ytfigjgefnmkkiaa.bkt

structure Bu where
  r : Int
  m : Int
  h : Int
  a : Int
structure Dp where
  a : Int
  n : Int
def z0 : Bu := ⟨0, 0, 0, 0⟩
def bt (n l h : Int) : Bool := decide (l ≤ n) && decide (n ≤ h)
def okA (b : Bu) : Bool := bt b.r 0 1000000 && bt b.m 1 1000000000
def okF (b : Bu) : Bool := bt b.h 0 b.m && bt b.a 0 1099511627776
def chk (b : Bu) : Int := if okA b then (if okF b then 0 else 4) else 1
/-- how much there is at t -/
def lv (b : Bu) (t : Int) : Int := if b.h + b.r * (t - b.a) ≤ b.m then b.h + b.r * (t - b.a) else b.m
def lerr (b : Bu) (t : Int) : Int := if chk b = 0 then (if bt t b.a 1099511627776 then 0 else 1) else chk b
def lval (b : Bu) (t : Int) : Int := if lerr b t = 0 then lv b t else 0
def terr (b : Bu) (t n : Int) : Int := if lerr b t = 0 then (if bt n 0 1000000000 then 0 else 1) else lerr b t
/-- behind a drop, and whether it passes -/
def tk (b : Bu) (t n : Int) : Bu := if terr b t n = 0 then ⟨b.r, b.m, lv b t - (if n ≤ lv b t then n else 0), t⟩ else z0
def pas (b : Bu) (t n : Int) : Bool := decide (terr b t n = 0) && decide (n ≤ lv b t)
def er : Bu → List Dp → Int
  | _, [] => 0
  | b, d :: l => if terr b d.a d.n = 0 then er (tk b d.a d.n) l else terr b d.a d.n
def st : Bu → List Dp → Bu
  | b, [] => b
  | b, d :: l => st (tk b d.a d.n) l
def td : Bu → List Dp → List Bool
  | _, [] => []
  | b, d :: l => pas b d.a d.n :: td (tk b d.a d.n) l
/-- how much passes -/
def pt : Bu → List Dp → Int
  | _, [] => 0
  | b, d :: l => (if pas b d.a d.n then d.n else 0) + pt (tk b d.a d.n) l
def rerr (b : Bu) (l : List Dp) : Int := if chk b = 0 then (if 500 < l.length then 2 else er b l) else chk b
def rst (b : Bu) (l : List Dp) : Bu := if rerr b l = 0 then st b l else z0
def rtd (b : Bu) (l : List Dp) : List Bool := if rerr b l = 0 then td b l else []

theorem bt_iff {n l h : Int} : bt n l h = true ↔ l ≤ n ∧ n ≤ h := by unfold bt; simp
theorem chk_zero {b : Bu} : chk b = 0 ↔ (0 ≤ b.r ∧ b.r ≤ 1000000) ∧ (1 ≤ b.m ∧ b.m ≤ 1000000000) ∧ (0 ≤ b.h ∧ b.h ≤ b.m) ∧ 0 ≤ b.a ∧ b.a ≤ 1099511627776 := by
  unfold chk okA okF
  by_cases h1 : (bt b.r 0 1000000 && bt b.m 1 1000000000) = true
  · rw [if_pos h1]
    by_cases h2 : (bt b.h 0 b.m && bt b.a 0 1099511627776) = true
    · rw [if_pos h2]
      simp only [Bool.and_eq_true, bt_iff] at h1 h2
      exact ⟨fun _ => ⟨h1.1, h1.2, h2.1, h2.2⟩, fun _ => rfl⟩
    · rw [if_neg h2]
      simp only [Bool.and_eq_true, bt_iff] at h1 h2
      exact ⟨fun e => absurd e (by decide), fun e => absurd ⟨e.2.2.1, e.2.2.2⟩ h2⟩
  · rw [if_neg h1]
    simp only [Bool.and_eq_true, bt_iff] at h1
    exact ⟨fun e => absurd e (by decide), fun e => absurd ⟨e.1, e.2.1⟩ h1⟩
theorem lerr_zero {b : Bu} {t : Int} : lerr b t = 0 ↔ chk b = 0 ∧ b.a ≤ t ∧ t ≤ 1099511627776 := by
  unfold lerr
  by_cases h : chk b = 0
  · rw [if_pos h]
    by_cases h2 : bt t b.a 1099511627776 = true
    · rw [if_pos h2]; exact ⟨fun _ => ⟨h, bt_iff.1 h2⟩, fun _ => rfl⟩
    · rw [if_neg h2]; exact ⟨fun e => absurd e (by decide), fun e => absurd (bt_iff.2 e.2) h2⟩
  · rw [if_neg h]; exact ⟨fun e => absurd e h, fun e => absurd e.1 h⟩
theorem terr_zero {b : Bu} {t n : Int} : terr b t n = 0 ↔ lerr b t = 0 ∧ 0 ≤ n ∧ n ≤ 1000000000 := by
  unfold terr
  by_cases h : lerr b t = 0
  · rw [if_pos h]
    by_cases h2 : bt n 0 1000000000 = true
    · rw [if_pos h2]; exact ⟨fun _ => ⟨h, bt_iff.1 h2⟩, fun _ => rfl⟩
    · rw [if_neg h2]; exact ⟨fun e => absurd e (by decide), fun e => absurd (bt_iff.2 e.2) h2⟩
  · rw [if_neg h]; exact ⟨fun e => absurd e h, fun e => absurd e.1 h⟩
theorem chk_range (b : Bu) : 0 ≤ chk b ∧ chk b ≤ 4 := by
  unfold chk; split
  · split <;> exact ⟨by decide, by decide⟩
  · exact ⟨by decide, by decide⟩
theorem lerr_range (b : Bu) (t : Int) : 0 ≤ lerr b t ∧ lerr b t ≤ 4 := by
  unfold lerr; split
  · split <;> exact ⟨by decide, by decide⟩
  · exact chk_range b
theorem terr_range (b : Bu) (t n : Int) : 0 ≤ terr b t n ∧ terr b t n ≤ 4 := by
  unfold terr; split
  · split <;> exact ⟨by decide, by decide⟩
  · exact lerr_range b t
/-- what comes in some ticks -/
theorem mul_in {r x : Int} (h0 : 0 ≤ r) (h1 : r ≤ 1000000) (h2 : 0 ≤ x) (h3 : x ≤ 1099511627776) : 0 ≤ r * x ∧ r * x ≤ 1099511627776000000 := by
  refine ⟨Int.mul_nonneg h0 h2, ?_⟩
  have := Int.mul_le_mul h1 h3 h2 (by omega)
  omega
theorem lv_in {b : Bu} {t : Int} (h : lerr b t = 0) : b.h ≤ lv b t ∧ lv b t ≤ b.m ∧ 0 ≤ b.r * (t - b.a) ∧ b.r * (t - b.a) ≤ 1099511627776000000 ∧ lv b t ≤ b.h + b.r * (t - b.a) ∧ (lv b t = b.m ∨ lv b t = b.h + b.r * (t - b.a)) := by
  obtain ⟨hc, h1, h2⟩ := lerr_zero.1 h
  obtain ⟨c1, c2, c3, c4⟩ := chk_zero.1 hc
  have q := mul_in c1.1 c1.2 (x := t - b.a) (by omega) (by omega)
  unfold lv
  generalize b.r * (t - b.a) = R at *
  split <;> omega
theorem tk_eq {b : Bu} {t n : Int} (h : terr b t n = 0) : tk b t n = ⟨b.r, b.m, lv b t - (if n ≤ lv b t then n else 0), t⟩ := if_pos h
theorem pas_eq {b : Bu} {t n : Int} (h : terr b t n = 0) : pas b t n = decide (n ≤ lv b t) := by unfold pas; rw [h]; rfl
theorem tk_chk {b : Bu} {t n : Int} (h : terr b t n = 0) : chk (tk b t n) = 0 := by
  obtain ⟨hl, n0, n1⟩ := terr_zero.1 h
  obtain ⟨hc, h1, h2⟩ := lerr_zero.1 hl
  obtain ⟨c1, c2, c3, c4⟩ := chk_zero.1 hc
  obtain ⟨l1, l2, _, _, _, _⟩ := lv_in hl
  rw [tk_eq h, chk_zero]
  refine ⟨c1, c2, ?_, ?_⟩
  · dsimp only
    split <;> omega
  · dsimp only; omega
theorem er_append : ∀ (l : List Dp) (b : Bu) (m : List Dp), er b (l ++ m) = if er b l = 0 then er (st b l) m else er b l
  | [], b, m => by show er b m = if (0 : Int) = 0 then er b m else 0; rw [if_pos rfl]
  | d :: l, b, m => by
    show (if terr b d.a d.n = 0 then er (tk b d.a d.n) (l ++ m) else terr b d.a d.n) = if (if terr b d.a d.n = 0 then er (tk b d.a d.n) l else terr b d.a d.n) = 0 then er (st (tk b d.a d.n) l) m else (if terr b d.a d.n = 0 then er (tk b d.a d.n) l else terr b d.a d.n)
    by_cases h : terr b d.a d.n = 0
    · rw [if_pos h, if_pos h]; exact er_append l _ m
    · rw [if_neg h, if_neg h, if_neg h]
theorem st_append : ∀ (l : List Dp) (b : Bu) (m : List Dp), st b (l ++ m) = st (st b l) m
  | [], _, _ => rfl
  | d :: l, b, m => st_append l (tk b d.a d.n) m
theorem td_append : ∀ (l : List Dp) (b : Bu) (m : List Dp), td b (l ++ m) = td b l ++ td (st b l) m
  | [], _, _ => rfl
  | d :: l, b, m => by
    show pas b d.a d.n :: td (tk b d.a d.n) (l ++ m) = pas b d.a d.n :: (td (tk b d.a d.n) l ++ td (st (tk b d.a d.n) l) m)
    rw [td_append l]
theorem pt_append : ∀ (l : List Dp) (b : Bu) (m : List Dp), pt b (l ++ m) = pt b l + pt (st b l) m
  | [], b, m => by show pt b m = 0 + pt b m; omega
  | d :: l, b, m => by
    show (if pas b d.a d.n then d.n else 0) + pt (tk b d.a d.n) (l ++ m) = (if pas b d.a d.n then d.n else 0) + pt (tk b d.a d.n) l + pt (st (tk b d.a d.n) l) m
    rw [pt_append l]; omega
theorem td_len : ∀ (l : List Dp) (b : Bu), (td b l).length = l.length
  | [], _ => rfl
  | d :: l, b => by show (td (tk b d.a d.n) l).length + 1 = _; rw [td_len l]; rfl
theorem take_at {l : List Dp} {i : Nat} {d : Dp} (h : l[i]? = some d) : l.take (i + 1) = l.take i ++ [d] := by
  rw [List.take_add_one, h]; rfl
theorem st_step {l : List Dp} {i : Nat} {d : Dp} (h : l[i]? = some d) (b : Bu) : st b (l.take (i + 1)) = tk (st b (l.take i)) d.a d.n := by
  rw [take_at h, st_append]; rfl
theorem td_step {l : List Dp} {i : Nat} {d : Dp} (h : l[i]? = some d) (b : Bu) : td b (l.take (i + 1)) = td b (l.take i) ++ [pas (st b (l.take i)) d.a d.n] := by
  rw [take_at h, td_append]; rfl
theorem er_step {l : List Dp} {i : Nat} {d : Dp} (h : l[i]? = some d) (b : Bu) (h0 : er b (l.take i) = 0) : er b (l.take (i + 1)) = terr (st b (l.take i)) d.a d.n := by
  rw [take_at h, er_append, if_pos h0]
  show (if terr (st b (l.take i)) d.a d.n = 0 then (0 : Int) else terr (st b (l.take i)) d.a d.n) = _
  by_cases e : terr (st b (l.take i)) d.a d.n = 0
  · rw [if_pos e, e]
  · rw [if_neg e]
theorem er_take {b : Bu} {l : List Dp} (k : Nat) : er b l = if er b (l.take k) = 0 then er (st b (l.take k)) (l.drop k) else er b (l.take k) := by
  rw [← er_append, List.take_append_drop]
theorem er_bad {l : List Dp} {i : Nat} {d : Dp} (h : l[i]? = some d) (b : Bu) (h0 : er b (l.take i) = 0) (hb : terr (st b (l.take i)) d.a d.n ≠ 0) : er b l = terr (st b (l.take i)) d.a d.n := by
  rw [er_take (i + 1), er_step h b h0, if_neg hb]
theorem er_fine {b : Bu} {l : List Dp} (h : er b l = 0) (k : Nat) : er b (l.take k) = 0 := by
  by_cases e : er b (l.take k) = 0
  · exact e
  · rw [er_take k, if_neg e] at h; exact h
theorem st_chk : ∀ (l : List Dp) (b : Bu), chk b = 0 → er b l = 0 → chk (st b l) = 0 ∧ (st b l).r = b.r ∧ (st b l).m = b.m
  | [], _, h, _ => ⟨h, rfl, rfl⟩
  | d :: l, b, h, he => by
    have e : (if terr b d.a d.n = 0 then er (tk b d.a d.n) l else terr b d.a d.n) = 0 := he
    by_cases h2 : terr b d.a d.n = 0
    · rw [if_pos h2] at e
      obtain ⟨q1, q2, q3⟩ := st_chk l (tk b d.a d.n) (tk_chk h2) e
      refine ⟨q1, ?_, ?_⟩
      · show (st (tk b d.a d.n) l).r = _; rw [q2, tk_eq h2]
      · show (st (tk b d.a d.n) l).m = _; rw [q3, tk_eq h2]
    · rw [if_neg h2] at e; exact absurd e h2
/-- a drop of a run that is fine -/
structure Step (b : Bu) (l : List Dp) (k : Nat) (d : Dp) : Prop where
  c : chk (st b (l.take k)) = 0
  r : (st b (l.take k)).r = b.r
  m : (st b (l.take k)).m = b.m
  t : terr (st b (l.take k)) d.a d.n = 0
theorem step {b : Bu} {l : List Dp} (hc : chk b = 0) (he : er b l = 0) {k : Nat} {d : Dp} (h : l[k]? = some d) : Step b l k d := by
  obtain ⟨q1, q2, q3⟩ := st_chk (l.take k) b hc (er_fine he k)
  refine ⟨q1, q2, q3, ?_⟩
  rw [← er_step h b (er_fine he k)]
  exact er_fine he (k + 1)
theorem td_at {b : Bu} {l : List Dp} {k : Nat} {d : Dp} (h : l[k]? = some d) : (td b l)[k]? = some (pas (st b (l.take k)) d.a d.n) := by
  have hk := (List.getElem?_eq_some_iff.1 h).1
  have e : td b l = td b (l.take k) ++ td (st b (l.take k)) (l.drop k) := by rw [← td_append, List.take_append_drop]
  have hd : l.drop k = d :: l.drop (k + 1) := by
    rw [List.drop_eq_getElem_cons hk]
    rw [List.getElem?_eq_getElem hk] at h
    rw [Option.some.inj h]
  have hl : (td b (l.take k)).length = k := by rw [td_len, List.length_take]; omega
  rw [e, List.getElem?_append_right (by omega), hl, Nat.sub_self, hd]
  rfl
/-- what has passed ahead of the k-th -/
def P (b : Bu) (l : List Dp) (k : Nat) : Int := pt b (l.take k)
theorem P_step {b : Bu} {l : List Dp} {k : Nat} {d : Dp} (h : l[k]? = some d) : P b l (k + 1) = P b l k + (if pas (st b (l.take k)) d.a d.n then d.n else 0) := by
  unfold P
  rw [take_at h, pt_append]
  show _ + ((if pas (st b (l.take k)) d.a d.n then d.n else 0) + 0) = _
  omega
theorem h_step {b : Bu} {l : List Dp} {k : Nat} {d : Dp} (h : l[k]? = some d) (s : Step b l k d) :
    (st b (l.take (k + 1))).a = d.a ∧ (st b (l.take (k + 1))).h = lv (st b (l.take k)) d.a - (P b l (k + 1) - P b l k) ∧ (pas (st b (l.take k)) d.a d.n = true ↔ d.n ≤ lv (st b (l.take k)) d.a) := by
  rw [P_step h, st_step h, tk_eq s.t, pas_eq s.t]
  refine ⟨rfl, ?_, by simp⟩
  dsimp only
  by_cases e : d.n ≤ lv (st b (l.take k)) d.a
  · rw [if_pos e, if_pos (by simpa using e)]; omega
  · rw [if_neg e, if_neg (by simpa using e)]; omega
theorem some_at {l : List Dp} {k : Nat} (h : k < l.length) : ∃ d, l[k]? = some d := ⟨l[k], List.getElem?_eq_getElem h⟩
theorem P_le {b : Bu} {l : List Dp} (hc : chk b = 0) (he : er b l = 0) : ∀ (k : Nat), k ≤ l.length → 0 ≤ P b l k ∧ P b l k ≤ 1000000000 * (k : Int)
  | 0, _ => ⟨Int.le_refl 0, Int.le_refl 0⟩
  | k + 1, hk => by
    obtain ⟨d, hd⟩ := some_at (l := l) (k := k) (by omega)
    have s := step hc he hd
    obtain ⟨_, n0, n1⟩ := terr_zero.1 s.t
    have := P_le hc he k (by omega)
    rw [P_step hd]
    split <;> omega
theorem P_mono {b : Bu} {l : List Dp} (hc : chk b = 0) (he : er b l = 0) {k : Nat} {d : Dp} (h : l[k]? = some d) : P b l k ≤ P b l (k + 1) := by
  obtain ⟨_, n0, n1⟩ := terr_zero.1 (step hc he h).t
  rw [P_step h]
  split <;> omega
/-- BucketBounds, from some drop on -/
theorem bounds_some {b : Bu} {l : List Dp} (hc : chk b = 0) (he : er b l = 0) {i : Nat} {di : Dp} (hi : l[i]? = some di) :
    ∀ (k : Nat) (dk : Dp), i ≤ k → l[k]? = some dk → (st b (l.take (k + 1))).h + (P b l (k + 1) - P b l i) ≤ b.m + b.r * (dk.a - di.a) ∧ di.a ≤ dk.a
  | k, dk, hik, hk => by
    have s := step hc he hk
    obtain ⟨e1, e2, _⟩ := h_step hk s
    have hl := (terr_zero.1 s.t).1
    obtain ⟨l1, l2, l3, l4, l5, l6⟩ := lv_in hl
    obtain ⟨_, a1, a2⟩ := lerr_zero.1 hl
    rcases Nat.lt_or_ge i k with hlt | hge
    · obtain ⟨k, rfl⟩ : ∃ j, k = j + 1 := ⟨k - 1, by omega⟩
      have hk' : k < l.length := by have := (List.getElem?_eq_some_iff.1 hk).1; omega
      obtain ⟨dj, hj⟩ := some_at hk'
      obtain ⟨q1, q2⟩ := bounds_some hc he hi k dj (by omega) hj
      obtain ⟨f1, f2, _⟩ := h_step hj (step hc he hj)
      rw [f1] at l5 a1
      rw [s.r] at l5
      rw [e2]
      rw [Int.mul_sub] at q1 l5 ⊢
      omega
    · have : i = k := by omega
      subst this
      rw [hi] at hk
      obtain rfl := Option.some.inj hk
      rw [e2, Int.sub_self, Int.mul_zero]
      rw [s.m] at l2
      omega
/-- BucketBounds, from the begin on -/
theorem bounds_all {b : Bu} {l : List Dp} (hc : chk b = 0) (he : er b l = 0) :
    ∀ (k : Nat) (dk : Dp), l[k]? = some dk → (st b (l.take (k + 1))).h + P b l (k + 1) ≤ b.h + b.r * (dk.a - b.a) ∧ b.a ≤ dk.a
  | 0, dk, hk => by
    have s := step hc he hk
    obtain ⟨e1, e2, _⟩ := h_step hk s
    have hl := (terr_zero.1 s.t).1
    obtain ⟨l1, l2, l3, l4, l5, l6⟩ := lv_in hl
    obtain ⟨_, a1, a2⟩ := lerr_zero.1 hl
    have e0 : P b l 0 = 0 := by unfold P; rw [List.take_zero]; rfl
    have l5 : lv b dk.a ≤ b.h + b.r * (dk.a - b.a) := l5
    have a1 : b.a ≤ dk.a := a1
    rw [e2, e0]
    show lv b dk.a - (P b l (0 + 1) - 0) + P b l (0 + 1) ≤ _ ∧ _
    omega
  | k + 1, dk, hk => by
    have s := step hc he hk
    obtain ⟨e1, e2, _⟩ := h_step hk s
    have hl := (terr_zero.1 s.t).1
    obtain ⟨l1, l2, l3, l4, l5, l6⟩ := lv_in hl
    obtain ⟨_, a1, a2⟩ := lerr_zero.1 hl
    have hk' : k < l.length := by have := (List.getElem?_eq_some_iff.1 hk).1; omega
    obtain ⟨dj, hj⟩ := some_at hk'
    obtain ⟨q1, q2⟩ := bounds_all hc he k dj hj
    obtain ⟨f1, f2, _⟩ := h_step hj (step hc he hj)
    rw [f1] at l5 a1
    rw [s.r] at l5
    rw [e2]
    rw [Int.mul_sub] at q1 l5 ⊢
    omega
/-- the level at the k-th: full, or full at some drop ahead and no more since, or never full -/
theorem fair_lv {b : Bu} {l : List Dp} (hc : chk b = 0) (he : er b l = 0) :
    ∀ (k : Nat) (dk : Dp), l[k]? = some dk → lv (st b (l.take k)) dk.a = b.m ∨ (∃ i di, i < k ∧ l[i]? = some di ∧ lv (st b (l.take k)) dk.a = b.m - (P b l k - P b l i) + b.r * (dk.a - di.a)) ∨ lv (st b (l.take k)) dk.a = b.h - P b l k + b.r * (dk.a - b.a)
  | 0, dk, hk => by
    have s := step hc he hk
    have hl := (terr_zero.1 s.t).1
    obtain ⟨l1, l2, l3, l4, l5, l6⟩ := lv_in hl
    have e0 : P b l 0 = 0 := by unfold P; rw [List.take_zero]; rfl
    have l6 : lv b dk.a = b.m ∨ lv b dk.a = b.h + b.r * (dk.a - b.a) := l6
    rw [e0]
    show lv b dk.a = b.m ∨ _ ∨ lv b dk.a = _
    rcases l6 with e | e
    · exact Or.inl e
    · exact Or.inr (Or.inr (by omega))
  | k + 1, dk, hk => by
    have s := step hc he hk
    have hl := (terr_zero.1 s.t).1
    obtain ⟨l1, l2, l3, l4, l5, l6⟩ := lv_in hl
    have hk' : k < l.length := by have := (List.getElem?_eq_some_iff.1 hk).1; omega
    obtain ⟨dj, hj⟩ := some_at hk'
    have q := fair_lv hc he k dj hj
    obtain ⟨f1, f2, _⟩ := h_step hj (step hc he hj)
    rcases l6 with e | e
    · left; rw [e, s.m]
    · right
      rw [f1, f2, s.r] at e
      rcases q with q | ⟨i, di, hi, h2, q⟩ | q
      · left; exact ⟨k, dj, by omega, hj, by rw [e, q]⟩
      · left; refine ⟨i, di, by omega, h2, ?_⟩
        rw [e, q]; simp only [Int.mul_sub]; omega
      · right; rw [e, q]; simp only [Int.mul_sub]; omega
/-- BucketFair -/
theorem fair {b : Bu} {l : List Dp} (hc : chk b = 0) (he : er b l = 0) {k : Nat} {dk : Dp} (hk : l[k]? = some dk) (hp : pas (st b (l.take k)) dk.a dk.n = false) :
    dk.n > b.m ∨ (∃ i di, i < k ∧ l[i]? = some di ∧ dk.n + (P b l k - P b l i) > b.m + b.r * (dk.a - di.a)) ∨ dk.n + P b l k > b.h + b.r * (dk.a - b.a) := by
  have s := step hc he hk
  obtain ⟨_, _, e⟩ := h_step hk s
  have hn : ¬ dk.n ≤ lv (st b (l.take k)) dk.a := by rw [← e, hp]; decide
  rcases fair_lv hc he k dk hk with q | ⟨i, di, hi, h2, q⟩ | q
  · left; omega
  · right; left; exact ⟨i, di, hi, h2, by omega⟩
  · right; right; omega
/-- BucketFull -/
theorem full {b : Bu} {t : Int} (h : lerr b t = 0) : b.h ≤ lv b t ∧ lv b t ≤ b.m ∧ (b.r = 0 ∨ t - b.a < b.m ∨ lv b t = b.m) := by
  obtain ⟨l1, l2, l3, l4, l5, l6⟩ := lv_in h
  obtain ⟨hc, a1, a2⟩ := lerr_zero.1 h
  obtain ⟨c1, c2, c3, c4⟩ := chk_zero.1 hc
  refine ⟨l1, l2, ?_⟩
  by_cases h0 : b.r = 0
  · exact Or.inl h0
  · by_cases h1 : t - b.a < b.m
    · exact Or.inr (Or.inl h1)
    · right; right
      have h2 : 1 * (t - b.a) ≤ b.r * (t - b.a) := Int.mul_le_mul_of_nonneg_right (by omega) (by omega)
      rw [Int.one_mul] at h2
      omega
/-- custref.Filled's way -/
theorem filled {b : Bu} {t : Int} (hr : 0 < b.r) : (b.m - b.h + b.r - 1) / b.r ≤ t - b.a ↔ b.m ≤ b.h + b.r * (t - b.a) := by
  have e : (b.m - b.h + b.r - 1) / b.r ≤ t - b.a ↔ b.m - b.h + b.r - 1 < (t - b.a + 1) * b.r := by
    rw [← Int.ediv_lt_iff_lt_mul hr]; omega
  rw [e, Int.add_mul, Int.one_mul, Int.mul_comm]
  generalize b.r * (t - b.a) = R
  omega
/-- BucketCuts: a drop of nothing -/
theorem zero_drop {b : Bu} {t : Int} (h : terr b t 0 = 0) : pas b t 0 = true ∧ lerr (tk b t 0) (t + 9) = lerr b (t + 9) ∧ lval (tk b t 0) (t + 9) = lval b (t + 9) := by
  obtain ⟨hl, n0, n1⟩ := terr_zero.1 h
  obtain ⟨hc, h1, h2⟩ := lerr_zero.1 hl
  obtain ⟨c1, c2, c3, c4⟩ := chk_zero.1 hc
  obtain ⟨l1, l2, l3, l4, l5, l6⟩ := lv_in hl
  have hc2 := tk_chk h
  have ee : lerr (tk b t 0) (t + 9) = lerr b (t + 9) := by
    unfold lerr
    rw [if_pos hc, if_pos hc2]
    have ea : (tk b t 0).a = t := by rw [tk_eq h]
    rw [ea]
    by_cases h9 : t + 9 ≤ 1099511627776
    · rw [if_pos (bt_iff.2 ⟨by omega, h9⟩), if_pos (bt_iff.2 ⟨by omega, h9⟩)]
    · rw [if_neg (fun e => h9 (bt_iff.1 e).2), if_neg (fun e => h9 (bt_iff.1 e).2)]
  refine ⟨by rw [pas_eq h]; simp; omega, ee, ?_⟩
  unfold lval
  rw [ee]
  by_cases e0 : lerr b (t + 9) = 0
  · rw [if_pos e0, if_pos e0]
    rw [tk_eq h]
    have hz : (if (0 : Int) ≤ lv b t then (0 : Int) else 0) = 0 := by split <;> rfl
    rw [hz]
    have d1 : b.r * (t + 9 - b.a) = b.r * (t - b.a) + 9 * b.r := by simp only [Int.mul_sub, Int.mul_add]; omega
    have d2 : b.r * (t + 9 - t) = 9 * b.r := by rw [show t + 9 - t = 9 by omega, Int.mul_comm]
    unfold lv
    dsimp only
    rw [d1, d2]
    generalize b.r * (t - b.a) = R at *
    repeat' split
    all_goals omega
  · rw [if_neg e0, if_neg e0]
theorem rerr_zero {b : Bu} {l : List Dp} : rerr b l = 0 ↔ chk b = 0 ∧ l.length ≤ 500 ∧ er b l = 0 := by
  unfold rerr
  by_cases h : chk b = 0
  · rw [if_pos h]
    by_cases h2 : 500 < l.length
    · rw [if_pos h2]; exact ⟨fun e => absurd e (by decide), fun e => absurd e.2.1 (by omega)⟩
    · rw [if_neg h2]; exact ⟨fun e => ⟨h, by omega, e⟩, fun e => e.2.2⟩
  · rw [if_neg h]; exact ⟨fun e => absurd e h, fun e => absurd e.1 h⟩
/-- BucketCuts: two goes -/
theorem two_goes {b : Bu} {l m : List Dp} (h1 : rerr b l = 0) (h2 : rerr (rst b l) m = 0) (h3 : l.length + m.length ≤ 500) : rerr b (l ++ m) = 0 ∧ rst b (l ++ m) = rst (rst b l) m ∧ rtd b (l ++ m) = rtd b l ++ rtd (rst b l) m := by
  have e1 : rst b l = st b l := if_pos h1
  have e2 : rst (rst b l) m = st (rst b l) m := if_pos h2
  have e3 : rtd b l = td b l := if_pos h1
  have e4 : rtd (rst b l) m = td (rst b l) m := if_pos h2
  obtain ⟨c1, c2, c3⟩ := rerr_zero.1 h1
  obtain ⟨d1, d2, d3⟩ := rerr_zero.1 h2
  have hz : rerr b (l ++ m) = 0 := by
    rw [rerr_zero]
    refine ⟨c1, by rw [List.length_append]; exact h3, ?_⟩
    rw [er_append, if_pos c3, ← e1, d3]
  refine ⟨hz, ?_, ?_⟩
  · rw [e2, e1]; unfold rst; rw [if_pos hz, st_append]
  · rw [e3, e4, e1]; unfold rtd; rw [if_pos hz, td_append]
theorem rtd_len {b : Bu} {l : List Dp} (h : rerr b l = 0) : (rtd b l).length = l.length := by
  unfold rtd; rw [if_pos h, td_len]
theorem rtd_len_le (b : Bu) (l : List Dp) : (rtd b l).length ≤ 500 := by
  by_cases h : rerr b l = 0
  · rw [rtd_len h]; exact (rerr_zero.1 h).2.1
  · unfold rtd; rw [if_neg h]; exact Nat.zero_le _
theorem rerr_range (b : Bu) (l : List Dp) : 0 ≤ rerr b l ∧ rerr b l ≤ 4 := by
  have q : ∀ (l : List Dp) (b : Bu), 0 ≤ er b l ∧ er b l ≤ 4 := by
    intro l
    induction l with
    | nil => intro b; exact ⟨Int.le_refl 0, by show (0 : Int) ≤ 4; decide⟩
    | cons d l ih =>
      intro b
      show 0 ≤ (if terr b d.a d.n = 0 then er (tk b d.a d.n) l else terr b d.a d.n) ∧ (if terr b d.a d.n = 0 then er (tk b d.a d.n) l else terr b d.a d.n) ≤ 4
      split
      · exact ih _
      · exact terr_range b _ _
  unfold rerr; split
  · split
    · exact ⟨by decide, by decide⟩
    · exact q l b
  · exact chk_range b
end Go.Proofs.Ytfigjgefnmkkiaa.bkt
