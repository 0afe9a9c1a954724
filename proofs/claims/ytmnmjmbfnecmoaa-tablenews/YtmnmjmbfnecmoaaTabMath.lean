/- A table of keys, plain: what is found, put in, taken out; a hole that moves; keys that are put in anew. -/
import Derived.Laws.BitsAllLaws
namespace Go.Proofs.Ytmnmjmbfnecmoaa.tm

/-- a slot -/
structure St where
  u : Bool
  k : Nat
  v : Int
def z0 : St := ⟨false, 0, 0⟩
instance : Inhabited St := ⟨z0⟩
/-- the slot of a number -/
def ax (l : List St) (q : Nat) : St := l.getD q z0
theorem ax_get {l : List St} {q : Nat} (h : q < l.length) : l[q]? = some (ax l q) := by
  unfold ax; rw [List.getD_eq_getElem?_getD, List.getElem?_eq_getElem h]; rfl
theorem ax_of {l : List St} {q : Nat} {s : St} (h : l[q]? = some s) : ax l q = s := by
  unfold ax; rw [List.getD_eq_getElem?_getD, h]; rfl
theorem ax_set {l : List St} {j q : Nat} {y : St} (h : j < l.length) : ax (l.set j y) q = if q = j then y else ax l q := by
  unfold ax
  rw [List.getD_eq_getElem?_getD, List.getD_eq_getElem?_getD, List.getElem?_set]
  by_cases e : q = j
  · subst e; simp [h]
  · rw [if_neg (fun e' => e e'.symm), if_neg e]
theorem ax_same {l : List St} {j : Nat} {y : St} (h : j < l.length) : ax (l.set j y) j = y := by rw [ax_set h, if_pos rfl]
theorem ax_other {l : List St} {j q : Nat} {y : St} (h : j < l.length) (hq : q ≠ j) : ax (l.set j y) q = ax l q := by rw [ax_set h, if_neg hq]
theorem ax_ext {l m : List St} (hl : l.length = m.length) (h : ∀ q, q < l.length → ax l q = ax m q) : l = m := by
  apply List.ext_getElem hl
  intro q h1 h2
  have := h q h1
  have e1 := ax_get h1
  have e2 := ax_get h2
  rw [List.getElem?_eq_getElem h1] at e1
  rw [List.getElem?_eq_getElem h2] at e2
  rw [Option.some.inj e1, Option.some.inj e2, this]

/-- q is on the way from h up to p, p not among them -/
def On (h p q : Nat) : Prop := (h ≤ p ∧ h ≤ q ∧ q < p) ∨ (p < h ∧ (h ≤ q ∨ q < p))
instance (h p q : Nat) : Decidable (On h p q) := by unfold On; infer_instance
/-- the next one -/
def nx (n a : Nat) : Nat := (a + 1) % n
theorem mod_two {a n : Nat} (h : a < 2 * n) : a % n = if a < n then a else a - n := by
  by_cases c : a < n
  · rw [if_pos c, Nat.mod_eq_of_lt c]
  · rw [if_neg c, Nat.mod_eq_sub_mod (by omega), Nat.mod_eq_of_lt (by omega)]
theorem nx_eq {n a : Nat} (h : a < n) : nx n a = if a + 1 = n then 0 else a + 1 := by
  unfold nx
  rw [mod_two (by omega)]
  by_cases c : a + 1 < n
  · rw [if_pos c, if_neg (by omega)]
  · rw [if_neg c, if_pos (by omega)]; omega
theorem nx_lt {n a : Nat} (h : a < n) : nx n a < n := Nat.mod_lt _ (by omega)
/-- steps from one to another -/
def stp (n a b : Nat) : Nat := (b + n - a) % n
theorem stp_eq {n a b : Nat} (ha : a < n) (hb : b < n) : stp n a b = if a ≤ b then b - a else b + n - a := by
  unfold stp
  rw [mod_two (by omega)]
  by_cases c : a ≤ b
  · rw [if_neg (by omega), if_pos c]; omega
  · rw [if_pos (by omega), if_neg c]
/-- what is in the slot p, its home h, would be found in the hole -/
def fit (n h hole p : Nat) : Bool := decide (stp n hole p ≤ stp n h p)
theorem fit_iff {n h hole p : Nat} (h1 : h < n) (h2 : hole < n) (h3 : p < n) (hne : hole ≠ p) : fit n h hole p = true ↔ On h p hole := by
  unfold fit
  rw [stp_eq h2 h3, stp_eq h1 h3]
  simp only [On, decide_eq_true_eq]
  split <;> split <;> omega

theorem run_step {n h j : Nat} {P : Nat → Prop} (hh : h < n) (hj : j < n) (hp : ∀ q, q < n → On h j q → P q) (hP : P j) (hf : ∃ u, u < n ∧ ¬ P u) : (∀ q, q < n → On h (nx n j) q → P q) ∧ stp n h (nx n j) = stp n h j + 1 := by
  obtain ⟨u, u1, u2⟩ := hf
  have a1 : ¬ On h j u := fun c => u2 (hp u u1 c)
  have a2 : u ≠ j := fun c => u2 (c ▸ hP)
  have e := nx_eq hj
  have hn : nx n j ≠ h := by
    rw [e]; simp only [On] at a1; split <;> omega
  refine ⟨fun q hq ho => ?_, ?_⟩
  · have : On h j q ∨ q = j := by
      rw [e] at hn ho
      by_cases c : j + 1 = n
      · rw [if_pos c] at hn ho; simp only [On] at ho ⊢; omega
      · rw [if_neg c] at hn ho; simp only [On] at ho ⊢; omega
    rcases this with c | c
    · exact hp q hq c
    · rw [c]; exact hP
  · rw [stp_eq hh (nx_lt hj), stp_eq hh hj]
    rw [e] at hn ⊢
    by_cases c : j + 1 = n
    · rw [if_pos c] at hn ⊢
      split <;> split <;> omega
    · rw [if_neg c] at hn ⊢
      split <;> split <;> omega
section
variable (H : Nat → Nat)
/-- the slot j is what is found for k: the first from its home up that has k or isn't used -/
structure Fnd (l : List St) (k j : Nat) : Prop where
  lt : j < l.length
  hit : (ax l j).u = false ∨ (ax l j).k = k
  way : ∀ q, q < l.length → On (H k) j q → (ax l q).u = true ∧ (ax l q).k ≠ k
/-- a table that is right -/
structure Rt (l : List St) : Prop where
  free : ∃ j, j < l.length ∧ (ax l j).u = false
  zero : ∀ j, j < l.length → (ax l j).u = false → ax l j = z0
  path : ∀ j, j < l.length → (ax l j).u = true → Fnd H l (ax l j).k j
def Has (l : List St) (k j : Nat) : Prop := j < l.length ∧ (ax l j).u = true ∧ (ax l j).k = k
def Val (l : List St) (k : Nat) (v : Int) : Prop := ∃ j, j < l.length ∧ ax l j = ⟨true, k, v⟩
variable {H}
theorem split_on {n a b h : Nat} (_ : a < n) (_ : b < n) (_ : h < n) (hne : a ≠ b) : On h a b ∨ On h b a := by
  simp only [On]; omega
theorem fnd_uniq {l : List St} {k i j : Nat} (hH : H k < l.length) (h1 : Fnd H l k i) (h2 : Fnd H l k j) : i = j := by
  apply Classical.byContradiction
  intro hne
  rcases split_on h1.lt h2.lt hH hne with c | c
  · have := h1.way j h2.lt c
    rcases h2.hit with e | e
    · rw [e] at this; exact absurd this.1 (by simp)
    · exact this.2 e
  · have := h2.way i h1.lt c
    rcases h1.hit with e | e
    · rw [e] at this; exact absurd this.1 (by simp)
    · exact this.2 e
theorem least (P : Nat → Prop) : ∀ d, (∀ m, m < d → ¬ P m) ∨ ∃ m, m < d ∧ P m ∧ ∀ i, i < m → ¬ P i
  | 0 => Or.inl fun m h => absurd h (by omega)
  | d + 1 => by
    rcases least P d with h | ⟨m, h1, h2, h3⟩
    · by_cases c : P d
      · exact Or.inr ⟨d, by omega, c, h⟩
      · exact Or.inl fun m hm => by
          by_cases e : m = d
          · rw [e]; exact c
          · exact h m (by omega)
    · exact Or.inr ⟨m, by omega, h2, h3⟩
/-- the first from h up that has P -/
theorem first_on {n h u : Nat} (P : Nat → Prop) (hh : h < n) (hu : u < n) (hP : P u) : ∃ j, j < n ∧ P j ∧ ∀ q, q < n → On h j q → ¬ P q := by
  rcases least (fun d => P ((h + d) % n)) n with c | ⟨m, h1, h2, h3⟩
  · have := c (stp n h u) (Nat.mod_lt _ (by omega))
    rw [stp_eq hh hu] at this
    exfalso; apply this
    have e : (h + if h ≤ u then u - h else u + n - h) % n = u := by
      by_cases d : h ≤ u
      · rw [if_pos d, mod_two (by omega), if_pos (by omega)]; omega
      · rw [if_neg d, mod_two (by omega), if_neg (by omega)]; omega
    rw [e]; exact hP
  · refine ⟨(h + m) % n, Nat.mod_lt _ (by omega), h2, fun q hq ho => ?_⟩
    have hs := stp_eq hh hq
    have e : (h + stp n h q) % n = q := by
      rw [hs]
      by_cases d : h ≤ q
      · rw [if_pos d, mod_two (by omega), if_pos (by omega)]; omega
      · rw [if_neg d, mod_two (by omega), if_neg (by omega)]; omega
    have := h3 (stp n h q) (by
      rw [hs]
      rw [mod_two (by omega)] at ho
      simp only [On] at ho
      split at ho <;> split <;> omega)
    rwa [e] at this
theorem fnd_ex {l : List St} (hH : ∀ k, H k < l.length) (hf : ∃ j, j < l.length ∧ (ax l j).u = false) (k : Nat) : ∃ j, Fnd H l k j := by
  obtain ⟨u, h1, h2⟩ := hf
  obtain ⟨j, a, b, c⟩ := first_on (fun q => (ax l q).u = false ∨ (ax l q).k = k) (hH k) h1 (Or.inl h2)
  refine ⟨j, a, b, fun q hq ho => ?_⟩
  have := c q hq ho
  cases hu : (ax l q).u
  · exact absurd (Or.inl hu) this
  · exact ⟨rfl, fun e => this (Or.inr e)⟩
theorem rt_has {l : List St} {k i : Nat} (h : Rt H l) (hi : Has l k i) : Fnd H l k i := by
  obtain ⟨a, b, rfl⟩ := hi
  exact h.path i a b
theorem rt_uniq {l : List St} {k i j : Nat} (hH : ∀ k, H k < l.length) (h : Rt H l) (hi : Has l k i) (hj : Has l k j) : i = j := fnd_uniq (hH k) (rt_has h hi) (rt_has h hj)
theorem fnd_not {l : List St} {k j : Nat} (hH : ∀ k, H k < l.length) (h : Rt H l) (hj : Fnd H l k j) (hu : (ax l j).u = false) : ¬ ∃ i, Has l k i := by
  rintro ⟨i, hi⟩
  have := fnd_uniq (hH k) (rt_has h hi) hj
  subst this
  rw [hi.2.1] at hu; cases hu
theorem fnd_yes {l : List St} {k j : Nat} (hj : Fnd H l k j) (hu : (ax l j).u = true) : Has l k j := ⟨hj.lt, hu, hj.hit.resolve_left (by rw [hu]; simp)⟩
theorem st_eta (s : St) (hu : s.u = true) {k : Nat} (hk : s.k = k) : s = ⟨true, k, s.v⟩ := by
  obtain ⟨a, b, c⟩ := s
  simp at hu hk; subst hu hk; rfl
theorem val_has {l : List St} {k : Nat} {v : Int} : Val l k v ↔ ∃ j, Has l k j ∧ (ax l j).v = v := by
  constructor
  · rintro ⟨j, a, b⟩; exact ⟨j, ⟨a, by rw [b], by rw [b]⟩, by rw [b]⟩
  · rintro ⟨j, ⟨a, b, c⟩, rfl⟩; exact ⟨j, a, st_eta _ b c⟩
/-- how many are used -/
def cnt (l : List St) : Nat := l.countP (·.u)
theorem cnt_take {l : List St} {i : Nat} (h : i < l.length) : cnt (l.take (i + 1)) = cnt (l.take i) + (if (ax l i).u then 1 else 0) := by
  unfold cnt
  rw [List.take_add_one, ax_get h]
  simp [List.countP_append, List.countP_cons]
theorem cnt_le (l : List St) : cnt l ≤ l.length := List.countP_le_length
theorem cnt_set {l : List St} {j : Nat} {y : St} (h : j < l.length) : cnt (l.set j y) + (if (ax l j).u then 1 else 0) = cnt l + (if y.u then 1 else 0) := by
  unfold cnt
  induction l generalizing j with
  | nil => simp at h
  | cons x r ih =>
    cases j with
    | zero => simp [ax, List.countP_cons]; omega
    | succ j =>
      have := ih (j := j) (by simpa using h)
      simp only [List.set_cons_succ, List.countP_cons]
      have e : ax (x :: r) (j + 1) = ax r j := by simp [ax]
      rw [e]; omega
theorem free_iff {l : List St} : cnt l < l.length ↔ ∃ j, j < l.length ∧ (ax l j).u = false := by
  constructor
  · intro h
    apply Classical.byContradiction
    intro hn
    have : cnt l = l.length := List.countP_eq_length.2 fun s hs => by
      obtain ⟨j, hj, rfl⟩ := List.mem_iff_getElem.1 hs
      cases hu : l[j].u
      · exact absurd ⟨j, hj, by rw [ax_of (List.getElem?_eq_getElem hj)]; exact hu⟩ hn
      · rfl
    omega
  · rintro ⟨j, hj, hu⟩
    apply Classical.byContradiction
    intro hn
    have h1 : cnt l = l.length := by have := cnt_le l; omega
    have := List.countP_eq_length.1 h1 (ax l j) (List.mem_of_getElem? (ax_get hj))
    rw [hu] at this; cases this
theorem other_free {l : List St} {j : Nat} (hj : j < l.length) (hu : (ax l j).u = false) (hc : cnt l + 1 < l.length) : ∃ i, i < l.length ∧ i ≠ j ∧ (ax l i).u = false := by
  have h := cnt_set (y := (⟨true, 0, 0⟩ : St)) hj
  rw [hu] at h
  simp at h
  obtain ⟨i, hi, hiu⟩ := free_iff.1 (show cnt (l.set j ⟨true, 0, 0⟩) < (l.set j ⟨true, 0, 0⟩).length by rw [List.length_set]; omega)
  rw [List.length_set] at hi
  rw [ax_set hj] at hiu
  by_cases e : i = j
  · rw [if_pos e] at hiu; cases hiu
  · rw [if_neg e] at hiu; exact ⟨i, hi, e, hiu⟩

/-- a key is put in where it is found -/
theorem put_rt {l : List St} {k j : Nat} {v : Int} (hH : ∀ k, H k < l.length) (h : Rt H l) (hj : Fnd H l k j) (ho : (ax l j).u = false → cnt l + 1 < l.length) : Rt H (l.set j ⟨true, k, v⟩) := by
  have hl := hj.lt
  refine ⟨?_, fun i hi hu => ?_, fun i hi hu => ?_⟩
  · rw [List.length_set]
    cases hu : (ax l j).u
    · obtain ⟨i, a, b, c⟩ := other_free hl hu (ho hu)
      exact ⟨i, a, by rw [ax_other hl b]; exact c⟩
    · obtain ⟨i, a, b⟩ := h.free
      refine ⟨i, a, ?_⟩
      rw [ax_other hl (fun e => by subst e; rw [hu] at b; cases b)]; exact b
  · rw [List.length_set] at hi
    by_cases e : i = j
    · subst e; rw [ax_same hl] at hu; cases hu
    · rw [ax_other hl e] at hu ⊢; exact h.zero i hi hu
  · rw [List.length_set] at hi
    by_cases e : i = j
    · subst e
      rw [ax_same hl]
      refine ⟨by rw [List.length_set]; exact hl, Or.inr (by rw [ax_same hl]), fun q hq ho => ?_⟩
      rw [List.length_set] at hq
      have hq' : q ≠ i := by simp only [On] at ho; omega
      rw [ax_other hl hq']
      exact hj.way q hq ho
    · rw [ax_other hl e] at hu ⊢
      have hp := h.path i hi hu
      refine ⟨by rw [List.length_set]; exact hi, Or.inr (by rw [ax_other hl e]), fun q hq ho => ?_⟩
      rw [List.length_set] at hq
      by_cases e2 : q = j
      · subst e2
        rw [ax_same hl]
        refine ⟨rfl, fun ek => ?_⟩
        simp only at ek
        subst ek
        exact e (fnd_uniq (hH _) hp hj)
      · rw [ax_other hl e2]; exact hp.way q hq ho
theorem put_val {l : List St} {k j : Nat} {v : Int} (hH : ∀ k, H k < l.length) (h : Rt H l) (hj : Fnd H l k j) (k' : Nat) (v' : Int) :
    Val (l.set j ⟨true, k, v⟩) k' v' ↔ if k' = k then v' = v else Val l k' v' := by
  have hl := hj.lt
  constructor
  · rintro ⟨i, hi, e⟩
    rw [List.length_set] at hi
    by_cases c : i = j
    · subst c
      rw [ax_same hl] at e
      simp only [St.mk.injEq, true_and] at e
      rw [if_pos e.1.symm]; exact e.2.symm
    · rw [ax_other hl c] at e
      by_cases ek : k' = k
      · subst ek
        exact absurd (fnd_uniq (hH _) (rt_has h ⟨hi, by rw [e], by rw [e]⟩) hj) c
      · rw [if_neg ek]; exact ⟨i, hi, e⟩
  · intro hv
    by_cases ek : k' = k
    · rw [if_pos ek] at hv
      subst ek hv
      exact ⟨j, by rw [List.length_set]; exact hl, ax_same hl⟩
    · rw [if_neg ek] at hv
      obtain ⟨i, hi, e⟩ := hv
      refine ⟨i, by rw [List.length_set]; exact hi, ?_⟩
      rw [ax_other hl ?_]; exact e
      rintro rfl
      rcases hj.hit with c | c
      · rw [e] at c; cases c
      · rw [e] at c; exact ek c

/-- the hole goes on -/
def kn (H : Nat → Nat) : Nat → List St → Nat → Nat → List St
  | 0, l, hole, _ => l.set hole z0
  | f + 1, l, hole, p => if (ax l p).u then (if fit l.length (H (ax l p).k) hole p then kn H f (l.set hole (ax l p)) p (nx l.length p) else kn H f l hole (nx l.length p)) else l.set hole z0
def rmv (H : Nat → Nat) (l : List St) (i : Nat) : List St := kn H l.length l i (nx l.length i)
/-- on the way: the hole, and where it is looked at -/
structure Kv (H : Nat → Nat) (l0 : List St) (i k : Nat) (l : List St) (hole p : Nat) : Prop where
  len : l.length = l0.length
  ilt : i < l.length
  hlt : hole < l.length
  plt : p < l.length
  pne : p ≠ i
  past : ∀ q, q < l.length → On i p q → (ax l q).u = true
  hin : On i p hole
  free : ∃ j, j < l.length ∧ (ax l j).u = false
  zero : ∀ j, j < l.length → (ax l j).u = false → ax l j = z0
  path : ∀ j, j < l.length → j ≠ hole → (ax l j).u = true → ∀ q, q < l.length → On (H (ax l j).k) j q → q = hole ∨ ((ax l q).u = true ∧ (ax l q).k ≠ (ax l j).k)
  thr : ∀ j, j < l.length → j ≠ hole → (ax l j).u = true → On (H (ax l j).k) j hole → ¬ On hole p j
  vals : ∀ k' v', (∃ j, j < l.length ∧ j ≠ hole ∧ ax l j = ⟨true, k', v'⟩) ↔ k' ≠ k ∧ Val l0 k' v'
  cn : cnt l = cnt l0
  same : ∀ q, q < l.length → ¬ On i p q → ax l q = ax l0 q
theorem kv_begin {l0 : List St} {i k : Nat} (hH : ∀ k, H k < l0.length) (h : Rt H l0) (hi : Has l0 k i) : Kv H l0 i k l0 i (nx l0.length i) := by
  have hl := hi.1
  have e := nx_eq hl
  obtain ⟨u, hu1, hu2⟩ := h.free
  have hui : u ≠ i := fun e => by subst e; rw [hi.2.1] at hu2; cases hu2
  have on1 : ∀ q, q < l0.length → On i (nx l0.length i) q → q = i := fun q hq ho => by
    rw [e] at ho; simp only [On] at ho; split at ho <;> omega
  refine ⟨rfl, hl, hl, nx_lt hl, ?_, fun q hq ho => ?_, ?_, h.free, h.zero, fun j hj hne hu q hq ho => Or.inr ((h.path j hj hu).way q hq ho), fun j hj hne hu ho hc => hne (on1 j hj hc), fun k' v' => ?_, rfl, fun q _ _ => rfl⟩
  · rw [e]; split <;> omega
  · rw [on1 q hq ho]; exact hi.2.1
  · rw [e]; simp only [On]; split <;> omega
  · constructor
    · rintro ⟨j, a, b, c⟩
      refine ⟨?_, j, a, c⟩
      rintro rfl
      exact b (rt_uniq hH h ⟨a, by rw [c], by rw [c]⟩ hi)
    · rintro ⟨a, j, b, c⟩
      refine ⟨j, b, ?_, c⟩
      rintro rfl
      exact a (by rw [← hi.2.2, c])
theorem kv_diff {l0 l : List St} {i k hole p : Nat} (hH : ∀ k, H k < l.length) (h : Kv H l0 i k l hole p) {a b : Nat} (ha : a < l.length) (hb : b < l.length) (ah : a ≠ hole) (bh : b ≠ hole) (au : (ax l a).u = true) (bu : (ax l b).u = true) (hne : a ≠ b) : (ax l a).k ≠ (ax l b).k := by
  intro e
  rcases split_on ha hb (hH (ax l a).k) hne with c | c
  · rcases h.path a ha ah au b hb c with d | d
    · exact bh d
    · exact d.2 e.symm
  · rw [e] at c
    rcases h.path b hb bh bu a ha c with d | d
    · exact ah d
    · exact d.2 e
theorem kv_nx {l0 l : List St} {i k hole p : Nat} (h : Kv H l0 i k l hole p) (hu : (ax l p).u = true) : nx l.length p ≠ i := by
  have e := nx_eq h.plt
  obtain ⟨u, u1, u2⟩ := h.free
  have a1 : ¬ On i p u := fun c => by rw [h.past u u1 c] at u2; cases u2
  have a2 : u ≠ p := fun c => by subst c; rw [hu] at u2; cases u2
  have := h.plt; have := h.ilt; have := h.pne
  rw [e]; simp only [On] at a1
  split <;> omega
theorem kv_stay {l0 l : List St} {i k hole p : Nat} (hH : ∀ k, H k < l.length) (h : Kv H l0 i k l hole p) (hu : (ax l p).u = true) (hf : fit l.length (H (ax l p).k) hole p = false) : Kv H l0 i k l hole (nx l.length p) := by
  have hn := kv_nx h hu
  have e := nx_eq h.plt
  have p1 := h.plt; have p2 := h.ilt; have p3 := h.pne; have p4 := h.hlt
  have hin := h.hin
  have hhp : hole ≠ p := by simp only [On] at hin; omega
  have on1 : ∀ q, q < l.length → (On i (nx l.length p) q ↔ On i p q ∨ q = p) := fun q hq => by
    rw [e] at hn ⊢; simp only [On]; split <;> split at hn <;> omega
  have on2 : ∀ q, q < l.length → On hole (nx l.length p) q → On hole p q ∨ q = p := fun q hq => by
    rw [e] at hn ⊢; simp only [On] at hin ⊢; split <;> split at hn <;> omega
  have nf : ¬ On (H (ax l p).k) p hole := fun c => by
    rw [(fit_iff (hH _) p4 p1 hhp).2 c] at hf; cases hf
  refine ⟨h.len, p2, p4, nx_lt p1, hn, fun q hq ho => ?_, (on1 _ p4).2 (Or.inl hin), h.free, h.zero, h.path, fun j hj hne hju ho hc => ?_, h.vals, h.cn, fun q hq ho => h.same q hq fun c => ho ((on1 q hq).2 (Or.inl c))⟩
  · rcases (on1 q hq).1 ho with c | c
    · exact h.past q hq c
    · rw [c]; exact hu
  · rcases on2 j hj hc with c | c
    · exact h.thr j hj hne hju ho c
    · subst c; exact nf ho
theorem kv_move {l0 l : List St} {i k hole p : Nat} (hH : ∀ k, H k < l.length) (h : Kv H l0 i k l hole p) (hu : (ax l p).u = true) (hf : fit l.length (H (ax l p).k) hole p = true) : Kv H l0 i k (l.set hole (ax l p)) p (nx l.length p) := by
  have hn := kv_nx h hu
  have e := nx_eq h.plt
  have p1 := h.plt; have p2 := h.ilt; have p3 := h.pne; have p4 := h.hlt
  have hin := h.hin
  have hhp : hole ≠ p := by simp only [On] at hin; omega
  have onF : On (H (ax l p).k) p hole := (fit_iff (hH _) p4 p1 hhp).1 hf
  have on1 : ∀ q, q < l.length → (On i (nx l.length p) q ↔ On i p q ∨ q = p) := fun q hq => by
    rw [e] at hn ⊢; simp only [On]; split <;> split at hn <;> omega
  have on3 : ∀ q, q < l.length → On p (nx l.length p) q → q = p := fun q hq => by
    rw [e] at hn ⊢; simp only [On]; split <;> split at hn <;> omega
  have hhu : (ax l hole).u = true := h.past hole p4 hin
  have sl : (l.set hole (ax l p)).length = l.length := List.length_set
  refine ⟨by rw [sl]; exact h.len, by rw [sl]; exact p2, by rw [sl]; exact p1, by rw [sl]; exact nx_lt p1, hn, fun q hq ho => ?_, (on1 _ p1).2 (Or.inr rfl), ?_, fun j hj hju => ?_, fun j hj hne hju q hq ho => ?_, fun j hj hne hju ho hc => ?_, fun k' v' => ?_, ?_, fun q hq ho => ?_⟩
  · rw [sl] at hq
    rw [ax_set p4]
    by_cases c : q = hole
    · rw [if_pos c]; exact hu
    · rw [if_neg c]
      rcases (on1 q hq).1 ho with d | d
      · exact h.past q hq d
      · rw [d]; exact hu
  · obtain ⟨u, u1, u2⟩ := h.free
    refine ⟨u, by rw [sl]; exact u1, ?_⟩
    rw [ax_other p4 (fun c => by subst c; rw [hhu] at u2; cases u2)]; exact u2
  · rw [sl] at hj
    rw [ax_set p4] at hju ⊢
    by_cases c : j = hole
    · rw [if_pos c] at hju; rw [hu] at hju; cases hju
    · rw [if_neg c] at hju ⊢; exact h.zero j hj hju
  · rw [sl] at hj hq
    by_cases cq : q = p
    · exact Or.inl cq
    refine Or.inr ?_
    by_cases c : j = hole
    · subst c
      rw [ax_same p4] at ho ⊢
      have h1 : q ≠ j := by simp only [On] at ho; omega
      rw [ax_other p4 h1]
      have h2 : On (H (ax l p).k) p q := by
        have := hH (ax l p).k
        simp only [On] at ho onF ⊢; omega
      exact (h.path p p1 (fun d => hhp d.symm) hu q hq h2).resolve_left h1
    · rw [ax_other p4 c] at hju ho ⊢
      by_cases cq2 : q = hole
      · subst cq2
        rw [ax_same p4]
        exact ⟨hu, kv_diff hH h p1 hj (fun d => hhp d.symm) c hu hju (fun d => hne d.symm)⟩
      · rw [ax_other p4 cq2]
        exact (h.path j hj c hju q hq ho).resolve_left cq2
  · rw [sl] at hj
    exact hne (on3 j hj hc)
  · rw [← h.vals k' v']
    constructor
    · rintro ⟨j, a, b, c⟩
      rw [sl] at a
      by_cases d : j = hole
      · subst d
        rw [ax_same p4] at c
        exact ⟨p, p1, fun d => hhp d.symm, c⟩
      · rw [ax_other p4 d] at c
        exact ⟨j, a, d, c⟩
    · rintro ⟨j, a, b, c⟩
      by_cases d : j = p
      · subst d
        exact ⟨hole, by rw [sl]; exact p4, hhp, by rw [ax_same p4]; exact c⟩
      · exact ⟨j, by rw [sl]; exact a, d, by rw [ax_other p4 b]; exact c⟩
  · have := cnt_set (y := ax l p) p4
    rw [hhu, hu] at this
    have h2 := h.cn
    omega
  · rw [sl] at hq
    have d : ¬ On i p q := fun c => ho ((on1 q hq).2 (Or.inl c))
    rw [ax_other p4 (fun c => by subst c; exact d hin)]
    exact h.same q hq d
theorem kv_end {l0 l : List St} {i k hole p : Nat} (hH : ∀ k, H k < l.length) (h : Kv H l0 i k l hole p) (hu : (ax l p).u = false) :
    Rt H (l.set hole z0) ∧ (∀ k' v', Val (l.set hole z0) k' v' ↔ k' ≠ k ∧ Val l0 k' v') ∧ cnt (l.set hole z0) + 1 = cnt l0 ∧ (l.set hole z0).length = l0.length := by
  have p1 := h.plt; have p4 := h.hlt
  have hin := h.hin
  have hhp : hole ≠ p := by simp only [On] at hin; omega
  have hhu : (ax l hole).u = true := h.past hole p4 hin
  have sl : (l.set hole z0).length = l.length := List.length_set
  refine ⟨⟨⟨hole, by rw [sl]; exact p4, by rw [ax_same p4]; rfl⟩, fun j hj hju => ?_, fun j hj hju => ?_⟩, fun k' v' => ?_, ?_, by rw [sl]; exact h.len⟩
  · rw [sl] at hj
    rw [ax_set p4] at hju ⊢
    by_cases c : j = hole
    · rw [if_pos c]
    · rw [if_neg c] at hju ⊢; exact h.zero j hj hju
  · rw [sl] at hj
    rw [ax_set p4] at hju ⊢
    by_cases c : j = hole
    · rw [if_pos c] at hju; cases hju
    rw [if_neg c] at hju ⊢
    have nh : ¬ On (H (ax l j).k) j hole := fun d => by
      have h1 := h.thr j hj c hju d
      have hjp : j ≠ p := fun e => by subst e; rw [hu] at hju; cases hju
      have h2 : On (H (ax l j).k) j p := by
        have := hH (ax l j).k
        simp only [On] at d h1 ⊢; omega
      rcases h.path j hj c hju p p1 h2 with e | e
      · exact hhp e.symm
      · rw [hu] at e; cases e.1
    refine ⟨by rw [sl]; exact hj, Or.inr (by rw [ax_other p4 c]), fun q hq ho => ?_⟩
    rw [sl] at hq
    have hqh : q ≠ hole := fun e => by subst e; exact nh ho
    rw [ax_other p4 hqh]
    exact (h.path j hj c hju q hq ho).resolve_left hqh
  · rw [← h.vals k' v']
    constructor
    · rintro ⟨j, a, b⟩
      rw [sl] at a
      have c : j ≠ hole := fun e => by subst e; rw [ax_same p4] at b; cases b
      rw [ax_other p4 c] at b
      exact ⟨j, a, c, b⟩
    · rintro ⟨j, a, b, c⟩
      exact ⟨j, by rw [sl]; exact a, by rw [ax_other p4 b]; exact c⟩
  · have := cnt_set (y := z0) p4
    rw [hhu] at this
    have h2 := h.cn
    simp [z0] at this
    simp only [z0]
    omega
/-- the measure of the way -/
theorem kv_step {l0 l : List St} {i k hole p : Nat} (h : Kv H l0 i k l hole p) (hu : (ax l p).u = true) : stp l.length i (nx l.length p) = stp l.length i p + 1 := by
  have hn := kv_nx h hu
  have e := nx_eq h.plt
  have p1 := h.plt; have p2 := h.ilt; have p3 := h.pne
  rw [stp_eq p2 (nx_lt p1), stp_eq p2 p1]
  rw [e] at hn ⊢
  by_cases c : p + 1 = l.length
  · rw [if_pos c] at hn ⊢
    split <;> split <;> omega
  · rw [if_neg c] at hn ⊢
    split <;> split <;> omega
theorem stp_lt {n a b : Nat} (h : a < n) : stp n a b < n := Nat.mod_lt _ (by omega)
theorem stp_begin {l0 : List St} {i k : Nat} (h : Kv H l0 i k l0 i (nx l0.length i)) : stp l0.length i (nx l0.length i) = 1 := by
  have := h.ilt; have := h.pne
  have e := nx_eq h.ilt
  rw [stp_eq h.ilt h.plt]
  rw [e] at this ⊢
  by_cases c : i + 1 = l0.length
  · rw [if_pos c] at this ⊢
    split <;> omega
  · rw [if_neg c] at this ⊢
    split <;> omega
theorem kn_ok {l0 : List St} {i k : Nat} (hH : ∀ k, H k < l0.length) : ∀ (f : Nat) (l : List St) (hole p : Nat), Kv H l0 i k l hole p → f + stp l.length i p = l.length + 1 →
    Rt H (kn H f l hole p) ∧ (∀ k' v', Val (kn H f l hole p) k' v' ↔ k' ≠ k ∧ Val l0 k' v') ∧ cnt (kn H f l hole p) + 1 = cnt l0 ∧ (kn H f l hole p).length = l0.length
  | 0, l, hole, p, h, hm => by have := stp_lt (b := p) h.ilt; omega
  | f + 1, l, hole, p, h, hm => by
    have hH' : ∀ k, H k < l.length := by rw [h.len]; exact hH
    unfold kn
    cases hu : (ax l p).u
    · simpa using kv_end hH' h hu
    · have hs := kv_step h hu
      cases hf : fit l.length (H (ax l p).k) hole p
      · simpa using kn_ok hH f l hole (nx l.length p) (kv_stay hH' h hu hf) (by omega)
      · have := kn_ok hH f (l.set hole (ax l p)) p (nx l.length p) (kv_move hH' h hu hf) (by rw [List.length_set]; omega)
        simpa using this
theorem kn_end {f : Nat} {l : List St} {hole p : Nat} (hu : (ax l p).u = false) : kn H f l hole p = l.set hole z0 := by
  cases f with
  | zero => rfl
  | succ f => unfold kn; rw [hu]; rfl
theorem kn_stay {f : Nat} {l : List St} {hole p : Nat} (hu : (ax l p).u = true) (hf : fit l.length (H (ax l p).k) hole p = false) : kn H (f + 1) l hole p = kn H f l hole (nx l.length p) := by
  conv => lhs; unfold kn
  rw [hu, hf]; rfl
theorem kn_move {f : Nat} {l : List St} {hole p : Nat} (hu : (ax l p).u = true) (hf : fit l.length (H (ax l p).k) hole p = true) : kn H (f + 1) l hole p = kn H f (l.set hole (ax l p)) p (nx l.length p) := by
  conv => lhs; unfold kn
  rw [hu, hf]; rfl
theorem rmv_ok {l0 : List St} {i k : Nat} (hH : ∀ k, H k < l0.length) (h : Rt H l0) (hi : Has l0 k i) :
    Rt H (rmv H l0 i) ∧ (∀ k' v', Val (rmv H l0 i) k' v' ↔ k' ≠ k ∧ Val l0 k' v') ∧ cnt (rmv H l0 i) + 1 = cnt l0 ∧ (rmv H l0 i).length = l0.length := by
  have hb := kv_begin hH h hi
  exact kn_ok hH _ _ _ _ hb (by rw [stp_begin hb])
/-- put in and taken out again -/
theorem kn_undo {l l' : List St} {j k : Nat} {v : Int} (hH : ∀ k, H k < l.length) (h : Rt H l) (hj : j < l.length) (hju : (ax l j).u = false) (hl' : l' = l.set j ⟨true, k, v⟩) :
    ∀ (f p : Nat), Kv H l' j k l' j p → f + stp l'.length j p = l'.length + 1 → kn H f l' j p = l
  | 0, p, hk, hm => by have := stp_lt (b := p) hk.ilt; omega
  | f + 1, p, hk, hm => by
    have sl : l'.length = l.length := by rw [hl', List.length_set]
    unfold kn
    have hp := hk.plt
    have hin := hk.hin
    have hjp : j ≠ p := by simp only [On] at hin; omega
    cases hu : (ax l' p).u
    · simp only [Bool.false_eq_true, if_false]
      apply ax_ext (by rw [List.length_set, sl])
      intro q hq
      rw [List.length_set, sl] at hq
      rw [ax_set (by rw [sl]; exact hj), hl', ax_set hj]
      by_cases c : q = j
      · rw [if_pos c, c, h.zero j hj hju]
      · rw [if_neg c, if_neg c]
    · have e : ax l' p = ax l p := by rw [hl']; exact ax_other hj (fun e => hjp e.symm)
      have hf : fit l'.length (H (ax l' p).k) j p = false := by
        cases hf : fit l'.length (H (ax l' p).k) j p
        · rfl
        · have := (fit_iff (by rw [sl]; exact hH _) (by rw [sl]; exact hj) hp hjp).1 hf
          rw [e] at this hu
          rw [sl] at hp
          have := (h.path p hp hu).way j hj this
          rw [hju] at this; cases this.1
      simp only [if_true, hf, Bool.false_eq_true, if_false]
      exact kn_undo hH h hj hju hl' f _ (kv_stay (by rw [sl]; exact hH) hk hu hf) (by rw [kv_step hk hu]; omega)
theorem undo {l : List St} {j k : Nat} {v : Int} (hH : ∀ k, H k < l.length) (h : Rt H l) (hf : Fnd H l k j) (hju : (ax l j).u = false) (hc : cnt l + 1 < l.length) : rmv H (l.set j ⟨true, k, v⟩) j = l := by
  have hr := put_rt (v := v) hH h hf (fun _ => hc)
  have hj := hf.lt
  have hb := kv_begin (k := k) (i := j) (by rw [List.length_set]; exact hH) hr ⟨by rw [List.length_set]; exact hj, by rw [ax_same hj], by rw [ax_same hj]⟩
  exact kn_undo hH h hj hju rfl _ _ hb (by rw [stp_begin hb])

/-- the first that is free -/
structure Fre (H : Nat → Nat) (l : List St) (k j : Nat) : Prop where
  lt : j < l.length
  hit : (ax l j).u = false
  way : ∀ q, q < l.length → On (H k) j q → (ax l q).u = true
theorem fre_uniq {l : List St} {k i j : Nat} (hH : H k < l.length) (h1 : Fre H l k i) (h2 : Fre H l k j) : i = j := by
  apply Classical.byContradiction
  intro hne
  rcases split_on h1.lt h2.lt hH hne with c | c
  · have := h1.way j h2.lt c
    rw [h2.hit] at this; cases this
  · have := h2.way i h1.lt c
    rw [h1.hit] at this; cases this
theorem fre_fnd {l : List St} {k j : Nat} (h : Fre H l k j) (hn : ¬ ∃ i, Has l k i) : Fnd H l k j :=
  ⟨h.lt, Or.inl h.hit, fun q hq ho => ⟨h.way q hq ho, fun e => hn ⟨q, hq, h.way q hq ho, e⟩⟩⟩
open Classical in
/-- where it is found; the first that is free -/
noncomputable def fnd (H : Nat → Nat) (l : List St) (k : Nat) : Nat := if h : ∃ j, Fnd H l k j then Classical.choose h else 0
open Classical in
noncomputable def fre (H : Nat → Nat) (l : List St) (k : Nat) : Nat := if h : ∃ j, Fre H l k j then Classical.choose h else 0
theorem fnd_eq {l : List St} {k j : Nat} (hH : H k < l.length) (h : Fnd H l k j) : fnd H l k = j := by
  unfold fnd
  have hx : ∃ j, Fnd H l k j := ⟨j, h⟩
  rw [dif_pos hx]
  exact fnd_uniq hH (Classical.choose_spec hx) h
theorem fre_eq {l : List St} {k j : Nat} (hH : H k < l.length) (h : Fre H l k j) : fre H l k = j := by
  unfold fre
  have hx : ∃ j, Fre H l k j := ⟨j, h⟩
  rw [dif_pos hx]
  exact fre_uniq hH (Classical.choose_spec hx) h
theorem fnd_spec {l : List St} (hH : ∀ k, H k < l.length) (hf : ∃ j, j < l.length ∧ (ax l j).u = false) (k : Nat) : Fnd H l k (fnd H l k) := by
  obtain ⟨j, hj⟩ := fnd_ex hH hf k
  rw [fnd_eq (hH k) hj]; exact hj
theorem rt_iff {l : List St} (hH : ∀ k, H k < l.length) (hf : ∃ j, j < l.length ∧ (ax l j).u = false) : Rt H l ↔ ∀ j, j < l.length → ((ax l j).u = false → ax l j = z0) ∧ ((ax l j).u = true → fnd H l (ax l j).k = j) := by
  constructor
  · intro h j hj
    exact ⟨h.zero j hj, fun hu => fnd_eq (hH _) (h.path j hj hu)⟩
  · intro h
    refine ⟨hf, fun j hj => (h j hj).1, fun j hj hu => ?_⟩
    have := fnd_spec hH hf (ax l j).k
    rw [(h j hj).2 hu] at this
    exact this
/-- a slot that is right, as it is looked at by itself -/
def Okr (H : Nat → Nat) (l : List St) (j : Nat) : Prop := ((ax l j).u = false → ax l j = z0) ∧ ((ax l j).u = true → (∀ q, q < l.length → On (H (ax l j).k) j q → (ax l q).u = true ∧ (ax l q).k ≠ (ax l j).k) ∧ ∀ q, q < l.length → q ≠ j → (ax l q).u = true → (ax l q).k ≠ (ax l j).k)
theorem rt_okr {l : List St} (hH : ∀ k, H k < l.length) : Rt H l ↔ (∃ j, j < l.length ∧ (ax l j).u = false) ∧ ∀ j, j < l.length → Okr H l j := by
  constructor
  · intro h
    refine ⟨h.free, fun j hj => ⟨h.zero j hj, fun hu => ⟨(h.path j hj hu).way, fun q hq hne hqu e => ?_⟩⟩⟩
    exact hne (rt_uniq hH h ⟨hq, hqu, e⟩ ⟨hj, hu, rfl⟩)
  · rintro ⟨h1, h2⟩
    exact ⟨h1, fun j hj => (h2 j hj).1, fun j hj hu => ⟨hj, Or.inr rfl, ((h2 j hj).2 hu).1⟩⟩
theorem way_step {n h i q : Nat} (hh : h < n) (hi : i < n) (hq : q < n) (ho : On h i q) : (On h i (nx n q) ∨ nx n q = i) ∧ (∀ q', q' < n → On h (nx n q) q' → On h q q' ∨ q' = q) ∧ stp n (nx n q) i + 1 = stp n q i := by
  have e := nx_eq hq
  have hn := nx_lt hq
  rw [stp_eq hn hi, stp_eq hq hi]
  rw [e] at hn ⊢
  by_cases c : q + 1 = n
  · rw [if_pos c] at hn ⊢
    refine ⟨by simp only [On] at ho ⊢; omega, fun q' hq' ho' => by simp only [On] at ho ho' ⊢; omega, ?_⟩
    simp only [On] at ho
    split <;> split <;> omega
  · rw [if_neg c] at hn ⊢
    refine ⟨by simp only [On] at ho ⊢; omega, fun q' hq' ho' => by simp only [On] at ho ho' ⊢; omega, ?_⟩
    simp only [On] at ho
    split <;> split <;> omega
theorem way_begin {n h i : Nat} (_ : h < n) (_ : i < n) : (On h i h ∨ h = i) ∧ ∀ q, ¬ On h h q := by
  refine ⟨by simp only [On]; omega, fun q => by simp only [On]; omega⟩
noncomputable def addS (H : Nat → Nat) (l : List St) (s : St) : List St := l.set (fre H l s.k) s
/-- those that are used, from p up to the first that isn't -/
def sq : Nat → List St → Nat → List St
  | 0, _, _ => []
  | f + 1, l, p => if (ax l p).u then ax l p :: sq f l (nx l.length p) else []
/-- each can be put in -/
def Gd (H : Nat → Nat) : List St → List St → Prop
  | _, [] => True
  | T, s :: r => (∃ j, j < T.length ∧ (ax T j).u = false) ∧ Gd H (addS H T s) r
/-- what is left where the hole, and all from p up to e, are taken out -/
structure Mk (l : List St) (hole p e : Nat) (T : List St) : Prop where
  len : T.length = l.length
  at_ : ∀ q, q < l.length → ax T q = if q = hole ∨ On p e q then z0 else ax l q
/-- e is the first from p on that isn't used -/
structure Ed (l : List St) (p e : Nat) : Prop where
  lt : e < l.length
  un : (ax l e).u = false
  run : ∀ q, q < l.length → On p e q → (ax l q).u = true
theorem ed_step {l : List St} {p e : Nat} (h : Ed l p e) (hp : p < l.length) (hu : (ax l p).u = true) : e ≠ p ∧ ∀ q, q < l.length → (On p e q ↔ q = p ∨ On (nx l.length p) e q) := by
  have hne : e ≠ p := fun c => by subst c; rw [h.un] at hu; cases hu
  refine ⟨hne, fun q hq => ?_⟩
  have := h.lt
  rw [nx_eq hp]; simp only [On]; split <;> omega
theorem ed_end {l : List St} {p e : Nat} (h : Ed l p e) (hp : p < l.length) (hu : (ax l p).u = false) : e = p := by
  apply Classical.byContradiction
  intro hne
  have := h.run p hp (by have := h.lt; simp only [On]; omega)
  rw [hu] at this; cases this
theorem again {l0 : List St} {i k : Nat} (hH : ∀ k, H k < l0.length) : ∀ (f : Nat) (l : List St) (hole p e : Nat) (T : List St), Kv H l0 i k l hole p → Ed l p e → Mk l hole p e T → f + stp l.length i p = l.length + 1 →
    (sq f l0 p).foldl (addS H) T = kn H f l hole p ∧ Gd H T (sq f l0 p)
  | 0, l, hole, p, e, T, h, _, _, hm => by have := stp_lt (b := p) h.ilt; omega
  | f + 1, l, hole, p, e, T, h, he, hT, hm => by
    have hH' : ∀ k, H k < l.length := by rw [h.len]; exact hH
    have p1 := h.plt; have p4 := h.hlt; have p2 := h.ilt
    have hin := h.hin
    have hhp : hole ≠ p := by simp only [On] at hin; omega
    have e0 : ax l p = ax l0 p := h.same p p1 (by simp only [On]; omega)
    unfold kn sq
    rw [← e0, ← h.len]
    cases hu : (ax l p).u
    · have : e = p := ed_end he p1 hu
      subst this
      refine ⟨?_, trivial⟩
      simp only [Bool.false_eq_true, if_false, List.foldl_nil]
      apply ax_ext (by rw [hT.len, List.length_set])
      intro q hq
      rw [hT.len] at hq
      rw [hT.at_ q hq, ax_set p4]
      by_cases c : q = hole
      · rw [if_pos (Or.inl c), if_pos c]
      · rw [if_neg (by simp only [On]; omega), if_neg c]
    · obtain ⟨hne, hon⟩ := ed_step he p1 hu
      have hs := kv_step h hu
      have hhu : (ax l hole).u = true := h.past hole p4 hin
      have heh : e ≠ hole := fun c => by have := he.un; rw [c, hhu] at this; cases this
      have noh : ¬ On (nx l.length p) e hole := fun c => by
        have h3 : ¬ On i p e := fun d => by have := h.past e he.lt d; rw [he.un] at this; cases this
        have h2 := nx_eq p1
        have := he.lt; have := h.pne
        rw [h2] at c; simp only [On] at c hin h3
        split at c <;> omega
      have pathE : ∀ q, q < l.length → On (H (ax l p).k) p q → On p e q → False := fun q hq h1 h2 => by
        have hkp := hH' (ax l p).k
        have he1 := he.lt
        have h3 : On (H (ax l p).k) p e := by
          have hq : q ≠ p := by simp only [On] at h1; omega
          simp only [On] at h1 h2 ⊢; omega
        rcases h.path p p1 (fun d => hhp d.symm) hu e he1 h3 with d | d
        · exact heh d
        · rw [he.un] at d; cases d.1
      have tfree : ∃ j, j < T.length ∧ (ax T j).u = false := ⟨hole, by rw [hT.len]; exact p4, by rw [hT.at_ hole p4, if_pos (Or.inl rfl)]; rfl⟩
      have tu : ∀ q, q < l.length → On (H (ax l p).k) p q → q ≠ hole → (ax T q).u = true := fun q hq h1 h2 => by
        rw [hT.at_ q hq, if_neg (by rintro (c | c); exact h2 c; exact pathE q hq h1 c)]
        exact ((h.path p p1 (fun d => hhp d.symm) hu q hq h1).resolve_left h2).1
      cases hf : fit l.length (H (ax l p).k) hole p
      · have nf : ¬ On (H (ax l p).k) p hole := fun c => by
          rw [(fit_iff (hH' _) p4 p1 hhp).2 c] at hf; cases hf
        have hfre : Fre H T (ax l p).k p := ⟨by rw [hT.len]; exact p1, by rw [hT.at_ p p1, if_pos (Or.inr ((hon p p1).2 (Or.inl rfl)))]; rfl, fun q hq ho => by
          rw [hT.len] at hq
          exact tu q hq ho (fun c => by subst c; exact nf ho)⟩
        have ef := fre_eq (by rw [hT.len]; exact hH' _) hfre
        have hT' : Mk l hole (nx l.length p) e (addS H T (ax l p)) := ⟨by unfold addS; rw [List.length_set]; exact hT.len, fun q hq => by
          unfold addS
          rw [ef, ax_set (by rw [hT.len]; exact p1), hT.at_ q hq]
          by_cases c : q = p
          · subst c
            rw [if_pos rfl, if_neg]
            rintro (d | d)
            · exact hhp d.symm
            · rw [nx_eq p1] at d; have := he.lt; simp only [On] at d; split at d <;> omega
          · rw [if_neg c]
            by_cases d : q = hole ∨ On (nx l.length p) e q
            · rw [if_pos d, if_pos (d.imp id fun d => (hon q hq).2 (Or.inr d))]
            · rw [if_neg d, if_neg]
              rintro (d1 | d1)
              · exact d (Or.inl d1)
              · rcases (hon q hq).1 d1 with d2 | d2
                · exact c d2
                · exact d (Or.inr d2)⟩
        have he' : Ed l (nx l.length p) e := ⟨he.lt, he.un, fun q hq ho => he.run q hq ((hon q hq).2 (Or.inr ho))⟩
        have ih := again hH f l hole (nx l.length p) e _ (kv_stay hH' h hu hf) he' hT' (by omega)
        simp only [if_true, Bool.false_eq_true, if_false, List.foldl_cons]
        exact ⟨ih.1, tfree, ih.2⟩
      · have onF : On (H (ax l p).k) p hole := (fit_iff (hH' _) p4 p1 hhp).1 hf
        have hfre : Fre H T (ax l p).k hole := ⟨by rw [hT.len]; exact p4, by rw [hT.at_ hole p4, if_pos (Or.inl rfl)]; rfl, fun q hq ho => by
          rw [hT.len] at hq
          have h1 : q ≠ hole := by simp only [On] at ho; omega
          have h2 : On (H (ax l p).k) p q := by
            have := hH' (ax l p).k
            simp only [On] at ho onF ⊢; omega
          exact tu q hq h2 h1⟩
        have ef := fre_eq (by rw [hT.len]; exact hH' _) hfre
        have sl : (l.set hole (ax l p)).length = l.length := List.length_set
        have hT' : Mk (l.set hole (ax l p)) p (nx l.length p) e (addS H T (ax l p)) := ⟨by unfold addS; rw [List.length_set, sl]; exact hT.len, fun q hq => by
          rw [sl] at hq
          unfold addS
          rw [ef, ax_set (by rw [hT.len]; exact p4), hT.at_ q hq, ax_set p4]
          by_cases c : q = hole
          · subst c
            rw [if_pos rfl, if_neg, if_pos rfl]
            rintro (d | d)
            · exact hhp d
            · exact noh d
          · rw [if_neg c, if_neg c]
            by_cases d : q = p ∨ On (nx l.length p) e q
            · rw [if_pos d, if_pos (Or.inr ((hon q hq).2 d))]
            · rw [if_neg d, if_neg]
              rintro (d1 | d1)
              · exact c d1
              · exact d ((hon q hq).1 d1)⟩
        have he' : Ed (l.set hole (ax l p)) (nx l.length p) e := ⟨by rw [sl]; exact he.lt, by rw [ax_other p4 heh]; exact he.un, fun q hq ho => by
          rw [sl] at hq
          rw [ax_other p4 (fun c => by subst c; exact noh ho)]
          exact he.run q hq ((hon q hq).2 (Or.inr ho))⟩
        have ih := again hH f (l.set hole (ax l p)) p (nx l.length p) e _ (kv_move hH' h hu hf) he' hT' (by rw [sl]; omega)
        simp only [if_true, List.foldl_cons]
        exact ⟨ih.1, tfree, ih.2⟩
/-- all from i up to p taken out -/
structure Cl (l0 : List St) (i p : Nat) (c : List St) : Prop where
  len : c.length = l0.length
  at_ : ∀ q, q < l0.length → ax c q = if On i p q then z0 else ax l0 q
/-- taken out with all that follow, which are put in anew -/
theorem rmv_again {l0 : List St} {i k e : Nat} {c : List St} (hH : ∀ k, H k < l0.length) (h : Rt H l0) (hi : Has l0 k i) (he : Ed l0 (nx l0.length i) e) (hc : Cl l0 i e c) :
    (sq l0.length l0 (nx l0.length i)).foldl (addS H) c = rmv H l0 i ∧ Gd H c (sq l0.length l0 (nx l0.length i)) := by
  have hb := kv_begin hH h hi
  refine again hH _ _ _ _ e _ hb he ⟨hc.len, fun q hq => ?_⟩ (by rw [stp_begin hb])
  rw [hc.at_ q hq]
  have h1 := nx_eq hi.1
  have h2 := he.lt
  have h3 := hi.1
  have h4 : e ≠ i := fun e' => by have := he.un; rw [e', hi.2.1] at this; cases this
  have : On i e q ↔ (q = i ∨ On (nx l0.length i) e q) := by
    rw [h1]; simp only [On]; split <;> omega
  by_cases c : On i e q
  · rw [if_pos c, if_pos (this.1 c)]
  · rw [if_neg c, if_neg (fun d => c (this.2 d))]
end
end Go.Proofs.Ytmnmjmbfnecmoaa.tm
