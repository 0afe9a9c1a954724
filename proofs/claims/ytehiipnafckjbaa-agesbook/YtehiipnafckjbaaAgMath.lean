/- Rooms by their age, plain: which are taken, the least that isn't, who leaves, who is old. -/
import Derived.Laws.BitsAllLaws
namespace Go.Proofs.Ytehiipnafckjbaa.am

/-- a stay: its room, and when it was -/
structure Sy where
  r : Int
  a : Int
def z0 : Sy := ⟨0, 0⟩
instance : Inhabited Sy := ⟨z0⟩
/-- the stay of a number -/
def ax (l : List Sy) (q : Nat) : Sy := l.getD q z0
theorem ax_get {l : List Sy} {q : Nat} (h : q < l.length) : l[q]? = some (ax l q) := by
  unfold ax; rw [List.getD_eq_getElem?_getD, List.getElem?_eq_getElem h]; rfl
theorem ax_elem {l : List Sy} {q : Nat} (h : q < l.length) : ax l q = l[q] := by
  unfold ax; rw [List.getD_eq_getElem?_getD, List.getElem?_eq_getElem h]; rfl
theorem ax_mem {l : List Sy} {q : Nat} (h : q < l.length) : ax l q ∈ l := by rw [ax_elem h]; exact List.getElem_mem h
theorem mem_ax {l : List Sy} {s : Sy} (h : s ∈ l) : ∃ q, q < l.length ∧ ax l q = s := by
  obtain ⟨q, hq, e⟩ := List.getElem_of_mem h
  exact ⟨q, hq, by rw [ax_elem hq]; exact e⟩

/-- is a room? -/
def tk (l : List Sy) (r : Int) : Bool := l.any fun s => s.r == r
theorem tk_iff {l : List Sy} {r : Int} : tk l r = true ↔ ∃ s ∈ l, s.r = r := by
  unfold tk; simp
theorem tk_no {l : List Sy} {r : Int} : tk l r = false ↔ ∀ s ∈ l, s.r ≠ r := by
  unfold tk; simp
theorem tk_nil (r : Int) : tk [] r = false := rfl
theorem tk_cons (s : Sy) (l : List Sy) (r : Int) : tk (s :: l) r = (s.r == r || tk l r) := rfl
theorem tk_append (l m : List Sy) (r : Int) : tk (l ++ m) r = (tk l r || tk m r) := by unfold tk; rw [List.any_append]
theorem tk_ax {l : List Sy} {r : Int} : tk l r = true ↔ ∃ q, q < l.length ∧ (ax l q).r = r := by
  rw [tk_iff]
  constructor
  · rintro ⟨s, hs, e⟩
    obtain ⟨q, hq, e2⟩ := mem_ax hs
    exact ⟨q, hq, by rw [e2]; exact e⟩
  · rintro ⟨q, hq, e⟩
    exact ⟨_, ax_mem hq, e⟩

/-- they are right -/
def Ok (n : Int) (l : List Sy) : Prop := (∀ s ∈ l, 0 ≤ s.r ∧ s.r < n) ∧ l.Pairwise fun x y => x.r ≠ y.r ∧ x.a ≤ y.a
/-- one of them is right, with those ahead -/
def Oka (n : Int) (l : List Sy) (i : Nat) : Prop := 0 ≤ (ax l i).r ∧ (ax l i).r < n ∧ ∀ j, j < i → (ax l j).r ≠ (ax l i).r ∧ (ax l j).a ≤ (ax l i).a
theorem ok_iff {n : Int} {l : List Sy} : Ok n l ↔ ∀ i, i < l.length → Oka n l i := by
  unfold Ok
  rw [List.pairwise_iff_getElem]
  constructor
  · rintro ⟨h1, h2⟩ i hi
    refine ⟨(h1 _ (ax_mem hi)).1, (h1 _ (ax_mem hi)).2, fun j hj => ?_⟩
    have := h2 j i (by omega) hi hj
    rw [ax_elem hi, ax_elem (by omega)]
    exact this
  · intro h
    refine ⟨fun s hs => ?_, fun i j hi hj hij => ?_⟩
    · obtain ⟨q, hq, rfl⟩ := mem_ax hs
      exact ⟨(h q hq).1, (h q hq).2.1⟩
    · have := (h j hj).2.2 i hij
      rw [ax_elem hi, ax_elem hj] at this
      exact this
/-- one more is right, by those that are taken and the last -/
theorem oka_step {n : Int} {l : List Sy} {i : Nat} (h : ∀ j, j < i → Oka n l j) : Oka n l i ↔ 0 ≤ (ax l i).r ∧ (ax l i).r < n ∧ (∀ j, j < i → (ax l j).r ≠ (ax l i).r) ∧ (0 < i → (ax l (i - 1)).a ≤ (ax l i).a) := by
  constructor
  · rintro ⟨a, b, c⟩
    exact ⟨a, b, fun j hj => (c j hj).1, fun hi => (c (i - 1) (by omega)).2⟩
  · rintro ⟨a, b, c, d⟩
    refine ⟨a, b, fun j hj => ⟨c j hj, ?_⟩⟩
    have h1 := d (by omega)
    by_cases e : j = i - 1
    · rw [e]; exact h1
    · have := ((h (i - 1) (by omega)).2.2 j (by omega)).2
      omega
theorem ok_nil (n : Int) : Ok n [] := ⟨fun s h => by simp at h, List.Pairwise.nil⟩
theorem ok_cons {n : Int} {s : Sy} {l : List Sy} : Ok n (s :: l) ↔ 0 ≤ s.r ∧ s.r < n ∧ (∀ t ∈ l, s.r ≠ t.r ∧ s.a ≤ t.a) ∧ Ok n l := by
  unfold Ok
  rw [List.pairwise_cons]
  constructor
  · rintro ⟨h1, h2, h3⟩
    exact ⟨(h1 s List.mem_cons_self).1, (h1 s List.mem_cons_self).2, h2, fun t ht => h1 t (List.mem_cons_of_mem _ ht), h3⟩
  · rintro ⟨a, b, c, d, e⟩
    refine ⟨fun t ht => ?_, c, e⟩
    rcases List.mem_cons.1 ht with rfl | ht
    · exact ⟨a, b⟩
    · exact d t ht
theorem ok_one {n : Int} {l : List Sy} {s : Sy} (h : Ok n l) (h0 : 0 ≤ s.r) (h1 : s.r < n) (hn : tk l s.r = false) (ha : ∀ t ∈ l, t.a ≤ s.a) : Ok n (l ++ [s]) := by
  refine ⟨fun t ht => ?_, ?_⟩
  · rcases List.mem_append.1 ht with ht | ht
    · exact h.1 t ht
    · rw [List.mem_singleton.1 ht]; exact ⟨h0, h1⟩
  · rw [List.pairwise_append]
    refine ⟨h.2, List.pairwise_singleton _ _, fun x hx y hy => ?_⟩
    rw [List.mem_singleton.1 hy]
    exact ⟨tk_no.1 hn x hx, ha x hx⟩
theorem ok_filter {n : Int} {l : List Sy} (h : Ok n l) (p : Sy → Bool) : Ok n (l.filter p) :=
  ⟨fun s hs => h.1 s (List.mem_filter.1 hs).1, h.2.filter p⟩
theorem ok_drop {n : Int} {l : List Sy} (h : Ok n l) (k : Nat) : Ok n (l.drop k) :=
  ⟨fun s hs => h.1 s (List.mem_of_mem_drop hs), h.2.drop⟩

/-- how many rooms of the first k are taken -/
def cnt (l : List Sy) : Nat → Nat
  | 0 => 0
  | k + 1 => cnt l k + if tk l k = true then 1 else 0
theorem cnt_le (l : List Sy) : ∀ k, cnt l k ≤ k
  | 0 => Nat.le_refl _
  | k + 1 => by
    have := cnt_le l k
    unfold cnt
    split <;> omega
theorem cnt_all {l : List Sy} : ∀ {k : Nat}, (∀ j : Nat, j < k → tk l j = true) → cnt l k = k
  | 0, _ => rfl
  | k + 1, h => by
    unfold cnt
    rw [cnt_all fun j hj => h j (by omega), if_pos (h k (by omega))]
theorem cnt_eq {l : List Sy} : ∀ {k : Nat}, cnt l k = k → ∀ j : Nat, j < k → tk l j = true
  | 0, _, j, hj => absurd hj (by omega)
  | k + 1, h, j, hj => by
    have h1 := cnt_le l k
    unfold cnt at h
    by_cases ht : tk l k = true
    · rw [if_pos ht] at h
      by_cases e : j = k
      · rw [e]; exact ht
      · exact cnt_eq (k := k) (by omega) j (by omega)
    · rw [if_neg ht] at h; omega
theorem cnt_nil : ∀ k, cnt [] k = 0
  | 0 => rfl
  | k + 1 => by unfold cnt; rw [cnt_nil k, tk_nil]; rfl
theorem cnt_cons (s : Sy) (l : List Sy) : ∀ k : Nat, cnt (s :: l) k = cnt l k + if 0 ≤ s.r ∧ s.r < k ∧ tk l s.r = false then 1 else 0
  | 0 => by
    rw [if_neg (by omega)]; rfl
  | k + 1 => by
    unfold cnt
    rw [cnt_cons s l k, tk_cons]
    by_cases e : s.r = k
    · rw [e]
      have e1 : ((k : Int) == (k : Int)) = true := by simp
      rw [e1, Bool.true_or, if_pos rfl, if_neg (by omega)]
      cases ht : tk l k
      · rw [if_neg (by decide), if_pos (by refine ⟨by omega, by omega, rfl⟩)]
      · rw [if_pos rfl, if_neg (fun h => by have := h.2.2; cases this)]
    · have e1 : (s.r == (k : Int)) = false := by simpa using e
      rw [e1, Bool.false_or]
      have e2 : (0 ≤ s.r ∧ s.r < ((k + 1 : Nat) : Int) ∧ tk l s.r = false) ↔ (0 ≤ s.r ∧ s.r < (k : Int) ∧ tk l s.r = false) := by
        constructor
        · rintro ⟨a, b, c⟩; exact ⟨a, by omega, c⟩
        · rintro ⟨a, b, c⟩; exact ⟨a, by omega, c⟩
      simp only [e2]
      omega
theorem cnt_len : ∀ (l : List Sy) (k : Nat), cnt l k ≤ l.length
  | [], k => by rw [cnt_nil]; exact Nat.le_refl _
  | s :: l, k => by
    rw [cnt_cons, List.length_cons]
    have := cnt_len l k
    split <;> omega
theorem cnt_ok {k : Nat} : ∀ {l : List Sy}, Ok k l → cnt l k = l.length
  | [], _ => cnt_nil k
  | s :: l, h => by
    obtain ⟨a, b, c, d⟩ := ok_cons.1 h
    rw [cnt_cons, cnt_ok d, if_pos ⟨a, b, tk_no.2 fun t ht => fun e => (c t ht).1 e.symm⟩, List.length_cons]

/-- the least that isn't taken -/
def Lf (l : List Sy) (k : Nat) : Prop := tk l k = false ∧ ∀ j : Nat, j < k → tk l j = true
theorem lf_uniq {l : List Sy} {j k : Nat} (h1 : Lf l j) (h2 : Lf l k) : j = k := by
  rcases Nat.lt_trichotomy j k with h | h | h
  · have := h2.2 j h; rw [h1.1] at this; cases this
  · exact h
  · have := h1.2 k h; rw [h2.1] at this; cases this
open Classical in
noncomputable def lf (l : List Sy) : Nat := if h : ∃ k, Lf l k then Classical.choose h else 0
theorem lf_eq {l : List Sy} {k : Nat} (h : Lf l k) : lf l = k := by
  unfold lf
  rw [dif_pos ⟨k, h⟩]
  exact lf_uniq (Classical.choose_spec (p := Lf l) ⟨k, h⟩) h
/-- all ahead are taken: there are as many -/
theorem run_le {l : List Sy} {k : Nat} (h : ∀ j : Nat, j < k → tk l j = true) : k ≤ l.length := by
  have := cnt_len l k
  rw [cnt_all h] at this
  exact this
theorem lf_spec (l : List Sy) : Lf l (lf l) := by
  have key : ∀ m k : Nat, l.length + 1 - k = m → (∀ j : Nat, j < k → tk l j = true) → ∃ q, Lf l q := by
    intro m
    induction m with
    | zero => intro k hk h; have := run_le h; omega
    | succ m ih =>
      intro k hk h
      cases ht : tk l k
      · exact ⟨k, ht, h⟩
      · exact ih (k + 1) (by omega) fun j hj => by
          by_cases e : j = k
          · rw [e]; exact ht
          · exact h j (by omega)
  obtain ⟨q, hq⟩ := key _ 0 rfl (fun j hj => absurd hj (by omega))
  rw [lf_eq hq]; exact hq
theorem lf_le_of {l : List Sy} {k : Nat} (h : tk l k = false) : lf l ≤ k := by
  by_cases hh : k < lf l
  · have := (lf_spec l).2 k hh; rw [h] at this; cases this
  · omega
theorem lf_le (l : List Sy) : lf l ≤ l.length := run_le (lf_spec l).2
theorem ok_len {n : Nat} {l : List Sy} (h : Ok n l) : l.length ≤ n := by
  rw [← cnt_ok h]; exact cnt_le l n
theorem lf_full {n : Nat} {l : List Sy} (h : Ok n l) (hn : l.length = n) : n ≤ lf l := by
  have h1 := cnt_ok h
  have h2 := cnt_eq (h1.trans hn)
  by_cases hh : lf l < n
  · have := h2 _ hh; rw [(lf_spec l).1] at this; cases this
  · omega
theorem lf_room {n : Nat} {l : List Sy} (h : Ok n l) (hn : l.length ≠ n) : lf l < n := by
  have := lf_le l
  have := ok_len h
  omega

/-- all but one room -/
def wo (l : List Sy) (r : Int) : List Sy := l.filter fun s => s.r != r
theorem wo_none {l : List Sy} {r : Int} (h : tk l r = false) : wo l r = l := by
  unfold wo
  rw [List.filter_eq_self]
  intro s hs
  have := tk_no.1 h s hs
  simpa using this
theorem wo_tk (l : List Sy) (r q : Int) : tk (wo l r) q = (tk l q && q != r) := by
  rw [Bool.eq_iff_iff, tk_iff]
  simp only [Bool.and_eq_true, tk_iff, wo, List.mem_filter]
  constructor
  · rintro ⟨s, ⟨h1, h2⟩, rfl⟩; exact ⟨⟨s, h1, rfl⟩, h2⟩
  · rintro ⟨⟨s, h1, rfl⟩, h2⟩; exact ⟨s, ⟨h1, h2⟩, rfl⟩
theorem wo_ok {n : Int} {l : List Sy} (h : Ok n l) (r : Int) : Ok n (wo l r) := ok_filter h _
theorem wo_len {n : Int} {r : Int} : ∀ {l : List Sy}, Ok n l → tk l r = true → (wo l r).length + 1 = l.length
  | [], _, h => by simp [tk_nil] at h
  | s :: l, h, ht => by
    obtain ⟨a, b, c, d⟩ := ok_cons.1 h
    by_cases e : s.r = r
    · have hn : tk l r = false := tk_no.2 fun t ht e2 => (c t ht).1 (by rw [e, e2])
      have e1 : wo (s :: l) r = wo l r := by unfold wo; rw [List.filter_cons_of_neg (by simp [e])]
      rw [e1, wo_none hn, List.length_cons]
    · have e1 : wo (s :: l) r = s :: wo l r := by unfold wo; rw [List.filter_cons_of_pos (by simp [e])]
      rw [tk_cons] at ht
      have ht' : tk l r = true := by simpa [e] using ht
      rw [e1, List.length_cons, List.length_cons, wo_len d ht']
/-- where a room is -/
def ix (r : Int) : List Sy → Nat
  | [] => 0
  | s :: l => if s.r = r then 0 else ix r l + 1
theorem ix_le (r : Int) : ∀ l : List Sy, ix r l ≤ l.length
  | [] => Nat.le_refl _
  | s :: l => by
    unfold ix
    have := ix_le r l
    rw [List.length_cons]
    split <;> omega
theorem ix_lt {r : Int} : ∀ {l : List Sy}, tk l r = true → ix r l < l.length
  | [], h => by simp [tk_nil] at h
  | s :: l, h => by
    unfold ix
    rw [List.length_cons]
    by_cases e : s.r = r
    · rw [if_pos e]; omega
    · rw [if_neg e]
      have : tk l r = true := by simpa [tk_cons, e] using h
      have := ix_lt this
      omega
/-- without it -/
theorem ix_cut {n r : Int} : ∀ {l : List Sy}, Ok n l → tk l r = true → l.take (ix r l) ++ l.drop (ix r l + 1) = wo l r
  | [], _, h => by simp [tk_nil] at h
  | s :: l, h, ht => by
    obtain ⟨a, b, c, d⟩ := ok_cons.1 h
    unfold ix
    by_cases e : s.r = r
    · have hn : tk l r = false := tk_no.2 fun t ht e2 => (c t ht).1 (by rw [e, e2])
      have e1 : wo (s :: l) r = wo l r := by unfold wo; rw [List.filter_cons_of_neg (by simp [e])]
      rw [if_pos e, e1, wo_none hn]; rfl
    · have e1 : wo (s :: l) r = s :: wo l r := by unfold wo; rw [List.filter_cons_of_pos (by simp [e])]
      rw [tk_cons] at ht
      have ht' : tk l r = true := by simpa [e] using ht
      rw [if_neg e, e1, ← ix_cut d ht']; rfl

/-- how many are old -/
def old (b : Int) : List Sy → Nat
  | [] => 0
  | s :: l => if s.a < b then old b l + 1 else 0
theorem old_le (b : Int) : ∀ l : List Sy, old b l ≤ l.length
  | [] => Nat.le_refl _
  | s :: l => by
    unfold old
    have := old_le b l
    rw [List.length_cons]
    split <;> omega
theorem old_yes {b : Int} : ∀ {l : List Sy} {i : Nat}, i < old b l → (ax l i).a < b
  | [], i, h => by simp [old] at h
  | s :: l, i, h => by
    unfold old at h
    by_cases e : s.a < b
    · rw [if_pos e] at h
      cases i with
      | zero => exact e
      | succ i => exact old_yes (l := l) (i := i) (by omega)
    · rw [if_neg e] at h; omega
theorem old_no {b : Int} : ∀ {l : List Sy}, old b l < l.length → ¬ (ax l (old b l)).a < b
  | [], h => by simp at h
  | s :: l, h => by
    unfold old at h ⊢
    by_cases e : s.a < b
    · rw [if_pos e] at h ⊢
      exact old_no (l := l) (by simpa using h)
    · rw [if_neg e]; exact e
theorem old_at {b : Int} {l : List Sy} {i : Nat} (h : ∀ j, j < i → (ax l j).a < b) (hi : i ≤ l.length) (he : i = l.length ∨ ¬ (ax l i).a < b) : old b l = i := by
  rcases Nat.lt_trichotomy (old b l) i with c | c | c
  · exact absurd (h _ c) (old_no (by omega))
  · exact c
  · rcases he with he | he
    · have := old_le b l; omega
    · exact absurd (old_yes c) he
theorem old_take {n b : Int} : ∀ {l : List Sy}, Ok n l → (l.filter fun s => decide (s.a < b)) = l.take (old b l)
  | [], _ => rfl
  | s :: l, h => by
    obtain ⟨_, _, c, d⟩ := ok_cons.1 h
    unfold old
    by_cases e : s.a < b
    · rw [if_pos e, List.filter_cons_of_pos (by simpa using e), old_take d]; rfl
    · rw [if_neg e, List.filter_cons_of_neg (by simpa using e), List.take_zero, List.filter_eq_nil_iff]
      intro t ht
      have := (c t ht).2
      simp; omega
theorem old_drop {n b : Int} : ∀ {l : List Sy}, Ok n l → (l.filter fun s => !decide (s.a < b)) = l.drop (old b l)
  | [], _ => rfl
  | s :: l, h => by
    obtain ⟨_, _, c, d⟩ := ok_cons.1 h
    unfold old
    by_cases e : s.a < b
    · rw [if_pos e, List.filter_cons_of_neg (by simpa using e), old_drop d]; rfl
    · rw [if_neg e, List.filter_cons_of_pos (by simpa using e), List.drop_zero]
      congr 1
      rw [List.filter_eq_self]
      intro t ht
      have := (c t ht).2
      simp; omega

/-- is a time ahead of the last? -/
def late (l : List Sy) (now : Int) : Bool := l.any fun s => decide (now < s.a)
theorem late_iff {l : List Sy} {now : Int} : late l now = true ↔ ∃ s ∈ l, now < s.a := by unfold late; simp
theorem late_no {l : List Sy} {now : Int} : late l now = false ↔ ∀ s ∈ l, s.a ≤ now := by unfold late; simp
theorem late_last {n : Int} {l : List Sy} (h : Ok n l) (now : Int) (hp : 0 < l.length) : late l now = decide (now < (ax l (l.length - 1)).a) := by
  rw [Bool.eq_iff_iff, late_iff, decide_eq_true_eq]
  constructor
  · rintro ⟨s, hs, hn⟩
    obtain ⟨q, hq, rfl⟩ := mem_ax hs
    by_cases e : q = l.length - 1
    · rw [← e]; exact hn
    · have := ((ok_iff.1 h (l.length - 1) (by omega)).2.2 q (by omega)).2
      omega
  · intro hn
    exact ⟨_, ax_mem (by omega), hn⟩
theorem late_nil (now : Int) : late [] now = false := rfl
end Go.Proofs.Ytehiipnafckjbaa.am
