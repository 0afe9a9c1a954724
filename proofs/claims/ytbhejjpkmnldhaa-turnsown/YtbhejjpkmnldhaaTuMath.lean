/- Queues in turns as plain lists: what Check says, what one round does. -/
import Derived.Test.YtbhejjpkmnldhaaProg
namespace Go.Proofs.Ytbhejjpkmnldhaa.tu

structure Qu where
  sh : Int
  sv : Int
  l : List Int
structure Sn where
  i : Nat
  n : Int
def long (q : Qu) : Bool := decide (200 < q.l.length)
def wsz (n : Int) : Bool := decide (n < 1) || decide (1000000 < n)
def wnum (q : Qu) : Bool := (decide (q.sh < 1) || decide (1000000 < q.sh)) || q.l.any wsz
def wsv (q : Qu) : Bool := match q.l with
  | [] => decide (q.sv ≠ 0)
  | x :: _ => decide (q.sv < 0) || decide (x ≤ q.sv)
def big (L : List Qu) : Bool := decide (16 < L.length) || L.any long
def chk (L : List Qu) : Int := if big L then 2 else if L.any wnum then 1 else if L.any wsv then 4 else 0
/-- how many go, with so much saved; what is saved behind that -/
def cut : Int → List Int → Nat
  | _, [] => 0
  | s, x :: r => if x ≤ s then cut (s - x) r + 1 else 0
def lf : Int → List Int → Int
  | _, [] => 0
  | s, x :: r => if x ≤ s then lf (s - x) r else s
def many (q : Qu) : Nat := cut (q.sv + q.sh) q.l
def left (q : Qu) : Int := lf (q.sv + q.sh) q.l
def rq (q : Qu) : Qu := ⟨q.sh, left q, q.l.drop (many q)⟩
def sq (q : Qu) : List Int := q.l.take (many q)
def rnd (L : List Qu) : List Qu := L.map rq
def sfr : Nat → List Qu → List Sn
  | _, [] => []
  | i, q :: r => (sq q).map (Sn.mk i) ++ sfr (i + 1) r
def snt (L : List Qu) : List Sn := sfr 0 L
def putq (q : Qu) (n : Int) : Qu := ⟨q.sh, q.sv, q.l ++ [n]⟩

/-- a queue that is right -/
structure Fine (q : Qu) : Prop where
  len : q.l.length ≤ 200
  sh0 : 1 ≤ q.sh
  sh1 : q.sh ≤ 1000000
  sz : ∀ n ∈ q.l, 1 ≤ n ∧ n ≤ 1000000
  sv0 : 0 ≤ q.sv
  nil : q.l = [] → q.sv = 0
  hd : ∀ x r, q.l = x :: r → q.sv < x
theorem Fine.svm {q : Qu} (h : Fine q) : q.sv ≤ 1000000 := by
  cases e : q.l with
  | nil => rw [h.nil e]; decide
  | cons x r =>
    have h1 := h.hd x r e
    have h2 := (h.sz x (by rw [e]; simp)).2
    omega
theorem wnum_false {q : Qu} : wnum q = false ↔ (1 ≤ q.sh ∧ q.sh ≤ 1000000) ∧ ∀ n ∈ q.l, 1 ≤ n ∧ n ≤ 1000000 := by
  have h : (q.l.any wsz = false) ↔ ∀ n ∈ q.l, 1 ≤ n ∧ n ≤ 1000000 := by
    rw [List.any_eq_false]
    refine forall_congr' fun n => imp_congr_right fun _ => ?_
    simp only [wsz, Bool.or_eq_true, decide_eq_true_eq]
    omega
  unfold wnum
  rw [Bool.or_eq_false_iff, h, Bool.or_eq_false_iff, decide_eq_false_iff_not, decide_eq_false_iff_not]
  refine and_congr ?_ Iff.rfl
  omega
theorem wsv_false {q : Qu} : wsv q = false ↔ 0 ≤ q.sv ∧ (q.l = [] → q.sv = 0) ∧ ∀ x r, q.l = x :: r → q.sv < x := by
  unfold wsv
  cases e : q.l with
  | nil =>
    simp
    omega
  | cons x r =>
    simp only [Bool.or_eq_false_iff, decide_eq_false_iff_not, List.cons.injEq, reduceCtorEq, false_imp_iff, true_and]
    constructor
    · rintro ⟨a, b⟩
      exact ⟨by omega, fun y s ⟨h1, _⟩ => by omega⟩
    · rintro ⟨a, b⟩
      have := b x r ⟨rfl, rfl⟩
      omega
theorem chk_zero {L : List Qu} : chk L = 0 ↔ L.length ≤ 16 ∧ ∀ q ∈ L, Fine q := by
  have hb : big L = false ↔ L.length ≤ 16 ∧ ∀ q ∈ L, q.l.length ≤ 200 := by
    unfold big
    rw [Bool.or_eq_false_iff, decide_eq_false_iff_not, List.any_eq_false]
    refine and_congr (by omega) (forall_congr' fun q => imp_congr_right fun _ => ?_)
    simp only [long, decide_eq_true_eq]
    omega
  have hn : L.any wnum = false ↔ ∀ q ∈ L, (1 ≤ q.sh ∧ q.sh ≤ 1000000) ∧ ∀ n ∈ q.l, 1 ≤ n ∧ n ≤ 1000000 := by
    rw [List.any_eq_false]
    refine forall_congr' fun q => imp_congr_right fun _ => ?_
    rw [← wnum_false]; simp
  unfold chk
  constructor
  · intro h
    cases h1 : big L with
    | true => simp [h1] at h
    | false =>
      cases h2 : L.any wnum with
      | true => simp [h1, h2] at h
      | false =>
        cases h3 : L.any wsv with
        | true => simp [h1, h2, h3] at h
        | false =>
          obtain ⟨a, b⟩ := hb.1 h1
          have c := hn.1 h2
          rw [List.any_eq_false] at h3
          refine ⟨a, fun q hq => ?_⟩
          obtain ⟨d1, d2⟩ := c q hq
          obtain ⟨e1, e2, e3⟩ := wsv_false.1 (by simpa using h3 q hq)
          exact ⟨b q hq, d1.1, d1.2, d2, e1, e2, e3⟩
  · rintro ⟨a, b⟩
    have h1 := hb.2 ⟨a, fun q hq => (b q hq).len⟩
    have h2 := hn.2 fun q hq => ⟨⟨(b q hq).sh0, (b q hq).sh1⟩, (b q hq).sz⟩
    have h3 : L.any wsv = false := by
      rw [List.any_eq_false]
      intro q hq
      have := wsv_false.2 ⟨(b q hq).sv0, (b q hq).nil, (b q hq).hd⟩
      simp [this]
    simp [h1, h2, h3]

theorem cut_cons (s x : Int) (r : List Int) : cut s (x :: r) = if x ≤ s then cut (s - x) r + 1 else 0 := rfl
theorem lf_cons (s x : Int) (r : List Int) : lf s (x :: r) = if x ≤ s then lf (s - x) r else s := rfl
theorem cut_le : ∀ (l : List Int) (s : Int), cut s l ≤ l.length
  | [], _ => Nat.le_refl _
  | x :: r, s => by
    unfold cut
    split
    · have := cut_le r (s - x); simp; omega
    · simp
theorem lf_at : ∀ (l : List Int) (s : Int), 0 ≤ s → 0 ≤ lf s l ∧ (l.drop (cut s l) = [] → lf s l = 0) ∧ (∀ x r, l.drop (cut s l) = x :: r → lf s l < x) ∧ (l.drop (cut s l) ≠ [] → (l.take (cut s l)).sum + lf s l = s)
  | [], s, hs => ⟨Int.le_refl _, fun _ => rfl, fun x r h => by simp at h, fun h => absurd (by simp) h⟩
  | x :: r, s, hs => by
    unfold cut lf
    by_cases h : x ≤ s
    · rw [if_pos h, if_pos h]
      obtain ⟨a, b, c, d⟩ := lf_at r (s - x) (by omega)
      refine ⟨a, b, c, fun hn => ?_⟩
      have := d hn
      rw [List.take_succ_cons, List.sum_cons]
      omega
    · rw [if_neg h, if_neg h]
      refine ⟨hs, fun e => by simp at e, fun y t e => ?_, fun _ => by simp⟩
      simp only [List.drop_zero, List.cons.injEq] at e
      omega
theorem fine_rq {q : Qu} (h : Fine q) : Fine (rq q) := by
  obtain ⟨a, b, c, _⟩ := lf_at q.l (q.sv + q.sh) (by have := h.sv0; have := h.sh0; omega)
  refine ⟨?_, h.sh0, h.sh1, fun n hn => h.sz n (List.mem_of_mem_drop hn), a, b, c⟩
  show (q.l.drop (many q)).length ≤ 200
  rw [List.length_drop]
  have := h.len
  omega
theorem rnd_length (L : List Qu) : (rnd L).length = L.length := by simp [rnd]
theorem chk_rnd {L : List Qu} (h : chk L = 0) : chk (rnd L) = 0 := by
  obtain ⟨a, b⟩ := chk_zero.1 h
  refine chk_zero.2 ⟨by rw [rnd_length]; exact a, fun q hq => ?_⟩
  obtain ⟨p, hp, rfl⟩ := List.mem_map.1 hq
  exact fine_rq (b p hp)

/-- in the midst: k have gone, s is saved -/
structure St (S : Int) (l : List Int) (k : Nat) (s : Int) : Prop where
  le : k ≤ l.length
  ct : cut S l = k + cut s (l.drop k)
  ls : lf S l = lf s (l.drop k)
  s0 : 0 ≤ s
  s1 : s ≤ S
theorem st_zero {S : Int} {l : List Int} (h : 0 ≤ S) : St S l 0 S := ⟨Nat.zero_le _, by simp, by simp, h, Int.le_refl _⟩
theorem drop_at {l : List Int} {k : Nat} {x : Int} (h : l[k]? = some x) : l.drop k = x :: l.drop (k + 1) := by
  obtain ⟨h1, rfl⟩ := List.getElem?_eq_some_iff.1 h
  exact List.drop_eq_getElem_cons h1
theorem St.next {S s x : Int} {l : List Int} {k : Nat} (h : St S l k s) (hx : l[k]? = some x) (h1 : x ≤ s) (h0 : 0 ≤ x) : St S l (k + 1) (s - x) := by
  have e := drop_at hx
  have e1 := h.ct
  have e2 := h.ls
  rw [e, cut_cons, if_pos h1] at e1
  rw [e, lf_cons, if_pos h1] at e2
  exact ⟨(List.getElem?_eq_some_iff.1 hx).1, by rw [e1]; omega, e2, by omega, by have := h.s1; omega⟩
theorem St.stop {S s x : Int} {l : List Int} {k : Nat} (h : St S l k s) (hx : l[k]? = some x) (h1 : ¬ x ≤ s) : cut S l = k ∧ lf S l = s := by
  have e := drop_at hx
  have e1 := h.ct
  have e2 := h.ls
  rw [e, cut_cons, if_neg h1] at e1
  rw [e, lf_cons, if_neg h1] at e2
  exact ⟨e1, e2⟩
theorem St.all {S s : Int} {l : List Int} {k : Nat} (h : St S l k s) (hk : k = l.length) : cut S l = k ∧ lf S l = 0 := by
  have e1 := h.ct
  have e2 := h.ls
  rw [hk, List.drop_length] at e1 e2
  exact ⟨by rw [hk]; exact e1, e2⟩

theorem sfr_app : ∀ (L M : List Qu) (i : Nat), sfr i (L ++ M) = sfr i L ++ sfr (i + L.length) M
  | [], M, i => rfl
  | q :: L, M, i => by
    show (sq q).map (Sn.mk i) ++ sfr (i + 1) (L ++ M) = ((sq q).map (Sn.mk i) ++ sfr (i + 1) L) ++ sfr (i + (L.length + 1)) M
    rw [sfr_app L M (i + 1), List.append_assoc, show i + (L.length + 1) = i + 1 + L.length by omega]
theorem snt_succ {L : List Qu} {i : Nat} {q : Qu} (h : L[i]? = some q) : snt (L.take (i + 1)) = snt (L.take i) ++ (sq q).map (Sn.mk i) := by
  obtain ⟨h1, rfl⟩ := List.getElem?_eq_some_iff.1 h
  unfold snt
  rw [List.take_add_one, h, Option.toList, sfr_app]
  have e : (L.take i).length = i := by rw [List.length_take]; omega
  rw [e, Nat.zero_add]
  simp [sfr]
theorem sfr_mem : ∀ (L : List Qu) (i : Nat) (p : Sn), p ∈ sfr i L → (i ≤ p.i ∧ p.i < i + L.length) ∧ ∃ q ∈ L, p.n ∈ q.l
  | [], i, p, h => by simp [sfr] at h
  | q :: L, i, p, h => by
    rcases List.mem_append.1 h with h | h
    · obtain ⟨n, hn, rfl⟩ := List.mem_map.1 h
      exact ⟨⟨Nat.le_refl _, by simp⟩, q, by simp, List.mem_of_mem_take hn⟩
    · obtain ⟨⟨a, b⟩, r, hr, c⟩ := sfr_mem L (i + 1) p h
      exact ⟨⟨by omega, by simp; omega⟩, r, by simp [hr], c⟩
theorem snt_mem {L : List Qu} (h : chk L = 0) (p : Sn) (hp : p ∈ snt L) : p.i < L.length ∧ 1 ≤ p.n ∧ p.n ≤ 1000000 := by
  obtain ⟨⟨_, a⟩, q, hq, hn⟩ := sfr_mem L 0 p hp
  exact ⟨by omega, ((chk_zero.1 h).2 q hq).sz _ hn⟩
theorem sfr_len : ∀ (L : List Qu) (i : Nat), (∀ q ∈ L, q.l.length ≤ 200) → (sfr i L).length ≤ 200 * L.length
  | [], i, _ => by simp [sfr]
  | q :: L, i, h => by
    have h1 := sfr_len L (i + 1) fun r hr => h r (by simp [hr])
    have h2 := h q (by simp)
    show ((sq q).map (Sn.mk i) ++ sfr (i + 1) L).length ≤ _
    rw [List.length_append, List.length_map]
    have h3 : (sq q).length ≤ q.l.length := by unfold sq; rw [List.length_take]; omega
    rw [List.length_cons]
    omega
theorem snt_len {L : List Qu} (h : chk L = 0) : (snt L).length ≤ 3200 := by
  obtain ⟨a, b⟩ := chk_zero.1 h
  have := sfr_len L 0 fun q hq => (b q hq).len
  unfold snt
  omega
theorem snt_take_len {L : List Qu} (h : chk L = 0) (i : Nat) : (snt (L.take i)).length ≤ 3200 := by
  obtain ⟨a, b⟩ := chk_zero.1 h
  have := sfr_len (L.take i) 0 fun q hq => (b q (List.mem_of_mem_take hq)).len
  unfold snt
  rw [List.length_take] at this
  omega
end Go.Proofs.Ytbhejjpkmnldhaa.tu
