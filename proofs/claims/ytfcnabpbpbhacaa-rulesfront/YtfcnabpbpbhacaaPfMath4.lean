/- What Put, Remove, Find and All answer, as functions of the nodes. -/
import Derived.Test.YtfcnabpbpbhacaaPfMath3
namespace Go.Proofs.Ytfcnabpbpbhacaa.pm

theorem seg_inj : ∀ (t u : T) (ns : List Nd) (o : Nat), Seg ns o t → Seg ns o u → (t = .nil ↔ u = .nil) → t = u := by
  intro t
  induction t with
  | nil => intro u ns o _ _ h; exact (h.1 rfl).symm
  | nd s l r ihl ihr =>
    intro u ns o h1 h2 h
    cases u with
    | nil => exact h.2 rfl
    | nd s' l' r' =>
      have e := h1.1.symm.trans h2.1
      simp only [hd, Option.some.injEq, Nd.mk.injEq] at e
      obtain ⟨e1, e2, e3, e4⟩ := e
      have hl : l = .nil ↔ l' = .nil := by rw [← way_nil (o := o + 1) (by omega), e1, way_nil (by omega)]
      have el := ihl l' ns (o + 1) h1.2.1 h2.2.1 hl
      subst el
      have hr : r = .nil ↔ r' = .nil := by rw [← way_nil (o := o + 1 + sz l) (by omega), e2, way_nil (by omega)]
      have er := ihr r' ns _ h1.2.2 h2.2.2 hr
      subst er
      have es : s = s' := by
        cases s <;> cases s' <;> simp_all
      rw [es]
theorem rt_uniq {ns : List Nd} {t u : T} (h : Rt ns t) (k : Rt ns u) : t = u := by
  obtain ⟨_, _, h3, _⟩ := h
  obtain ⟨_, _, k3, _⟩ := k
  refine seg_inj t u ns 0 (by rw [h3]; exact seg_self t) (by rw [k3]; exact seg_self u) ?_
  have e : sz t = sz u := by rw [← lay_length t 0, ← lay_length u 0, ← h3, ← k3]
  constructor
  · intro ht; subst ht
    by_cases hu : u = .nil
    · exact hu
    · have := sz_pos hu; simp only [sz] at e; omega
  · intro hu; subst hu
    by_cases ht : t = .nil
    · exact ht
    · have := sz_pos ht; simp only [sz] at e; omega
open Classical in
noncomputable def tree (ns : List Nd) : T := if h : ∃ t, Rt ns t then h.choose else .nil
theorem tree_rt {ns : List Nd} {t : T} (h : Rt ns t) : tree ns = t := by
  unfold tree
  have hx : ∃ t, Rt ns t := ⟨t, h⟩
  rw [dif_pos hx]
  exact rt_uniq hx.choose_spec h
theorem chk0 {ns : List Nd} (h : chk ns 2 4 = 0) : Rt ns (tree ns) := by
  rcases chk_cases ns 2 4 with ⟨t, h1, _⟩ | ⟨_, ⟨_, e⟩ | ⟨_, _, e⟩⟩
  · rw [tree_rt h1]; exact h1
  · rw [h] at e; cases e
  · rw [h] at e; cases e
theorem chk_ne {ns : List Nd} (h : ¬ chk ns 2 4 = 0) : chk ns 2 4 = 2 ∨ chk ns 2 4 = 4 := by
  rcases chk_cases ns 2 4 with ⟨t, _, e⟩ | ⟨_, ⟨_, e⟩ | ⟨_, _, e⟩⟩
  · exact absurd e h
  · exact Or.inl e
  · exact Or.inr e
/-- a tree that can be a trie's -/
structure Fine (t : T) : Prop where
  w : wf t
  h : ht t ≤ 33
  s : sz t ≤ 500
theorem Fine.rt {t : T} (h : Fine t) : Rt (lay 0 t) t := ⟨h.w, h.h, rfl, by rw [lay_length]; exact h.s⟩
theorem Rt.fine {ns : List Nd} {t : T} (h : Rt ns t) : Fine t := ⟨h.1, h.2.1, by have := h.2.2.2; rwa [h.2.2.1, lay_length] at this⟩
theorem tree_lay {t : T} (h : Fine t) : tree (lay 0 t) = t := tree_rt h.rt
theorem Fine.len {t : T} (h : Fine t) {x : Rw} (hx : x ∈ rows t) : x.1.length ≤ 32 := by have := rows_len t x hx; have := h.h; omega
/-- whether it is a net -/
def isN (a : Nat) (l : Int) : Bool := decide (0 ≤ l) && decide (l ≤ 32) && decide (a / 2 ^ (32 - l.toNat) * 2 ^ (32 - l.toNat) = a)
def path (a : Nat) (l : Int) : Pth := bts 32 a l.toNat
theorem isN_yes {a : Nat} {l : Int} (h : isN a l = true) (ha : a < 4294967296) : (path a l).length ≤ 32 ∧ a = ad 32 (path a l) ∧ l = ((path a l).length : Int) := by
  simp only [isN, Bool.and_eq_true, decide_eq_true_eq] at h
  obtain ⟨⟨h1, h2⟩, h3⟩ := h
  have e := bts_length 32 l.toNat a (by omega)
  unfold path
  exact ⟨by omega, by rw [ad_bts 32 _ a (by omega) ha, h3], by omega⟩
theorem bts_ad {p : Pth} (hp : p.length ≤ 32) : bts 32 (ad 32 p) p.length = p := by
  refine (bts_iff rfl hp (ad_lt 32 p)).2 ?_
  obtain ⟨q, hq⟩ := ad_dvd 32 p hp
  rw [hq, Nat.mul_div_cancel_left _ (Nat.two_pow_pos _), Nat.mul_comm]
theorem isN_path {p : Pth} (hp : p.length ≤ 32) : isN (ad 32 p) p.length = true ∧ path (ad 32 p) p.length = p := by
  refine ⟨?_, by unfold path; rw [Int.toNat_natCast]; exact bts_ad hp⟩
  have h := (bts_iff (a := ad 32 p) rfl hp (ad_lt 32 p)).1 (bts_ad hp)
  simp only [isN, Int.toNat_natCast, Bool.and_eq_true, decide_eq_true_eq]
  exact ⟨⟨by omega, by omega⟩, h⟩
/-- whether a row is a net's -/
def same (a : Nat) (l : Int) (p : Pth) : Bool := decide (ad 32 p = a) && decide ((p.length : Int) = l)
theorem same_iff {a : Nat} {l : Int} {p q : Pth} (ha : a = ad 32 q) (hl : l = (q.length : Int)) (hq : q.length ≤ 32) (hp : p.length ≤ 32) : same a l p = decide (p = q) := by
  subst ha; subst hl
  by_cases e : p = q
  · subst e; simp [same]
  · rw [decide_eq_false e]
    simp only [same, Bool.and_eq_false_iff, decide_eq_false_iff_not]
    by_cases h1 : ad 32 p = ad 32 q
    · right; intro h2; exact e (ad_inj hp hq h1 (by omega))
    · exact Or.inl h1
theorem same_no {a : Nat} {l : Int} {p : Pth} (h : isN a l = false) (hp : p.length ≤ 32) : same a l p = false := by
  by_cases hs : same a l p = true
  · simp only [same, Bool.and_eq_true, decide_eq_true_eq] at hs
    obtain ⟨h1, h2⟩ := hs
    have := (isN_path hp).1
    rw [h1, h2, h] at this
    cases this
  · simpa using hs
noncomputable def putE (ns : List Nd) (a : Nat) (l : Int) (v : Int) : Int :=
  if chk ns 2 4 ≠ 0 then chk ns 2 4 else if isN a l = false then 1 else if 500 < sz (ins (tree ns) (path a l) v) then 2 else 0
noncomputable def putL (ns : List Nd) (a : Nat) (l : Int) (v : Int) : List Nd := if putE ns a l v = 0 then lay 0 (ins (tree ns) (path a l) v) else []
/-- the tree without a net -/
def rmv (t : T) (a : Nat) (l : Int) : T := ofR ((rows t).filter fun x => !same a l x.1)
noncomputable def remE (ns : List Nd) (a : Nat) (l : Int) : Int := if chk ns 2 4 ≠ 0 then chk ns 2 4 else if (rows (tree ns)).any (fun x => same a l x.1) then 0 else 7
noncomputable def remL (ns : List Nd) (a : Nat) (l : Int) : List Nd := if remE ns a l = 0 then lay 0 (rmv (tree ns) a l) else []
/-- the last one of those that have an address -/
def fnd (c : Nat) (rs : List Rw) : Option Rw := rs.foldl (fun b x => if bts 32 c x.1.length = x.1 then some x else b) none
theorem fnd_snoc (c : Nat) (l : List Rw) (x : Rw) : fnd c (l ++ [x]) = if bts 32 c x.1.length = x.1 then some x else fnd c l := by simp [fnd]
noncomputable def findR (ns : List Nd) (c : Nat) : Option Rw := if chk ns 2 4 ≠ 0 then none else fnd c (rows (tree ns))
noncomputable def findE (ns : List Nd) (c : Nat) : Int := if chk ns 2 4 ≠ 0 then chk ns 2 4 else if (findR ns c).isSome then 0 else 7
noncomputable def allR (ns : List Nd) : List Rw := if chk ns 2 4 ≠ 0 then [] else rows (tree ns)
theorem but_same {a : Nat} {l : Int} {p : Pth} {t : T} (h : Fine t) (ha : a = ad 32 p) (hl : l = (p.length : Int)) (hp : p.length ≤ 32) : (rows t).filter (fun x => !same a l x.1) = but p (rows t) := by
  unfold but
  refine List.filter_congr fun x hx => ?_
  rw [same_iff ha hl hp (h.len hx), ← decide_not]
theorem rmv_rm {a : Nat} {l : Int} {p : Pth} {t : T} (h : Fine t) (ha : a = ad 32 p) (hl : l = (p.length : Int)) (hp : p.length ≤ 32) : rmv t a l = rm t p := by
  unfold rmv rm; rw [but_same h ha hl hp]
theorem sz_put (p : Pth) (v : Int) (t : T) (x : Rw) (hp : p.length ≤ 32) (hx : x.1.length ≤ 32) : sz (putN p v t x) ≤ sz t + 66 := by
  unfold putN
  have h1 := sz_ins (if ad 32 p < ad 32 x.1 then ins t p v else t) x.1 x.2
  split at h1 <;> rename_i hc
  · have h2 := sz_ins t p v
    rw [if_pos hc]; omega
  · rw [if_neg hc]; omega
/-- after so many rows -/
def acc (p : Pth) (v : Int) (rs : List Rw) (k : Nat) : T := (rs.take k).foldl (putN p v) .nil
theorem take_succ {α : Type} (l : List α) (k : Nat) (x : α) (h : l[k]? = some x) : l.take (k + 1) = l.take k ++ [x] := by
  rw [List.take_add_one, h]; rfl
theorem acc_step (p : Pth) (v : Int) (rs : List Rw) (k : Nat) (x : Rw) (h : rs[k]? = some x) : acc p v rs (k + 1) = putN p v (acc p v rs k) x := by
  unfold acc; rw [take_succ rs k x h, List.foldl_append]; rfl
theorem acc_pin (p : Pth) (v : Int) (rs : List Rw) : ∀ k, Pin p v (rs.take k) (acc p v rs k) := by
  intro k
  induction k with
  | zero => exact pin_nil p v
  | succ k ih =>
    cases h : rs[k]? with
    | none =>
      have hl := List.getElem?_eq_none_iff.1 h
      have e : rs.take (k + 1) = rs.take k := by rw [List.take_of_length_le (by omega), List.take_of_length_le hl]
      unfold acc at ih ⊢
      rw [e]; exact ih
    | some x => rw [acc_step p v rs k x h, take_succ rs k x h]; exact pin_step ih x
theorem acc_sz (p : Pth) (v : Int) (rs : List Rw) (hp : p.length ≤ 32) (hr : ∀ x ∈ rs, x.1.length ≤ 32) : ∀ k, k ≤ rs.length → sz (acc p v rs k) ≤ 66 * k := by
  intro k
  induction k with
  | zero => intro _; simp [acc, sz]
  | succ k ih =>
    intro hk
    have h : rs[k]? = some rs[k] := List.getElem?_eq_getElem (by omega)
    rw [acc_step p v rs k _ h]
    have h1 := sz_put p v (acc p v rs k) rs[k] hp (hr _ (List.getElem_mem _))
    have := ih (by omega)
    omega
theorem sorted_take {rs : List Rw} (hs : rs.Pairwise (fun x y => lt x.1 y.1)) {k : Nat} {x : Rw} (h : rs[k]? = some x) : ∀ y ∈ rs.take k, lt y.1 x.1 := by
  intro y hy
  obtain ⟨i, hi, e⟩ := List.mem_iff_getElem.1 hy
  have hk := (List.getElem?_eq_some_iff.1 h).1
  rw [List.length_take] at hi
  have := List.pairwise_iff_getElem.1 hs i k (by omega) hk (by omega)
  rw [List.getElem_take] at e
  rw [e, (List.getElem?_eq_some_iff.1 h).2] at this
  exact this
theorem acc_end {p : Pth} {v : Int} {t : T} (ht : wf t) : ins (acc p v (rows t) (rows t).length) p v = ins t p v := by
  have h := acc_pin p v (rows t) (rows t).length
  rw [List.take_length] at h
  exact pin_end h ht
end Go.Proofs.Ytfcnabpbpbhacaa.pm
