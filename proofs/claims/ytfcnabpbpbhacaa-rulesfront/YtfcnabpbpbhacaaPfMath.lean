/- Tries as trees: what is looked up, put in, told in order; how a tree is laid out. -/
import Derived.Below
namespace Go.Proofs.Ytfcnabpbpbhacaa.pm

inductive T where
  | nil : T
  | nd : Option Int → T → T → T

abbrev Pth := List Bool
abbrev Rw := List Bool × Int

def look : T → Pth → Option Int
  | .nil, _ => none
  | .nd s _ _, [] => s
  | .nd _ l _, false :: p => look l p
  | .nd _ _ r, true :: p => look r p
def has : T → Pth → Prop
  | .nil, _ => False
  | .nd _ _ _, [] => True
  | .nd _ l _, false :: p => has l p
  | .nd _ _ r, true :: p => has r p
def ins : T → Pth → Int → T
  | .nil, [], v => .nd (some v) .nil .nil
  | .nil, false :: p, v => .nd none (ins .nil p v) .nil
  | .nil, true :: p, v => .nd none .nil (ins .nil p v)
  | .nd _ l r, [], v => .nd (some v) l r
  | .nd s l r, false :: p, v => .nd s (ins l p v) r
  | .nd s l r, true :: p, v => .nd s l (ins r p v)
def wf : T → Prop
  | .nil => True
  | .nd s l r => (s = none → l = .nil → r = .nil → False) ∧ wf l ∧ wf r
def sz : T → Nat
  | .nil => 0
  | .nd _ l r => 1 + sz l + sz r
def ht : T → Nat
  | .nil => 0
  | .nd _ l r => 1 + max (ht l) (ht r)
def own (s : Option Int) : List Rw := match s with | none => [] | some v => [([], v)]
def cns (b : Bool) (x : Rw) : Rw := (b :: x.1, x.2)
def pre (p : Pth) (x : Rw) : Rw := (p ++ x.1, x.2)
def rows : T → List Rw
  | .nil => []
  | .nd s l r => own s ++ ((rows l).map (cns false) ++ (rows r).map (cns true))
def paths : T → List Pth
  | .nil => []
  | .nd _ l r => [] :: ((paths l).map (List.cons false) ++ (paths r).map (List.cons true))
/-- one path is ahead of another one: a beginning, or 0 where it has 1 -/
def lt : Pth → Pth → Prop
  | [], [] => False
  | [], _ :: _ => True
  | _ :: _, [] => False
  | false :: p, false :: q => lt p q
  | true :: p, true :: q => lt p q
  | false :: _, true :: _ => True
  | true :: _, false :: _ => False

theorem ins_ne (t : T) (p : Pth) (v : Int) : ins t p v ≠ .nil := by
  cases t <;> cases p <;> (try rename_i b p; cases b) <;> simp [ins]
theorem look_ins : ∀ (t : T) (p : Pth) (v : Int) (q : Pth), look (ins t p v) q = if q = p then some v else look t q := by
  intro t p
  induction p generalizing t with
  | nil =>
    intro v q
    cases t <;> cases q <;> (try rename_i b q; cases b) <;> simp [ins, look]
  | cons b p ih =>
    intro v q
    cases t <;> cases b <;> cases q <;> (try rename_i c q; cases c) <;> simp [ins, look, ih]
theorem wf_ins : ∀ (t : T) (p : Pth) (v : Int), wf t → wf (ins t p v) := by
  intro t p
  induction p generalizing t with
  | nil => intro v h; cases t <;> simp_all [ins, wf]
  | cons b p ih =>
    intro v h
    have h0 : wf (ins .nil p v) := ih .nil v trivial
    cases t <;> cases b <;> simp_all [ins, wf, ins_ne]
theorem sz_pos {t : T} (h : t ≠ .nil) : 0 < sz t := by
  cases t with
  | nil => exact absurd rfl h
  | nd s l r => simp only [sz]; omega
theorem sz_ins : ∀ (t : T) (p : Pth) (v : Int), sz (ins t p v) ≤ sz t + p.length + 1 := by
  intro t p
  induction p generalizing t with
  | nil => intro v; cases t <;> simp [ins, sz]
  | cons b p ih =>
    intro v
    cases t <;> cases b <;> simp only [ins, sz, List.length_cons]
    · have := ih .nil v; simp only [sz] at this; omega
    · have := ih .nil v; simp only [sz] at this; omega
    · rename_i s l r; have := ih l v; omega
    · rename_i s l r; have := ih r v; omega
theorem ht_ins : ∀ (t : T) (p : Pth) (v : Int), ht (ins t p v) ≤ max (ht t) (p.length + 1) := by
  intro t p
  induction p generalizing t with
  | nil => intro v; cases t <;> simp only [ins, ht, List.length_nil] <;> omega
  | cons b p ih =>
    intro v
    cases t <;> cases b <;> simp only [ins, ht, List.length_cons]
    · have := ih .nil v; simp only [ht] at this; omega
    · have := ih .nil v; simp only [ht] at this; omega
    · rename_i s l r; have := ih l v; omega
    · rename_i s l r; have := ih r v; omega
/-- a tree that is as small as it can be has a row -/
theorem wf_row : ∀ (t : T), wf t → t ≠ .nil → ∃ p v, look t p = some v := by
  intro t
  induction t with
  | nil => intro _ h; exact absurd rfl h
  | nd s l r ihl ihr =>
    intro h _
    cases s with
    | some v => exact ⟨[], v, rfl⟩
    | none =>
      by_cases hl : l = .nil
      · by_cases hr : r = .nil
        · exact absurd (h.1 rfl hl hr) id
        · obtain ⟨p, v, hp⟩ := ihr h.2.2 hr
          exact ⟨true :: p, v, hp⟩
      · obtain ⟨p, v, hp⟩ := ihl h.2.1 hl
        exact ⟨false :: p, v, hp⟩
theorem ext : ∀ (a b : T), wf a → wf b → (∀ p, look a p = look b p) → a = b := by
  intro a
  induction a with
  | nil =>
    intro b _ hb h
    by_cases hn : b = .nil
    · exact hn.symm
    · obtain ⟨p, v, hp⟩ := wf_row b hb hn
      rw [← h p] at hp
      simp [look] at hp
  | nd s l r ihl ihr =>
    intro b ha hb h
    cases b with
    | nil =>
      obtain ⟨p, v, hp⟩ := wf_row _ ha (by simp)
      rw [h p] at hp
      simp [look] at hp
    | nd s' l' r' =>
      have h0 : s = s' := h []
      have h1 := ihl l' ha.2.1 hb.2.1 (fun p => h (false :: p))
      have h2 := ihr r' ha.2.2 hb.2.2 (fun p => h (true :: p))
      rw [h0, h1, h2]
theorem mem_rows : ∀ (t : T) (p : Pth) (v : Int), (p, v) ∈ rows t ↔ look t p = some v := by
  intro t
  induction t with
  | nil => intro p v; simp [rows, look]
  | nd s l r ihl ihr =>
    intro p v
    cases p with
    | nil => cases s <;> simp [rows, look, own, cns, eq_comm]
    | cons b p =>
      cases b
      · simp only [look, ← ihl]
        cases s <;> simp [rows, own, cns]
      · simp only [look, ← ihr]
        cases s <;> simp [rows, own, cns]
theorem lt_irrefl : ∀ p : Pth, ¬ lt p p := by
  intro p
  induction p with
  | nil => simp [lt]
  | cons b p ih => cases b <;> simpa [lt] using ih
theorem lt_trans : ∀ {p q r : Pth}, lt p q → lt q r → lt p r := by
  intro p
  induction p with
  | nil =>
    intro q r h1 h2
    cases q with
    | nil => simp [lt] at h1
    | cons c q => cases r <;> cases c <;> (try rename_i d r; cases d) <;> simp_all [lt]
  | cons b p ih =>
    intro q r h1 h2
    cases q with
    | nil => cases b <;> simp [lt] at h1
    | cons c q =>
      cases r with
      | nil => cases c <;> simp [lt] at h2
      | cons d r =>
        cases b <;> cases c <;> cases d <;> simp_all only [lt]
        · exact ih h1 h2
        · exact ih h1 h2
theorem lt_tri : ∀ (p q : Pth), lt p q ∨ p = q ∨ lt q p := by
  intro p
  induction p with
  | nil => intro q; cases q <;> simp [lt]
  | cons b p ih =>
    intro q
    cases q with
    | nil => cases b <;> simp [lt]
    | cons c q => cases b <;> cases c <;> simp [lt, ih]
theorem rows_sorted : ∀ t : T, (rows t).Pairwise (fun x y => lt x.1 y.1) := by
  intro t
  induction t with
  | nil => simp [rows]
  | nd s l r ihl ihr =>
    have hl : ((rows l).map (cns false)).Pairwise (fun x y => lt x.1 y.1) := by
      rw [List.pairwise_map]; exact ihl.imp (fun h => h)
    have hr : ((rows r).map (cns true)).Pairwise (fun x y => lt x.1 y.1) := by
      rw [List.pairwise_map]; exact ihr.imp (fun h => h)
    have hlr : ((rows l).map (cns false) ++ (rows r).map (cns true)).Pairwise (fun x y => lt x.1 y.1) := by
      refine List.pairwise_append.2 ⟨hl, hr, fun x hx y hy => ?_⟩
      obtain ⟨x', _, rfl⟩ := List.mem_map.1 hx
      obtain ⟨y', _, rfl⟩ := List.mem_map.1 hy
      simp [cns, lt]
    unfold rows
    cases s with
    | none => simpa [own] using hlr
    | some v =>
      refine List.pairwise_append.2 ⟨by simp [own], hlr, fun x hx y hy => ?_⟩
      simp only [own, List.mem_singleton] at hx
      subst hx
      rcases List.mem_append.1 hy with h | h
      · obtain ⟨y', _, rfl⟩ := List.mem_map.1 h; simp [cns, lt]
      · obtain ⟨y', _, rfl⟩ := List.mem_map.1 h; simp [cns, lt]
theorem paths_sorted : ∀ t : T, (paths t).Pairwise lt := by
  intro t
  induction t with
  | nil => simp [paths]
  | nd s l r ihl ihr =>
    have hl : ((paths l).map (List.cons false)).Pairwise lt := by
      rw [List.pairwise_map]; exact ihl.imp (fun h => h)
    have hr : ((paths r).map (List.cons true)).Pairwise lt := by
      rw [List.pairwise_map]; exact ihr.imp (fun h => h)
    unfold paths
    refine List.pairwise_cons.2 ⟨fun y hy => ?_, List.pairwise_append.2 ⟨hl, hr, fun x hx y hy => ?_⟩⟩
    · rcases List.mem_append.1 hy with h | h
      · obtain ⟨y', _, rfl⟩ := List.mem_map.1 h; simp [lt]
      · obtain ⟨y', _, rfl⟩ := List.mem_map.1 h; simp [lt]
    · obtain ⟨x', _, rfl⟩ := List.mem_map.1 hx
      obtain ⟨y', _, rfl⟩ := List.mem_map.1 hy
      simp [lt]
theorem mem_paths : ∀ (t : T) (p : Pth), p ∈ paths t ↔ has t p := by
  intro t
  induction t with
  | nil => intro p; simp [paths, has]
  | nd s l r ihl ihr =>
    intro p
    cases p with
    | nil => simp [paths, has]
    | cons b p => cases b <;> simp [paths, has, ihl, ihr]
theorem paths_length : ∀ t : T, (paths t).length = sz t := by
  intro t
  induction t with
  | nil => rfl
  | nd s l r ihl ihr => simp [paths, sz, ihl, ihr]; omega
theorem rows_le : ∀ t : T, (rows t).length ≤ sz t := by
  intro t
  induction t with
  | nil => simp [rows, sz]
  | nd s l r ihl ihr => cases s <;> simp [rows, sz, own] <;> omega
theorem rows_len : ∀ (t : T) (x : Rw), x ∈ rows t → x.1.length + 1 ≤ ht t := by
  intro t
  induction t with
  | nil => intro x h; simp [rows] at h
  | nd s l r ihl ihr =>
    intro x h
    unfold rows at h
    rcases List.mem_append.1 h with h | h
    · cases s with
      | none => simp [own] at h
      | some v => simp only [own, List.mem_singleton] at h; subst h; simp [ht]
    · rcases List.mem_append.1 h with h | h
      · obtain ⟨y, hy, rfl⟩ := List.mem_map.1 h
        have := ihl y hy
        simp only [cns, List.length_cons, ht]; omega
      · obtain ⟨y, hy, rfl⟩ := List.mem_map.1 h
        have := ihr y hy
        simp only [cns, List.length_cons, ht]; omega
theorem look_has : ∀ (t : T) (p : Pth) (v : Int), look t p = some v → has t p := by
  intro t
  induction t with
  | nil => intro p v h; simp [look] at h
  | nd s l r ihl ihr =>
    intro p v h
    cases p with
    | nil => trivial
    | cons b p => cases b <;> first | exact ihl p v h | exact ihr p v h
theorem has_pre : ∀ (t : T) (p q : Pth), has t (p ++ q) → has t p := by
  intro t
  induction t with
  | nil => intro p q h; simp [has] at h
  | nd s l r ihl ihr =>
    intro p q h
    cases p with
    | nil => trivial
    | cons b p => cases b <;> first | exact ihl p q h | exact ihr p q h
/-- where there is a node there is a row by way of it -/
theorem has_row : ∀ (t : T) (p : Pth), wf t → has t p → ∃ q v, look t (p ++ q) = some v := by
  intro t
  induction t with
  | nil => intro p _ h; simp [has] at h
  | nd s l r ihl ihr =>
    intro p hw h
    cases p with
    | nil => obtain ⟨q, v, hq⟩ := wf_row _ hw (by simp); exact ⟨q, v, by simpa using hq⟩
    | cons b p => cases b <;> first | exact ihl p hw.2.1 h | exact ihr p hw.2.2 h
theorem has_ins : ∀ (t : T) (p : Pth) (v : Int) (q : Pth), has (ins t p v) q ↔ has t q ∨ q <+: p := by
  intro t p
  induction p generalizing t with
  | nil =>
    intro v q
    cases t <;> cases q <;> (try rename_i b q; cases b) <;> simp [ins, has]
  | cons b p ih =>
    intro v q
    cases t <;> cases b <;> cases q <;> (try rename_i c q; cases c) <;> simp [ins, has, ih, List.cons_prefix_cons]
def ofR (rs : List Rw) : T := rs.foldl (fun t x => ins t x.1 x.2) .nil
theorem ofR_snoc (rs : List Rw) (x : Rw) : ofR (rs ++ [x]) = ins (ofR rs) x.1 x.2 := by simp [ofR]
theorem snoc_ind {α : Type} {p : List α → Prop} (h0 : p []) (h1 : ∀ l x, p l → p (l ++ [x])) : ∀ l, p l := by
  intro l
  have : ∀ m : List α, p m.reverse := by
    intro m
    induction m with
    | nil => exact h0
    | cons x m ih => rw [List.reverse_cons]; exact h1 _ _ ih
  rw [← List.reverse_reverse l]; exact this _
theorem wf_ofR : ∀ rs : List Rw, wf (ofR rs) := by
  refine snoc_ind trivial fun l x ih => ?_
  rw [ofR_snoc]; exact wf_ins _ _ _ ih
theorem has_ofR (q : Pth) : ∀ rs : List Rw, has (ofR rs) q ↔ ∃ x ∈ rs, q <+: x.1 := by
  refine snoc_ind (by simp [ofR, has]) fun l x ih => ?_
  rw [ofR_snoc, has_ins, ih]
  simp only [List.mem_append, List.mem_singleton, or_and_right, exists_or, exists_eq_left]
theorem ht_ofR {k : Nat} : ∀ rs : List Rw, (∀ x ∈ rs, x.1.length ≤ k) → ht (ofR rs) ≤ k + 1 := by
  refine snoc_ind (by simp [ofR, ht]) fun l x ih h => ?_
  rw [ofR_snoc]
  have h1 := ih fun y hy => h y (by simp [hy])
  have h2 := h x (by simp)
  have := ht_ins (ofR l) x.1 x.2
  omega
theorem sz_ofR {k : Nat} : ∀ rs : List Rw, (∀ x ∈ rs, x.1.length ≤ k) → sz (ofR rs) ≤ rs.length * (k + 1) := by
  refine snoc_ind (by simp [ofR, sz]) fun l x ih h => ?_
  rw [ofR_snoc]
  have h1 := ih fun y hy => h y (by simp [hy])
  have h2 := h x (by simp)
  have := sz_ins (ofR l) x.1 x.2
  have e : (l ++ [x]).length * (k + 1) = l.length * (k + 1) + (k + 1) := by rw [List.length_append, List.length_singleton, Nat.succ_mul]
  omega
/-- of all rows of a path the last one's value -/
def lst (rs : List Rw) (q : Pth) : Option Int := rs.foldl (fun a x => if q = x.1 then some x.2 else a) none
theorem lst_snoc (rs : List Rw) (x : Rw) (q : Pth) : lst (rs ++ [x]) q = if q = x.1 then some x.2 else lst rs q := by simp [lst]
theorem look_ofR (q : Pth) : ∀ rs : List Rw, look (ofR rs) q = lst rs q := by
  refine snoc_ind (by simp [ofR, look, lst]) fun l x ih => ?_
  rw [ofR_snoc, look_ins, lst_snoc, ih]
theorem lst_mem (q : Pth) (v : Int) : ∀ rs : List Rw, lst rs q = some v → (q, v) ∈ rs := by
  refine snoc_ind (by simp [lst]) fun l x ih h => ?_
  rw [lst_snoc] at h
  split at h
  · rename_i e; cases h; subst e; simp
  · simp [ih h]
theorem lst_none (q : Pth) : ∀ rs : List Rw, lst rs q = none ↔ ∀ x ∈ rs, q ≠ x.1 := by
  refine snoc_ind (by simp [lst]) fun l x ih => ?_
  rw [lst_snoc]
  constructor
  · intro h
    split at h
    · cases h
    · rename_i hn
      intro y hy
      rcases List.mem_append.1 hy with hy | hy
      · exact ih.1 h y hy
      · simp only [List.mem_singleton] at hy; subst hy; exact hn
  · intro h
    rw [if_neg (h x (by simp))]
    exact ih.2 fun y hy => h y (by simp [hy])
/-- where no path comes twice each row counts -/
theorem lst_of_mem {rs : List Rw} (hs : rs.Pairwise (fun x y => lt x.1 y.1)) {q : Pth} {v : Int} (h : (q, v) ∈ rs) : lst rs q = some v := by
  cases hl : lst rs q with
  | none => exact absurd rfl ((lst_none q rs).1 hl _ h)
  | some u =>
    have h2 := lst_mem q u rs hl
    obtain ⟨i, hi, ei⟩ := List.mem_iff_getElem.1 h
    obtain ⟨j, hj, ej⟩ := List.mem_iff_getElem.1 h2
    have key := List.pairwise_iff_getElem.1 hs
    rcases Nat.lt_trichotomy i j with hij | rfl | hij
    · have := key i j hi hj hij
      rw [ei, ej] at this
      exact absurd this (lt_irrefl _)
    · rw [ei] at ej; cases ej; rfl
    · have := key j i hj hi hij
      rw [ei, ej] at this
      exact absurd this (lt_irrefl _)
theorem look_eq_lst (t : T) (q : Pth) : look t q = lst (rows t) q := by
  cases h : look t q with
  | some v => exact (lst_of_mem (rows_sorted t) ((mem_rows t q v).2 h)).symm
  | none =>
    refine Eq.symm ((lst_none q _).2 fun x hx e => ?_)
    have := (mem_rows t x.1 x.2).1 hx
    rw [← e, h] at this
    cases this
theorem ofR_rows {t : T} (h : wf t) : ofR (rows t) = t :=
  ext _ _ (wf_ofR _) h fun p => by rw [look_ofR, ← look_eq_lst]
/-- two orders of like members are one -/
theorem sorted_eq : ∀ (a b : List Pth), a.Pairwise lt → b.Pairwise lt → (∀ p, p ∈ a ↔ p ∈ b) → a = b := by
  intro a
  induction a with
  | nil =>
    intro b _ _ h
    cases b with
    | nil => rfl
    | cons y b => have := (h y).2 (by simp); simp at this
  | cons x a ih =>
    intro b ha hb h
    cases b with
    | nil => have := (h x).1 (by simp); simp at this
    | cons y b =>
      rw [List.pairwise_cons] at ha hb
      have exy : x = y := by
        rcases List.mem_cons.1 ((h x).1 (by simp)) with e | e
        · exact e
        · rcases List.mem_cons.1 ((h y).2 (by simp)) with e2 | e2
          · exact e2.symm
          · exact absurd (lt_trans (ha.1 y e2) (hb.1 x e)) (lt_irrefl _)
      subst exy
      rw [ih b ha.2 hb.2 fun p => ?_]
      have hp := h p
      simp only [List.mem_cons] at hp
      constructor
      · intro hpa
        rcases hp.1 (Or.inr hpa) with e | e
        · subst e; exact absurd (ha.1 p hpa) (lt_irrefl _)
        · exact e
      · intro hpb
        rcases hp.2 (Or.inr hpb) with e | e
        · subst e; exact absurd (hb.1 p hpb) (lt_irrefl _)
        · exact e
end Go.Proofs.Ytfcnabpbpbhacaa.pm
