/- Check by way of the number behind; what is put in where it is the last one; rows put in, one after another. -/
import Derived.Test.YtfcnabpbpbhacaaPfMath2
namespace Go.Proofs.Ytfcnabpbpbhacaa.pm

def okN (x : Nd) : Prop := x.s = true ∨ (x.v = 0 ∧ ¬(x.a = 0 ∧ x.b = 0))
instance (x : Nd) : Decidable (okN x) := by unfold okN; infer_instance
def bst (f : Nat → Nat) (L e : Nat) (n : Int) : Nat := if n = 0 then e else if n ≠ (e : Int) ∨ (L : Int) ≤ n then 0 else f e
def bh (ns : List Nd) : Nat → Nat → Nat
  | 0, _ => 0
  | f + 1, i => match ns[i]? with
    | none => 0
    | some x => if okN x then (if bst (bh ns f) ns.length (i + 1) x.a = 0 then 0 else bst (bh ns f) ns.length (bst (bh ns f) ns.length (i + 1) x.a) x.b) else 0
theorem bh_some {ns : List Nd} {f i : Nat} {x : Nd} (h : ns[i]? = some x) : bh ns (f + 1) i = if okN x then (if bst (bh ns f) ns.length (i + 1) x.a = 0 then 0 else bst (bh ns f) ns.length (bst (bh ns f) ns.length (i + 1) x.a) x.b) else 0 := by
  simp only [bh, h]
theorem bst_sound {ns : List Nd} {f e : Nat} {n : Int}
    (ih : ∀ i e, bh ns f i = e → e ≠ 0 → ∃ t, t ≠ .nil ∧ wf t ∧ ht t ≤ f ∧ Seg ns i t ∧ e = i + sz t)
    (h : bst (bh ns f) ns.length e n ≠ 0) : ∃ t, wf t ∧ ht t ≤ f ∧ Seg ns e t ∧ n = way t e ∧ bst (bh ns f) ns.length e n = e + sz t := by
  unfold bst at h ⊢
  by_cases h0 : n = 0
  · exact ⟨.nil, trivial, Nat.zero_le _, trivial, by simpa [way] using h0, by simp [h0, sz]⟩
  · rw [if_neg h0] at h ⊢
    by_cases h1 : n ≠ (e : Int) ∨ (ns.length : Int) ≤ n
    · rw [if_pos h1] at h; exact absurd rfl h
    · rw [if_neg h1] at h ⊢
      obtain ⟨t, h2, h3, h4, h5, h6⟩ := ih _ _ rfl h
      exact ⟨t, h3, h4, h5, by rw [way_ne h2]; omega, h6⟩
theorem bh_sound (ns : List Nd) : ∀ f i e, bh ns f i = e → e ≠ 0 → ∃ t, t ≠ .nil ∧ wf t ∧ ht t ≤ f ∧ Seg ns i t ∧ e = i + sz t := by
  intro f
  induction f with
  | zero => intro i e h he; simp only [bh] at h; omega
  | succ f ih =>
    intro i e h he
    cases hx : ns[i]? with
    | none => simp only [bh, hx] at h; omega
    | some x =>
      rw [bh_some hx] at h
      by_cases hk : okN x
      · rw [if_pos hk] at h
        by_cases h1 : bst (bh ns f) ns.length (i + 1) x.a = 0
        · rw [if_pos h1] at h; omega
        · rw [if_neg h1] at h
          obtain ⟨l, l1, l2, l3, l4, l5⟩ := bst_sound ih h1
          rw [l5] at h
          obtain ⟨r, r1, r2, r3, r4, r5⟩ := bst_sound ih (n := x.b) (e := i + 1 + sz l) (by rw [h]; exact he)
          rw [r5] at h
          refine ⟨.nd (if x.s then some x.v else none) l r, by simp, ⟨fun hn hl hr => ?_, l1, r1⟩, by simp only [ht]; omega, ⟨?_, l3, r3⟩, by simp only [sz]; omega⟩
          · subst hl; subst hr
            rcases hk with hk | ⟨_, hk⟩
            · simp [hk] at hn
            · exact hk ⟨l4, r4⟩
          · rw [hx]
            obtain ⟨xa, xb, xs, xv⟩ := x
            simp only [hd, Option.some.injEq, Nd.mk.injEq]
            refine ⟨l4, r4, ?_, ?_⟩
            · cases xs <;> simp
            · rcases hk with hk | ⟨hk, _⟩
              · simp only at hk; subst hk; simp
              · simp only at hk; subst hk; cases xs <;> simp
      · rw [if_neg hk] at h; omega
theorem bh_whole (ns : List Nd) : ∀ t f i, t ≠ .nil → wf t → ht t ≤ f → Seg ns i t → bh ns f i = i + sz t := by
  intro t
  induction t with
  | nil => intro f i h; exact absurd rfl h
  | nd s l r ihl ihr =>
    intro f i _ hw hh hs
    cases f with
    | zero => simp [ht] at hh
    | succ f =>
      simp only [ht] at hh
      rw [bh_some hs.1]
      have hk : okN (hd s l r i) := by
        cases s with
        | some v => left; rfl
        | none =>
          right
          refine ⟨rfl, fun h => hw.1 rfl ((way_nil (by omega)).1 h.1) ((way_nil (by omega)).1 h.2)⟩
      have key : ∀ u e, 0 < e → wf u → ht u ≤ f → Seg ns e u → (∀ g j, u ≠ .nil → wf u → ht u ≤ g → Seg ns j u → bh ns g j = j + sz u) → bst (bh ns f) ns.length e (way u e) = e + sz u := by
        intro u e he hu hhu hsu ihu
        cases u with
        | nil => simp [bst, way, sz]
        | nd s' l' r' =>
          have hle := seg_le _ ns e hsu (by simp)
          have hp := sz_pos (t := .nd s' l' r') (by simp)
          unfold bst
          rw [way_ne (by simp), if_neg (by omega), if_neg (by omega)]
          exact ihu f e (by simp) hu hhu hsu
      have e1 := key l (i + 1) (by omega) hw.2.1 (by omega) hs.2.1 ihl
      have e2 := key r (i + 1 + sz l) (by omega) hw.2.2 (by omega) hs.2.2 ihr
      have e1' : bst (bh ns f) ns.length (i + 1) (hd s l r i).a = i + 1 + sz l := e1
      have e2' : bst (bh ns f) ns.length (i + 1 + sz l) (hd s l r i).b = i + 1 + sz l + sz r := e2
      rw [if_pos hk, if_neg (by rw [e1']; omega), e1', e2']
      simp only [sz]; omega
/-- a trie that is right: the one that this tree makes -/
def Rt (ns : List Nd) (t : T) : Prop := wf t ∧ ht t ≤ 33 ∧ ns = lay 0 t ∧ ns.length ≤ 500
def chk (ns : List Nd) (eL eF : Int) : Int := if ns.length = 0 then 0 else if 500 < ns.length then eL else if bh ns 33 0 ≠ ns.length then eF else 0
theorem rt_chk {ns : List Nd} {t : T} (h : Rt ns t) (eL eF : Int) : chk ns eL eF = 0 := by
  obtain ⟨h1, h2, rfl, h4⟩ := h
  unfold chk
  by_cases h0 : (lay 0 t).length = 0
  · rw [if_pos h0]
  · have hn : t ≠ .nil := by intro e; subst e; simp [lay] at h0
    rw [if_neg h0, if_neg (by omega), bh_whole _ t 33 0 hn h1 h2 (seg_self t), lay_length, if_neg (by omega)]
theorem chk_cases (ns : List Nd) (eL eF : Int) : (∃ t, Rt ns t ∧ chk ns eL eF = 0) ∨ ((¬ ∃ t, Rt ns t) ∧ ((500 < ns.length ∧ chk ns eL eF = eL) ∨ (0 < ns.length ∧ ns.length ≤ 500 ∧ chk ns eL eF = eF))) := by
  unfold chk
  by_cases h0 : ns.length = 0
  · left
    have : ns = [] := List.eq_nil_of_length_eq_zero h0
    subst this
    exact ⟨.nil, ⟨trivial, by simp [ht], rfl, by simp⟩, by simp⟩
  · rw [if_neg h0]
    by_cases h1 : 500 < ns.length
    · right
      refine ⟨fun ⟨t, ht⟩ => ?_, Or.inl ⟨h1, by rw [if_pos h1]⟩⟩
      have := ht.2.2.2; omega
    · rw [if_neg h1]
      by_cases h2 : bh ns 33 0 = ns.length
      · left
        obtain ⟨t, t1, t2, t3, t4, t5⟩ := bh_sound ns 33 0 _ rfl (by omega)
        refine ⟨t, ⟨t2, t3, seg_eq t4 (by omega), by omega⟩, by simp [h2]⟩
      · right
        refine ⟨fun ⟨t, h⟩ => h2 ?_, Or.inr ⟨by omega, by omega, by simp [h2]⟩⟩
        obtain ⟨t1, t2, t3, t4⟩ := h
        have hn : t ≠ .nil := by intro e; subst e; subst t3; simp [lay] at h0
        rw [t3, bh_whole _ t 33 0 hn t1 t2 (seg_self t), lay_length, Nat.zero_add]

/-- where it goes to there is none yet but at the end -/
def last : T → Pth → Prop
  | .nil, _ => True
  | .nd _ _ _, [] => True
  | .nd _ l r, false :: p => r = .nil ∧ last l p
  | .nd _ _ r, true :: p => last r p
theorem last_of : ∀ (t : T) (p : Pth), wf t → (∀ q v, look t q = some v → lt q p) → last t p := by
  intro t
  induction t with
  | nil => intro p _ _; simp [last]
  | nd s l r ihl ihr =>
    intro p hw h
    cases p with
    | nil => trivial
    | cons b p =>
      cases b
      · refine ⟨?_, ihl p hw.2.1 fun q v hq => h (false :: q) v hq⟩
        by_cases hr : r = .nil
        · exact hr
        · obtain ⟨q, v, hq⟩ := wf_row r hw.2.2 hr
          have := h (true :: q) v hq
          simp [lt] at this
      · exact ihr p hw.2.2 fun q v hq => h (true :: q) v hq
theorem fits {t : T} (hw : wf t) {p : Pth} (h : ∀ q v, look t q = some v → lt q p ∨ p <+: q) : has t p ∨ last t p := by
  by_cases hx : ∃ q v, look t q = some v ∧ p <+: q
  · obtain ⟨q, v, hq, r, rfl⟩ := hx
    exact Or.inl (has_pre t p r (look_has t _ v hq))
  · right
    refine last_of t p hw fun q v hq => ?_
    rcases h q v hq with h | h
    · exact h
    · exact absurd ⟨q, v, hq, h⟩ hx
theorem sz_has : ∀ (t : T) (p : Pth) (v : Int), has t p → sz (ins t p v) = sz t := by
  intro t
  induction t with
  | nil => intro p v h; simp [has] at h
  | nd s l r ihl ihr =>
    intro p v h
    cases p with
    | nil => rfl
    | cons b p => cases b <;> simp only [ins, sz] <;> first | rw [ihl p v h] | rw [ihr p v h]
theorem ins_z (p : Pth) (v : Int) : ins (.nd none .nil .nil) p v = ins .nil p v := by
  cases p with
  | nil => rfl
  | cons b p => cases b <;> rfl

/-- on the way: the node i, what is left of the path; what it comes to -/
def Goes (ns : List Nd) (i : Nat) (p : Pth) (v : Int) (R : List Nd) : Prop :=
  ∃ (A : List Nd) (S : T) (C : List Nd), S ≠ .nil ∧ A.length = i ∧ ns = A ++ (lay i S ++ C) ∧ (has S p ∨ (C = [] ∧ last S p)) ∧ R = A ++ (lay i (ins S p v) ++ C)
theorem last_z (p : Pth) : last (.nd none .nil .nil) p := by
  cases p with
  | nil => trivial
  | cons b p => cases b <;> simp [last]
theorem goes_start {t : T} {p : Pth} {v : Int} (hn : t ≠ .nil) (h : has t p ∨ last t p) : Goes (lay 0 t) 0 p v (lay 0 (ins t p v)) :=
  ⟨[], t, [], hn, rfl, by simp, h.imp id fun h => ⟨rfl, h⟩, by simp⟩
theorem goes_zero (p : Pth) (v : Int) : Goes [z0] 0 p v (lay 0 (ins .nil p v)) := by
  have := goes_start (t := .nd none .nil .nil) (p := p) (v := v) (by simp) (Or.inr (last_z p))
  rw [ins_z] at this
  exact this
theorem goes_lt {ns : List Nd} {i : Nat} {p : Pth} {v : Int} {R : List Nd} (h : Goes ns i p v R) : i < ns.length := by
  obtain ⟨A, S, C, hS, rfl, rfl, _, _⟩ := h
  have := sz_pos hS
  simp only [List.length_append, lay_length]; omega
theorem goes_get {i : Nat} {A C : List Nd} {s : Option Int} {l r : T} (hA : A.length = i) : (A ++ (lay i (.nd s l r) ++ C))[i]? = some (hd s l r i) := by
  subst hA
  simp [lay]
theorem goes_old {ns : List Nd} {i : Nat} {b : Bool} {p : Pth} {v : Int} {R : List Nd} {x : Nd} (h : Goes ns i (b :: p) v R) (hx : ns[i]? = some x) (hn : nx x b ≠ 0) :
    ∃ k : Nat, nx x b = (k : Int) ∧ Goes ns k p v R := by
  obtain ⟨A, S, C, hS, hA, rfl, hf, rfl⟩ := h
  cases S with
  | nil => exact absurd rfl hS
  | nd s l r =>
    rw [goes_get hA] at hx
    cases hx
    cases b
    · have hl : l ≠ .nil := fun e => hn (by subst e; rfl)
      refine ⟨i + 1, by show way l (i + 1) = _; rw [way_ne hl], A ++ [hd s l r i], l, lay (i + 1 + sz l) r ++ C, hl, by simp [hA], by simp [lay], ?_, ?_⟩
      · rcases hf with hf | ⟨h1, h2, h3⟩
        · exact Or.inl hf
        · exact Or.inr ⟨by subst h1; subst h2; rfl, h3⟩
      · have e1 : way (ins l p v) (i + 1) = way l (i + 1) := by rw [way_ne hl, way_ne (ins_ne _ _ _)]
        rcases hf with hf | ⟨h1, h2, h3⟩
        · have e2 := sz_has l p v hf
          simp only [ins, lay, hd, e1, e2]; simp
        · subst h2; subst h1
          simp only [ins, lay, hd, e1]; simp [way]
    · have hr : r ≠ .nil := fun e => hn (by subst e; rfl)
      refine ⟨i + 1 + sz l, by show way r (i + 1 + sz l) = _; rw [way_ne hr], A ++ [hd s l r i] ++ lay (i + 1) l, r, C, hr, by simp [hA, lay_length]; omega, by simp [lay], ?_, ?_⟩
      · exact hf
      · have e1 : way (ins r p v) (i + 1 + sz l) = way r (i + 1 + sz l) := by rw [way_ne hr, way_ne (ins_ne _ _ _)]
        simp only [ins, lay, hd, e1]; simp
theorem way_z (o : Nat) : way .nil o = 0 := rfl
theorem goes_new {ns : List Nd} {i : Nat} {b : Bool} {p : Pth} {v : Int} {R : List Nd} {x : Nd} (h : Goes ns i (b :: p) v R) (hx : ns[i]? = some x) (hn : nx x b = 0) :
    Goes (ns.set i (stN x b ns.length) ++ [z0]) ns.length p v R := by
  obtain ⟨A, S, C, hS, hA, hns, hf, hR⟩ := h
  cases S with
  | nil => exact absurd rfl hS
  | nd s l r =>
    have hx' := goes_get (A := A) (C := C) (s := s) (l := l) (r := r) hA
    rw [← hns, hx] at hx'
    cases hx'
    have hlast := last_z p
    cases b
    · have hl : l = .nil := (way_nil (by omega)).1 hn
      subst hl
      rcases hf with hf | ⟨rfl, rfl, h3⟩
      · simp [has] at hf
      · have e : ns.length = i + 1 := by rw [hns]; simp [lay, hA]
        have e1 : way (ins .nil p v) (i + 1) = ((i + 1 : Nat) : Int) := way_ne (ins_ne _ _ _)
        rw [e]
        refine ⟨A ++ [stN (hd s .nil .nil i) false (i + 1 : Nat)], .nd none .nil .nil, [], by simp, by simp [hA], ?_, Or.inr ⟨rfl, hlast⟩, ?_⟩
        · rw [hns]; subst hA; simp [lay, hd, way_z, stN]
        · rw [ins_z, hR]
          simp only [lay, ins, hd, stN, e1, way_z, Bool.false_eq_true, if_false]; simp
    · have hr : r = .nil := (way_nil (by omega)).1 hn
      subst hr
      rcases hf with hf | ⟨rfl, h3⟩
      · simp [has] at hf
      · have e : ns.length = i + 1 + sz l := by rw [hns]; simp only [List.length_append, lay_length, sz, hA, List.length_nil]; omega
        have e1 : way (ins .nil p v) (i + 1 + sz l) = ((i + 1 + sz l : Nat) : Int) := way_ne (ins_ne _ _ _)
        rw [e]
        refine ⟨A ++ [stN (hd s l .nil i) true (i + 1 + sz l : Nat)] ++ lay (i + 1) l, .nd none .nil .nil, [], by simp, by simp only [List.length_append, lay_length, hA, List.length_singleton], ?_, Or.inr ⟨rfl, hlast⟩, ?_⟩
        · rw [hns]; subst hA; simp [lay, hd, way_z, stN]
        · rw [ins_z, hR]
          simp only [lay, ins, hd, stN, e1, way_z, if_true]; simp
theorem goes_end {ns : List Nd} {i : Nat} {v : Int} {R : List Nd} {x : Nd} (h : Goes ns i [] v R) (hx : ns[i]? = some x) : R = ns.set i { x with s := true, v := v } := by
  obtain ⟨A, S, C, hS, hA, rfl, hf, rfl⟩ := h
  cases S with
  | nil => exact absurd rfl hS
  | nd s l r =>
    rw [goes_get hA] at hx
    cases hx
    subst hA
    simp [lay, ins, hd]

/- rows, one after another -/
def putN (p : Pth) (v : Int) (t : T) (x : Rw) : T := ins (if ad 32 p < ad 32 x.1 then ins t p v else t) x.1 x.2
structure Pin (p : Pth) (v : Int) (d : List Rw) (a : T) : Prop where
  w : wf a
  m : ∀ q u, look a q = some u → (∃ x ∈ d, x.1 = q) ∨ (q = p ∧ ∃ x ∈ d, ad 32 p < ad 32 x.1)
  g : (∃ x ∈ d, ad 32 p < ad 32 x.1) → has a p
  l : ∀ q, q ≠ p → look a q = lst d q
theorem pin_nil (p : Pth) (v : Int) : Pin p v [] .nil := ⟨trivial, by simp [look], by simp, by simp [look, lst]⟩
theorem pin_step {p : Pth} {v : Int} {d : List Rw} {a : T} (h : Pin p v d a) (x : Rw) : Pin p v (d ++ [x]) (putN p v a x) := by
  unfold putN
  refine ⟨wf_ins _ _ _ (by split; exact wf_ins _ _ _ h.w; exact h.w), fun q u hq => ?_, fun hg => ?_, fun q hq => ?_⟩
  · rw [look_ins] at hq
    by_cases e : q = x.1
    · exact Or.inl ⟨x, by simp, e.symm⟩
    · rw [if_neg e] at hq
      have key : look a q = some u → (∃ y ∈ d ++ [x], y.1 = q) ∨ (q = p ∧ ∃ y ∈ d ++ [x], ad 32 p < ad 32 y.1) := by
        intro hq
        rcases h.m q u hq with ⟨y, hy, e2⟩ | ⟨e1, y, hy, e2⟩
        · exact Or.inl ⟨y, by simp [hy], e2⟩
        · exact Or.inr ⟨e1, y, by simp [hy], e2⟩
      split at hq
      · rename_i hc
        rw [look_ins] at hq
        by_cases e3 : q = p
        · exact Or.inr ⟨e3, x, by simp, hc⟩
        · rw [if_neg e3] at hq; exact key hq
      · exact key hq
  · rw [has_ins]
    left
    split
    · rw [has_ins]; right; exact List.prefix_refl _
    · rename_i hc
      obtain ⟨y, hy, e⟩ := hg
      rcases List.mem_append.1 hy with hy | hy
      · exact h.g ⟨y, hy, e⟩
      · simp only [List.mem_singleton] at hy; subst hy; exact absurd e hc
  · rw [look_ins, lst_snoc]
    by_cases e : q = x.1
    · rw [if_pos e, if_pos e]
    · rw [if_neg e, if_neg e]
      split
      · rw [look_ins, if_neg hq]; exact h.l q hq
      · exact h.l q hq
theorem pin_p {p : Pth} {v : Int} {d : List Rw} {a : T} (h : Pin p v d a) (hp : p.length ≤ 32) (hd : ∀ x ∈ d, x.1.length ≤ 32) : has a p ∨ last a p := by
  by_cases hg : ∃ x ∈ d, ad 32 p < ad 32 x.1
  · exact Or.inl (h.g hg)
  · refine fits h.w fun q u hq => ?_
    rcases h.m q u hq with ⟨x, hx, rfl⟩ | ⟨rfl, _⟩
    · rcases lt_tri x.1 p with h1 | h1 | h1
      · exact Or.inl h1
      · rw [h1]; exact Or.inr (List.prefix_refl _)
      · rcases lt_ad 32 p x.1 hp (hd x hx) h1 with h2 | ⟨_, h2, _⟩
        · exact absurd ⟨x, hx, h2⟩ hg
        · exact Or.inr h2
    · exact Or.inr (List.prefix_refl _)
theorem pin_x {p : Pth} {v : Int} {d : List Rw} {a : T} (h : Pin p v d a) (hp : p.length ≤ 32) {x : Rw} (hd : ∀ y ∈ d, y.1.length ≤ 32) (hx : x.1.length ≤ 32) (hs : ∀ y ∈ d, lt y.1 x.1) :
    has (if ad 32 p < ad 32 x.1 then ins a p v else a) x.1 ∨ last (if ad 32 p < ad 32 x.1 then ins a p v else a) x.1 := by
  have key : ∀ q u, look a q = some u → lt q x.1 ∨ x.1 <+: q := by
    intro q u hq
    rcases h.m q u hq with ⟨y, hy, rfl⟩ | ⟨rfl, y, hy, e⟩
    · exact Or.inl (hs y hy)
    · left
      have hle : ad 32 y.1 ≤ ad 32 x.1 := by rcases lt_ad 32 y.1 x.1 (hd y hy) hx (hs y hy) with h | ⟨h, _⟩ <;> omega
      rcases lt_tri q x.1 with h1 | h1 | h1
      · exact h1
      · subst h1; omega
      · rcases lt_ad 32 x.1 q hx hp h1 with h2 | ⟨h2, _⟩ <;> omega
  split
  · rename_i hc
    refine fits (wf_ins _ _ _ h.w) fun q u hq => ?_
    rw [look_ins] at hq
    by_cases e : q = p
    · subst e
      left
      rcases lt_tri q x.1 with h1 | h1 | h1
      · exact h1
      · rw [h1] at hc; omega
      · rcases lt_ad 32 x.1 q hx hp h1 with h2 | ⟨h2, _⟩ <;> omega
    · rw [if_neg e] at hq; exact key q u hq
  · exact fits h.w key
theorem pin_end {p : Pth} {v : Int} {t a : T} (h : Pin p v (rows t) a) (ht : wf t) : ins a p v = ins t p v := by
  refine ext _ _ (wf_ins _ _ _ h.w) (wf_ins _ _ _ ht) fun q => ?_
  rw [look_ins, look_ins]
  by_cases e : q = p
  · rw [if_pos e, if_pos e]
  · rw [if_neg e, if_neg e, h.l q e, ← look_eq_lst]
/-- those but one -/
def but (p : Pth) (rs : List Rw) : List Rw := rs.filter fun x => decide (x.1 ≠ p)
theorem lst_but (p q : Pth) : ∀ rs : List Rw, lst (but p rs) q = if q = p then none else lst rs q := by
  refine snoc_ind (by simp [but, lst]) fun l x ih => ?_
  have e : but p (l ++ [x]) = but p l ++ (if x.1 = p then [] else [x]) := by
    simp only [but, List.filter_append, List.filter_cons, List.filter_nil]
    by_cases h : x.1 = p <;> simp [h]
  rw [e]
  by_cases h : x.1 = p
  · rw [if_pos h, List.append_nil, ih, lst_snoc]
    by_cases h2 : q = p
    · rw [if_pos h2, if_pos h2]
    · rw [if_neg h2, if_neg h2, if_neg (by rw [h]; exact h2)]
  · rw [if_neg h, lst_snoc, lst_snoc, ih]
    by_cases h3 : q = x.1
    · rw [if_pos h3, if_pos h3, if_neg (by rw [h3]; exact h)]
    · rw [if_neg h3, if_neg h3]
def rm (t : T) (p : Pth) : T := ofR (but p (rows t))
theorem look_rm (t : T) (p q : Pth) : look (rm t p) q = if q = p then none else look t q := by
  unfold rm
  rw [look_ofR, lst_but, ← look_eq_lst]
theorem fit_r {d : List Rw} {x : Rw} (hs : ∀ y ∈ d, lt y.1 x.1) : has (ofR d) x.1 ∨ last (ofR d) x.1 := by
  refine fits (wf_ofR d) fun q u hq => ?_
  rw [look_ofR] at hq
  exact Or.inl (hs _ (lst_mem q u d hq))
theorem but_snoc (p : Pth) (l : List Rw) (x : Rw) : but p (l ++ [x]) = if x.1 = p then but p l else but p l ++ [x] := by
  simp only [but, List.filter_append, List.filter_cons, List.filter_nil]
  by_cases h : x.1 = p <;> simp [h]
/-- by the document's answer -/
theorem ref_put {t : T} (ht : wf t) (p : Pth) (v : Int) : ofR (but p (rows t) ++ [(p, v)]) = ins t p v := by
  rw [ofR_snoc]
  refine ext _ _ (wf_ins _ _ _ (wf_ofR _)) (wf_ins _ _ _ ht) fun q => ?_
  rw [look_ins, look_ins, look_ofR, lst_but, ← look_eq_lst]
  by_cases e : q = p
  · rw [if_pos e, if_pos e]
  · rw [if_neg e, if_neg e, if_neg e]
end Go.Proofs.Ytfcnabpbpbhacaa.pm
