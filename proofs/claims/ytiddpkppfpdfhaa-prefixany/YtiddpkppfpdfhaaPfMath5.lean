/- What is put in and removed, in turns: the mathematics of the laws. -/
import Derived.Test.YtiddpkppfpdfhaaPfMath4
namespace Go.Proofs.Ytiddpkppfpdfhaa.pm

theorem Fine.ins {t : T} (h : Fine t) {p : Pth} (hp : p.length ≤ 32) {v : Int} (hs : ¬ 500 < sz (ins t p v)) : Fine (ins t p v) :=
  ⟨wf_ins _ _ _ h.w, by have := ht_ins t p v; have := h.h; omega, by omega⟩
theorem put_of {ns : List Nd} {t : T} (h : Rt ns t) {p : Pth} (hp : p.length ≤ 32) (v : Int) :
    putE ns (ad 32 p) p.length v = (if 500 < sz (ins t p v) then 2 else 0) ∧ putL ns (ad 32 p) p.length v = if 500 < sz (ins t p v) then [] else lay 0 (ins t p v) := by
  have hn := isN_path hp
  have e : putE ns (ad 32 p) p.length v = if 500 < sz (ins t p v) then 2 else 0 := by
    unfold putE; rw [rt_chk h, tree_rt h, hn.2, if_neg (by decide), if_neg (by rw [hn.1]; decide)]
  refine ⟨e, ?_⟩
  unfold putL
  rw [e, tree_rt h, hn.2]
  split <;> simp
theorem put0 {ns : List Nd} {a : Nat} {l v : Int} (h : putE ns a l v = 0) (ha : a < 4294967296) : ∃ t p, Rt ns t ∧ p.length ≤ 32 ∧ a = ad 32 p ∧ l = (p.length : Int) ∧ ¬ 500 < sz (ins t p v) ∧ putL ns a l v = lay 0 (ins t p v) := by
  by_cases hc : chk ns 2 4 = 0
  · have hr := chk0 hc
    by_cases hn : isN a l = true
    · obtain ⟨h1, h2, h3⟩ := isN_yes hn ha
      have hp := put_of hr h1 v
      rw [← h2, ← h3] at hp
      by_cases hs : 500 < sz (ins (tree ns) (path a l) v)
      · rw [hp.1, if_pos hs] at h; cases h
      · exact ⟨tree ns, path a l, hr, h1, h2, h3, hs, by rw [hp.2, if_neg hs]⟩
    · unfold putE at h
      rw [hc, if_neg (by decide), if_pos (by simpa using hn)] at h; cases h
  · unfold putE at h
    rw [if_pos hc] at h; exact absurd h hc
theorem any_look {t : T} (h : Fine t) {p : Pth} (hp : p.length ≤ 32) : (rows t).any (fun x => same (ad 32 p) p.length x.1) = (look t p).isSome := by
  rw [Bool.eq_iff_iff, List.any_eq_true]
  constructor
  · rintro ⟨x, hx, e⟩
    rw [same_iff rfl rfl hp (h.len hx), decide_eq_true_eq] at e
    rw [← e, (mem_rows t x.1 x.2).1 hx]; rfl
  · intro e
    obtain ⟨v, hv⟩ := Option.isSome_iff_exists.1 e
    exact ⟨(p, v), (mem_rows t p v).2 hv, by rw [same_iff rfl rfl hp hp]; simp⟩
theorem rem_of {ns : List Nd} {t : T} (h : Rt ns t) {p : Pth} (hp : p.length ≤ 32) :
    remE ns (ad 32 p) p.length = (if (look t p).isSome then 0 else 7) ∧ remL ns (ad 32 p) p.length = if (look t p).isSome then lay 0 (rm t p) else [] := by
  have e : remE ns (ad 32 p) p.length = if (look t p).isSome then 0 else 7 := by
    unfold remE; rw [rt_chk h, tree_rt h, if_neg (by decide), any_look h.fine hp]
  refine ⟨e, ?_⟩
  unfold remL
  rw [e, tree_rt h, rmv_rm h.fine rfl rfl hp]
  split <;> simp
theorem rm_ins {t : T} (h : wf t) {p : Pth} {v : Int} (hn : look t p = none) : rm (ins t p v) p = t := by
  refine ext _ _ (wf_ofR _) h fun q => ?_
  rw [look_rm, look_ins]
  by_cases e : q = p
  · rw [if_pos e, e, hn]
  · rw [if_neg e, if_neg e]
theorem ins_swap {t : T} (h : wf t) {p q : Pth} (hpq : p ≠ q) (v u : Int) : ins (ins t p v) q u = ins (ins t q u) p v := by
  refine ext _ _ (wf_ins _ _ _ (wf_ins _ _ _ h)) (wf_ins _ _ _ (wf_ins _ _ _ h)) fun x => ?_
  rw [look_ins, look_ins, look_ins, look_ins]
  by_cases e1 : x = p
  · rw [if_pos e1, if_pos e1, if_neg (by rw [e1]; exact hpq)]
  · rw [if_neg e1, if_neg e1]
/-- put in and removed again, and whatever the order -/
theorem any_spec {ns : List Nd} {a b : Nat} {l k v u : Int} (ha : a < 4294967296) (hb : b < 4294967296) (h : putE ns a l v = 0) :
    remE (putL ns a l v) a l = 0 ∧ (remE ns a l = 7 → remL (putL ns a l v) a l = ns) ∧
    (putE (putL ns a l v) b k u = 0 → putE ns b k u = 0 → ¬ (a = b ∧ l = k) → putE (putL ns b k u) a l v = 0 ∧ putL (putL ns a l v) b k u = putL (putL ns b k u) a l v) := by
  obtain ⟨t, p, hr, hp, rfl, rfl, hs, hL⟩ := put0 h ha
  have hf := hr.fine.ins hp hs
  rw [hL]
  have hm := rem_of hf.rt hp
  have hl : look (ins t p v) p = some v := by rw [look_ins, if_pos rfl]
  refine ⟨by rw [hm.1, hl]; rfl, fun h7 => ?_, fun h1 h2 hne => ?_⟩
  · have hm0 := (rem_of hr hp).1
    rw [hm0] at h7
    have hn : look t p = none := by
      cases e : look t p with
      | none => rfl
      | some x => rw [e] at h7; simp at h7
    rw [hm.2, hl, Option.isSome_some, if_pos rfl, rm_ins hr.fine.w hn, hr.2.2.1]
  · obtain ⟨t2, q, hr2, hq, rfl, rfl, hs2, hL2⟩ := put0 h2 hb
    obtain rfl := rt_uniq hr hr2
    have hpq : p ≠ q := fun e => hne ⟨by rw [e], by rw [e]⟩
    have hf2 := hr.fine.ins hq hs2
    have hp1 := put_of hf.rt hq u
    have hp2 := put_of hf2.rt hp v
    rw [hL2]
    rw [hp1.1] at h1
    have hs3 : ¬ 500 < sz (ins (ins t p v) q u) := fun e => by rw [if_pos e] at h1; cases h1
    rw [hp2.1, hp2.2, hp1.2, ← ins_swap hr.fine.w hpq v u, if_neg hs3, if_neg hs3]
    exact ⟨rfl, rfl⟩
theorem sz_sub : ∀ (a b : T), (∀ p, has a p → has b p) → sz a ≤ sz b := by
  intro a
  induction a with
  | nil => intro b _; simp [sz]
  | nd s l r ihl ihr =>
    intro b h
    cases b with
    | nil => exact absurd (h [] trivial) (by simp [has])
    | nd s' l' r' =>
      have h1 := ihl l' fun p hp => h (false :: p) hp
      have h2 := ihr r' fun p hp => h (true :: p) hp
      simp only [sz]; omega
/-- a trie made of its rows, the last one first -/
def back (t : T) (i : Nat) : T := ofR ((rows t).reverse.take i)
theorem back_fine {t : T} (h : Fine t) (i : Nat) : Fine (back t i) := by
  have hm : ∀ x ∈ (rows t).reverse.take i, x ∈ rows t := fun x hx => List.mem_reverse.1 (List.mem_of_mem_take hx)
  refine ⟨wf_ofR _, ht_ofR _ fun x hx => h.len (hm x hx), Nat.le_trans (sz_sub _ t fun p hp => ?_) h.s⟩
  obtain ⟨x, hx, q, e⟩ := (has_ofR p _).1 hp
  refine has_pre t p q ?_
  rw [e]
  exact look_has t _ _ ((mem_rows t x.1 x.2).1 (hm x hx))
theorem back_step {t : T} {i : Nat} {x : Rw} (h : (rows t).reverse[i]? = some x) : back t (i + 1) = ins (back t i) x.1 x.2 := by
  unfold back; rw [take_succ _ i x h, ofR_snoc]
theorem lst_perm {rs m : List Rw} (hs : rs.Pairwise (fun x y => lt x.1 y.1)) (hm : ∀ x, x ∈ m ↔ x ∈ rs) (q : Pth) : lst m q = lst rs q := by
  cases h : lst rs q with
  | none => exact (lst_none q m).2 fun x hx => (lst_none q rs).1 h x ((hm x).1 hx)
  | some v =>
    have h1 := lst_mem q v rs h
    cases h2 : lst m q with
    | none => exact absurd rfl ((lst_none q m).1 h2 _ ((hm _).2 h1))
    | some u =>
      have h3 := (hm _).1 (lst_mem q u m h2)
      have := lst_of_mem hs h3
      rw [h] at this
      exact this.symm
theorem back_end {t : T} (h : wf t) : back t (rows t).length = t := by
  refine ext _ _ (wf_ofR _) h fun q => ?_
  unfold back
  rw [List.take_of_length_le (by simp), look_ofR, look_eq_lst, lst_perm (rows_sorted t) (fun x => List.mem_reverse)]
/-- rows follow each other -/
theorem rows_next {t : T} (h : Fine t) {i : Nat} {x y : Rw} (hx : (rows t)[i]? = some x) (hy : (rows t)[i + 1]? = some y) : ad 32 x.1 < ad 32 y.1 ∨ (ad 32 x.1 = ad 32 y.1 ∧ x.1.length < y.1.length) := by
  obtain ⟨hi, ex⟩ := List.getElem?_eq_some_iff.1 hx
  obtain ⟨hj, ey⟩ := List.getElem?_eq_some_iff.1 hy
  have := List.pairwise_iff_getElem.1 (rows_sorted t) i (i + 1) hi hj (by omega)
  rw [ex, ey] at this
  rcases lt_ad 32 x.1 y.1 (h.len (List.mem_of_getElem? hx)) (h.len (List.mem_of_getElem? hy)) this with h1 | ⟨h1, _, h2⟩
  · exact Or.inl h1
  · exact Or.inr ⟨h1, h2⟩
/-- of those that have an address a later one is longer -/
theorem longer {t : T} (h : Fine t) {c i j : Nat} {x y : Rw} (hij : i < j) (hx : (rows t)[i]? = some x) (hy : (rows t)[j]? = some y) (h1 : bts 32 c x.1.length = x.1) (h2 : bts 32 c y.1.length = y.1) : x.1.length < y.1.length := by
  obtain ⟨hi, ex⟩ := List.getElem?_eq_some_iff.1 hx
  obtain ⟨hj, ey⟩ := List.getElem?_eq_some_iff.1 hy
  have hl := List.pairwise_iff_getElem.1 (rows_sorted t) i j hi hj hij
  rw [ex, ey] at hl
  by_cases hle : y.1.length ≤ x.1.length
  · have hp : y.1 <+: x.1 := by
      have e3 := bts_take 32 y.1.length x.1.length c hle (h.len (List.mem_of_getElem? hx))
      rw [h1, h2] at e3
      rw [← e3]
      exact List.take_prefix _ _
    obtain ⟨z, hz⟩ := hp
    rcases lt_ad 32 x.1 y.1 (h.len (List.mem_of_getElem? hx)) (h.len (List.mem_of_getElem? hy)) hl with h3 | ⟨_, _, h3⟩
    · exfalso
      have : ¬ lt x.1 y.1 := by
        rw [← hz]
        have key : ∀ (p q : Pth), ¬ lt (p ++ q) p := by
          intro p
          induction p with
          | nil => intro q; cases q <;> (try rename_i b q; cases b) <;> simp [lt]
          | cons b p ih => intro q; cases b <;> simpa [lt] using ih q
        exact key y.1 z
      exact this hl
    · exact h3
  · omega
theorem fnd_spec {c : Nat} : ∀ rs : List Rw, (fnd c rs = none ↔ ∀ x ∈ rs, ¬ bts 32 c x.1.length = x.1) ∧ ∀ x, fnd c rs = some x → ∃ j : Nat, rs[j]? = some x ∧ bts 32 c x.1.length = x.1 := by
  refine snoc_ind ⟨by simp [fnd], fun x h => by simp [fnd] at h⟩ fun l x ih => ?_
  rw [fnd_snoc]
  by_cases h : bts 32 c x.1.length = x.1
  · rw [if_pos h]
    refine ⟨⟨(fun e => by cases e), fun e => absurd h (e x (by simp))⟩, fun y e => ?_⟩
    cases e
    exact ⟨l.length, by simp, h⟩
  · rw [if_neg h]
    refine ⟨ih.1.trans ⟨fun e y hy => ?_, fun e y hy => e y (by simp [hy])⟩, fun y e => ?_⟩
    · rcases List.mem_append.1 hy with hy | hy
      · exact e y hy
      · simp only [List.mem_singleton] at hy; subst hy; exact h
    · obtain ⟨j, hj, e2⟩ := ih.2 y e
      exact ⟨j, by rw [List.getElem?_append_left (List.getElem?_eq_some_iff.1 hj).1]; exact hj, e2⟩
end Go.Proofs.Ytiddpkppfpdfhaa.pm
