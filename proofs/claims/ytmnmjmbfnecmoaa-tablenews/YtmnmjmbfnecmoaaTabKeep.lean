/- What is put in and taken out, key by key; tables as they are asked. -/
import Derived.Test.YtmnmjmbfnecmoaaTabPut
import Derived.Test.YtmnmjmbfnecmoaaTabRemove
namespace Go.Proofs.Ytmnmjmbfnecmoaa.tk
open Go.Proofs.Ytmnmjmbfnecmoaa.tm Go.Proofs.Ytmnmjmbfnecmoaa.tb Go.Proofs.Ytmnmjmbfnecmoaa.tg Go.Proofs.Ytmnmjmbfnecmoaa.tp Go.Proofs.Ytmnmjmbfnecmoaa.tr

theorem val_one {l : List St} {k : Nat} {a b : Int} (hH : ∀ k, hl l k < l.length) (h : Rt (hl l) l) (ha : Val l k a) (hb : Val l k b) : a = b := by
  obtain ⟨i, hi, ei⟩ := ha
  obtain ⟨j, hj, ej⟩ := hb
  have := rt_uniq hH h (k := k) ⟨hi, by rw [ei], by rw [ei]⟩ ⟨hj, by rw [ej], by rw [ej]⟩
  subst this
  rw [ei] at ej
  simpa using ej
theorem fe_val {l : List St} (h : terr l = 0) (k : Nat) : (fe l k = 0 ∧ Val l k (gv l k)) ∨ (fe l k = 7 ∧ gv l k = 0 ∧ ∀ v, ¬ Val l k v) := by
  obtain ⟨hb, hr⟩ := terr_zero h
  have hf := fnd_spec (hl_lt hb) hr.free k
  rcases fe_cases l k with ⟨_, a, _⟩ | ⟨a, _, b, _, c⟩ | ⟨a, _, b, _, c⟩
  · exact absurd h a
  · refine Or.inr ⟨a, c, fun v hv => ?_⟩
    obtain ⟨j, hj, ej⟩ := hv
    exact fnd_not (hl_lt hb) hr hf b ⟨j, hj, by rw [ej], by rw [ej]⟩
  · refine Or.inl ⟨a, ?_⟩
    rw [c]
    exact ⟨_, hf.lt, st_eta _ b (fnd_yes hf b).2.2⟩
theorem fe_yes {l : List St} (h : terr l = 0) {k : Nat} {v : Int} (hv : Val l k v) : fe l k = 0 ∧ gv l k = v := by
  obtain ⟨hb, hr⟩ := terr_zero h
  rcases fe_val h k with ⟨a, b⟩ | ⟨_, _, b⟩
  · exact ⟨a, val_one (hl_lt hb) hr b hv⟩
  · exact absurd hv (b v)
theorem fe_no {l : List St} (h : terr l = 0) {k : Nat} (hv : ∀ v, ¬ Val l k v) : fe l k = 7 ∧ gv l k = 0 := by
  rcases fe_val h k with ⟨_, b⟩ | ⟨a, b, _⟩
  · exact absurd b (hv _)
  · exact ⟨a, b⟩
theorem terr_of {l m : List St} (hl_ : l.length = m.length) (hb : bn m.length ≠ 0) (h : Rt (hl m) l) : terr l = 0 := terr_ok (by rw [hl_]; exact hb) (by show Rt (hm l.length) l; rw [hl_]; exact h)
/-- a key that is put in -/
theorem put_spec {l : List St} (h : terr l = 0) (k : Nat) (v : Int) : (pe l k = 6 ∧ fe l k = 7 ∧ cnt l + 1 = l.length ∧ pl l k v = []) ∨ (pe l k = 0 ∧ (fe l k = 7 → cnt l + 1 ≠ l.length) ∧ terr (pl l k v) = 0 ∧ (pl l k v).length = l.length ∧ cnt (pl l k v) = cnt l + (if fe l k = 0 then 0 else 1) ∧ ∀ k' v', Val (pl l k v) k' v' ↔ if k' = k then v' = v else Val l k' v') := by
  obtain ⟨hb, hr⟩ := terr_zero h
  have hf := fnd_spec (hl_lt hb) hr.free k
  have hfe : ∀ u, (ax l (fnd (hl l) l k)).u = u → fe l k = if u then 0 else 7 := fun u hu => by
    unfold fe; rw [if_pos h, hu]
  rcases pe_cases l k v with ⟨_, a, _⟩ | ⟨a, _, b, c, d⟩ | ⟨a, _, b, d⟩
  · exact absurd h a
  · exact Or.inl ⟨a, by rw [hfe _ b]; rfl, c, d⟩
  · have ho : (ax l (fnd (hl l) l k)).u = false → cnt l + 1 < l.length := fun hu => by
      have := free_iff.2 hr.free
      rcases b with b | b
      · rw [hu] at b; cases b
      · omega
    have hl' : (pl l k v).length = l.length := by rw [d, List.length_set]
    refine Or.inr ⟨a, fun h7 => ?_, ?_, hl', ?_, fun k' v' => ?_⟩
    · rcases b with b | b
      · rw [hfe _ b] at h7; exact absurd h7 (by decide)
      · exact b.2
    · refine terr_of hl' hb ?_
      rw [d]
      exact put_rt (hl_lt hb) hr hf ho
    · have := cnt_set (y := (⟨true, k, v⟩ : St)) hf.lt
      rw [← d] at this
      rcases b with b | ⟨b, _⟩
      · rw [b] at this; rw [hfe _ b]; simp at this ⊢; omega
      · rw [b] at this; rw [hfe _ b]; simp at this ⊢; omega
    · rw [d]; exact put_val (hl_lt hb) hr hf k' v'
/-- a key that is taken out -/
theorem rem_spec {l : List St} (h : terr l = 0) (k : Nat) (hfe : fe l k = 0) : terr (rl l k) = 0 ∧ (rl l k).length = l.length ∧ cnt (rl l k) + 1 = cnt l ∧ ∀ k' v', Val (rl l k) k' v' ↔ k' ≠ k ∧ Val l k' v' := by
  obtain ⟨hb, hr⟩ := terr_zero h
  have hf := fnd_spec (hl_lt hb) hr.free k
  have hu : (ax l (fnd (hl l) l k)).u = true := by
    rcases fe_cases l k with ⟨_, a, _⟩ | ⟨a, _⟩ | ⟨_, _, a, _⟩
    · exact absurd h a
    · rw [hfe] at a; exact absurd a (by decide)
    · exact a
  have e : rl l k = rmv (hl l) l (fnd (hl l) l k) := by unfold rl; rw [if_pos hfe]
  obtain ⟨r1, r2, r3, r4⟩ := rmv_ok (hl_lt hb) hr (fnd_yes hf hu)
  rw [e]
  exact ⟨terr_of r4 hb r1, r4, r3, r2⟩
theorem undo_spec {l : List St} (h : terr l = 0) (k : Nat) (v : Int) (h7 : fe l k = 7) (h0 : pe l k = 0) : fe (pl l k v) k = 0 ∧ gv (pl l k v) k = v ∧ rl (pl l k v) k = l := by
  obtain ⟨hb, hr⟩ := terr_zero h
  have hf := fnd_spec (hl_lt hb) hr.free k
  rcases put_spec h k v with ⟨a, _⟩ | ⟨_, a, b, c, _, d⟩
  · rw [h0] at a; exact absurd a (by decide)
  have hv : Val (pl l k v) k v := (d k v).2 (by rw [if_pos rfl])
  obtain ⟨f1, f2⟩ := fe_yes b hv
  refine ⟨f1, f2, ?_⟩
  have hu : (ax l (fnd (hl l) l k)).u = false := by
    rcases fe_cases l k with ⟨_, a, _⟩ | ⟨_, _, a, _⟩ | ⟨a, _⟩
    · exact absurd h a
    · exact a
    · rw [h7] at a; exact absurd a (by decide)
  have e : pl l k v = l.set (fnd (hl l) l k) ⟨true, k, v⟩ := by
    rcases pe_cases l k v with ⟨_, a, _⟩ | ⟨a, _⟩ | ⟨_, _, _, a⟩
    · exact absurd h a
    · rw [h0] at a; exact absurd a (by decide)
    · exact a
  have hl' : hl (pl l k v) = hl l := by show hm _ = hm _; rw [c]
  have hbp : bn (pl l k v).length ≠ 0 := by rw [c]; exact hb
  obtain ⟨_, hrp⟩ := terr_zero b
  have hj : Has (pl l k v) k (fnd (hl l) l k) := ⟨by rw [c]; exact hf.lt, by rw [e, ax_same hf.lt], by rw [e, ax_same hf.lt]⟩
  have hfn : fnd (hl (pl l k v)) (pl l k v) k = fnd (hl l) l k := fnd_eq (hl_lt hbp k) (rt_has hrp hj)
  unfold rl
  rw [if_pos f1, hfn, hl', e]
  refine tm.undo (hl_lt hb) hr hf hu ?_
  have := free_iff.2 hr.free
  have := a h7
  omega
/-- keys that are right -/
def Ky (l : List St) : Prop := ∀ i, (ax l i).k < 18446744073709551616
theorem ax_out {l : List St} {i : Nat} (h : ¬ i < l.length) : ax l i = z0 := by
  unfold ax; rw [List.getD_eq_getElem?_getD, List.getElem?_eq_none (by omega)]; rfl
theorem ky_of {l : List St} (h : ∀ s ∈ l, s.k < 18446744073709551616) : Ky l := fun i => by
  by_cases hi : i < l.length
  · exact h _ (List.mem_of_getElem? (ax_get hi))
  · rw [ax_out hi]; decide
theorem ky_val {l : List St} (h : terr l = 0) (hv : ∀ k v, Val l k v → k < 18446744073709551616) : Ky l := fun i => by
  by_cases hi : i < l.length
  · cases hu : (ax l i).u
    · rw [(terr_zero h).2.zero i hi hu]; decide
    · exact hv _ _ ⟨i, hi, st_eta _ hu rfl⟩
  · rw [ax_out hi]; decide
theorem val_ky {l : List St} (h : Ky l) {k : Nat} {v : Int} (hv : Val l k v) : k < 18446744073709551616 := by
  obtain ⟨i, _, e⟩ := hv
  have := h i
  rw [e] at this
  exact this
theorem ky_nil : Ky [] := ky_of (fun s hs => by cases hs)
theorem put_ky {l : List St} (hk : Ky l) {k : Nat} (hkk : k < 18446744073709551616) (v : Int) : Ky (pl l k v) := by
  by_cases h : terr l = 0
  · rcases put_spec h k v with ⟨_, _, _, a⟩ | ⟨_, _, a, _, _, b⟩
    · rw [a]; exact ky_nil
    · refine ky_val a fun k' v' hv => ?_
      have := (b k' v').1 hv
      by_cases e : k' = k
      · rw [e]; exact hkk
      · rw [if_neg e] at this; exact val_ky hk this
  · rcases pe_cases l k v with ⟨_, _, a⟩ | ⟨_, a, _⟩ | ⟨_, a, _⟩
    · rw [a]; exact ky_nil
    · exact absurd a h
    · exact absurd a h
theorem rem_ky {l : List St} (hk : Ky l) (k : Nat) : Ky (rl l k) := by
  by_cases h : fe l k = 0
  · have ht : terr l = 0 := by
      rcases fe_cases l k with ⟨a, b, _⟩ | ⟨a, _⟩ | ⟨_, a, _⟩
      · rw [h] at a; exact absurd a.symm b
      · rw [h] at a; exact absurd a (by decide)
      · exact a
    obtain ⟨a, _, _, b⟩ := rem_spec ht k h
    exact ky_val a fun k' v' hv => val_ky hk ((b k' v').1 hv).2
  · unfold rl; rw [if_neg h]; exact ky_nil
/-- an empty table -/
theorem ax_rep (n q : Nat) : ax (List.replicate n z0) q = z0 := by
  unfold ax
  rw [List.getD_eq_getElem?_getD, List.getElem?_replicate]
  split <;> rfl
theorem rep_ok {b : Nat} (h1 : 1 ≤ b) (h2 : b ≤ 6) : terr (List.replicate (2 ^ b) z0) = 0 := by
  have hl_ : (List.replicate (2 ^ b) z0).length = 2 ^ b := List.length_replicate
  refine terr_ok (by rw [hl_, bn_pow h1 h2]; omega) ⟨⟨0, by rw [hl_]; exact Nat.two_pow_pos b, by rw [ax_rep]; rfl⟩, fun j _ _ => ax_rep _ j, fun j _ hu => ?_⟩
  rw [ax_rep] at hu; cases hu
theorem rep_val (n k : Nat) (v : Int) : ¬ Val (List.replicate n z0) k v := by
  rintro ⟨j, _, e⟩
  rw [ax_rep] at e; cases e
theorem rep_cnt (n : Nat) : cnt (List.replicate n z0) = 0 := by
  unfold cnt
  rw [List.countP_eq_zero]
  intro s hs
  rw [List.eq_of_mem_replicate hs]; decide
theorem rep_ky (n : Nat) : Ky (List.replicate n z0) := ky_of fun s hs => by rw [List.eq_of_mem_replicate hs]; decide
theorem terr_nil : terr [] = 1 := terr_arg rfl
end Go.Proofs.Ytmnmjmbfnecmoaa.tk
