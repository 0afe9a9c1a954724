/- A table of keys, plain: while those that follow a hole are taken out. -/
import Derived.Test.YtmnmjmbfnecmoaaTabMath
namespace Go.Proofs.Ytmnmjmbfnecmoaa.tm

/-- while those that follow are taken out -/
structure Lw (l : List St) (R n p : Nat) (c mv : List St) : Prop where
  plt : p < n
  pne : p ≠ R
  run : ∀ q, q < n → On R p q → (ax l q).u = true
  cl : Cl l R p c
  ex : ∃ f, mv ++ sq f l p = sq n l (nx n R) ∧ f + stp n R p = n + 1
theorem lw_nx {l : List St} {R n p : Nat} (hR : R < n) (hp : p < n) (hr : ∀ q, q < n → On R p q → (ax l q).u = true) (hu : (ax l p).u = true) (hf : ∃ j, j < n ∧ (ax l j).u = false) :
    nx n p ≠ R ∧ (∀ q, q < n → (On R (nx n p) q ↔ On R p q ∨ q = p)) ∧ stp n R (nx n p) = stp n R p + 1 := by
  obtain ⟨u, u1, u2⟩ := hf
  have a1 : ¬ On R p u := fun c => by rw [hr u u1 c] at u2; cases u2
  have a2 : u ≠ p := fun c => by subst c; rw [hu] at u2; cases u2
  have e := nx_eq hp
  rw [stp_eq hR (nx_lt hp), stp_eq hR hp, e]
  by_cases c : p + 1 = n
  · rw [if_pos c]
    have h1 : 0 ≠ R := by simp only [On] at a1; omega
    refine ⟨h1, fun q hq => by simp only [On]; omega, ?_⟩
    split <;> split <;> omega
  · rw [if_neg c]
    have h1 : p + 1 ≠ R := by simp only [On] at a1; omega
    refine ⟨h1, fun q hq => by simp only [On]; omega, ?_⟩
    split <;> split <;> omega
theorem not_on (h p : Nat) : ¬ On h p p := by simp only [On]; omega
theorem on_nx {n R : Nat} (hR : R < n) (hn : nx n R ≠ R) (q : Nat) (_ : q < n) : On R (nx n R) q ↔ q = R := by
  have e := nx_eq hR
  rw [e] at hn ⊢
  simp only [On]
  by_cases c : R + 1 = n
  · rw [if_pos c] at hn ⊢; omega
  · rw [if_neg c] at hn ⊢; omega
theorem lw_begin {l : List St} {R n : Nat} (hl : l.length = n) (hR : R < n) (hu : (ax l R).u = true) (hf : ∃ j, j < n ∧ (ax l j).u = false) : Lw l R n (nx n R) (l.set R z0) [] := by
  have h := lw_nx hR hR (fun q _ ho => absurd ho (by simp only [On]; omega)) hu hf
  have h0 : stp n R R = 0 := by rw [stp_eq hR hR, if_pos (Nat.le_refl _), Nat.sub_self]
  refine ⟨nx_lt hR, h.1, fun q hq ho => ?_, ⟨List.length_set, fun q hq => ?_⟩, n, rfl, by rw [h.2.2, h0]⟩
  · rw [(on_nx hR h.1 q hq).1 ho]; exact hu
  · rw [hl] at hq
    rw [ax_set (by rw [hl]; exact hR)]
    by_cases c : q = R
    · rw [if_pos c, if_pos ((on_nx hR h.1 q hq).2 c)]
    · rw [if_neg c, if_neg (fun d => c ((on_nx hR h.1 q hq).1 d))]
theorem lw_at {l : List St} {R n p : Nat} {c mv : List St} (hl : l.length = n) (h : Lw l R n p c mv) : ax c p = ax l p := by
  rw [h.cl.at_ p (by rw [hl]; exact h.plt), if_neg (not_on R p)]
theorem lw_step {l : List St} {R n p : Nat} {c mv : List St} (hl : l.length = n) (hR : R < n) (hf : ∃ j, j < n ∧ (ax l j).u = false) (h : Lw l R n p c mv) (hu : (ax l p).u = true) : Lw l R n (nx n p) (c.set p z0) (mv ++ [ax l p]) ∧ stp n R (nx n p) = stp n R p + 1 := by
  obtain ⟨h1, h2, h3⟩ := lw_nx hR h.plt h.run hu hf
  obtain ⟨f, e1, e2⟩ := h.ex
  have hst : stp n R p < n := stp_lt hR
  refine ⟨⟨nx_lt h.plt, h1, fun q hq ho => ?_, ⟨by rw [List.length_set]; exact h.cl.len, fun q hq => ?_⟩, ?_⟩, h3⟩
  · rcases (h2 q hq).1 ho with c | c
    · exact h.run q hq c
    · rw [c]; exact hu
  · rw [ax_set (by rw [h.cl.len, hl]; exact h.plt), h.cl.at_ q hq]
    rw [hl] at hq
    by_cases c : q = p
    · rw [if_pos c, if_pos ((h2 q hq).2 (Or.inr c))]
    · rw [if_neg c]
      by_cases d : On R p q
      · rw [if_pos d, if_pos ((h2 q hq).2 (Or.inl d))]
      · rw [if_neg d, if_neg (fun e => ((h2 q hq).1 e).elim d c)]
  · match f, e1, e2 with
    | 0, _, e2 => exact absurd e2 (by omega)
    | f + 1, e1, e2 =>
      refine ⟨f, ?_, by omega⟩
      rw [← e1]
      conv => rhs; unfold sq
      rw [hu, if_pos rfl, hl, List.append_assoc]; rfl
theorem lw_end {l : List St} {R n p : Nat} {c mv : List St} (hl : l.length = n) (hR : R < n) (h : Lw l R n p c mv) (hu : (ax l p).u = false) : mv = sq l.length l (nx l.length R) ∧ Ed l (nx l.length R) p := by
  obtain ⟨f, e1, e2⟩ := h.ex
  have : sq f l p = [] := by
    cases f with
    | zero => rfl
    | succ f => unfold sq; rw [hu]; rfl
  rw [this, List.append_nil] at e1
  rw [hl]
  refine ⟨e1, by rw [hl]; exact h.plt, hu, fun q hq ho => ?_⟩
  rw [hl] at hq
  refine h.run q hq ?_
  have e := nx_eq hR
  have h1 := h.pne
  have h2 := h.plt
  rw [e] at ho
  by_cases c : R + 1 = n
  · rw [if_pos c] at ho; simp only [On] at ho ⊢; omega
  · rw [if_neg c] at ho; simp only [On] at ho ⊢; omega
theorem sq_mem : ∀ (f : Nat) (l : List St) (p : Nat) (s : St), s ∈ sq f l p → ∃ q, s = ax l q
  | 0, _, _, _, h => by simp [sq] at h
  | f + 1, l, p, s, h => by
    unfold sq at h
    split at h
    · rcases List.mem_cons.1 h with c | c
      · exact ⟨p, c⟩
      · exact sq_mem f l _ s c
    · simp at h
theorem sq_len : ∀ (f : Nat) (l : List St) (p : Nat), (sq f l p).length ≤ f
  | 0, _, _ => Nat.le_refl _
  | f + 1, l, p => by
    unfold sq
    split
    · simpa using sq_len f l _
    · simp
theorem addS_len (H : Nat → Nat) (l : List St) (s : St) : (addS H l s).length = l.length := by unfold addS; rw [List.length_set]
end Go.Proofs.Ytmnmjmbfnecmoaa.tm
