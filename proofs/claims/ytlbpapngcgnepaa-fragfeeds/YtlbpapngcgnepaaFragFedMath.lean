/- Plain mathematics of the document's own Feed: parts put in order are where put lays them; the bytes that are joined. -/
import Derived.Test.YtlbpapngcgnepaaFragKeep
namespace Go.Proofs.Ytlbpapngcgnepaa.fdm
open Go.Proofs.Ytlbpapngcgnepaa Go.Proofs.Ytlbpapngcgnepaa.ipb Go.Proofs.Ytlbpapngcgnepaa.frp Go.Proofs.Ytlbpapngcgnepaa.frk Go.Proofs.Ytlbpapngcgnepaa.frf2 Go.Proofs.Ytlbpapngcgnepaa.frpu Go.Proofs.Ytlbpapngcgnepaa.frw
open Go.Proofs.Ytlbpapngcgnepaa.ipm (size_list)

theorem put_perm (ps : List Pt) (q : Pt) : (putIn ps q).Perm (ps ++ [q]) := by
  unfold putIn
  have h1 : (ps.take (pos q ps) ++ q :: ps.drop (pos q ps)).Perm (q :: (ps.take (pos q ps) ++ ps.drop (pos q ps))) := List.perm_middle
  rw [List.take_append_drop] at h1
  exact h1.trans (List.perm_append_comm (l₁ := [q]) (l₂ := ps))
theorem f_lt {l : List Pt} (ho : ∀ o ∈ l, o.ok = true) (h : l.Pairwise F) : l.Pairwise (fun a b => a.a < b.a) := by
  induction l with
  | nil => exact List.Pairwise.nil
  | cons x r ih =>
    rw [List.pairwise_cons] at h ⊢
    refine ⟨fun y hy => ?_, ih (fun o h' => ho o (List.mem_cons_of_mem _ h')) h.2⟩
    have h1 := h.1 y hy
    have h2 := (ok_le (ho x List.mem_cons_self)).2
    have h3 := h1.2
    omega
theorem lt_inj {l : List Pt} (h : l.Pairwise (fun a b => a.a < b.a)) : ∀ x ∈ l, ∀ y ∈ l, x.a = y.a → x = y := by
  induction l with
  | nil => intro x hx; simp at hx
  | cons z r ih =>
    rw [List.pairwise_cons] at h
    intro x hx y hy e
    rcases List.mem_cons.1 hx with rfl | hx <;> rcases List.mem_cons.1 hy with rfl | hy
    · rfl
    · exact absurd e (by have := h.1 y (by assumption); omega)
    · exact absurd e (by have := h.1 x (by assumption); omega)
    · exact ih h.2 x (by assumption) y (by assumption) e
/-- what is in order is what put lays -/
theorem sorted_put {ps S : List Pt} {q : Pt} (ho : ∀ o ∈ ps, o.ok = true) (hq : q.ok = true) (hc : ∀ o ∈ ps, cl q o = false) (hp : ps.Pairwise F) (hS : S.Perm (ps ++ [q])) (hs : S.Pairwise (fun a b => a.a ≤ b.a)) : S = putIn ps q := by
  have h1 := put_pair hq ps ho hc hp
  have h2 : ∀ o ∈ putIn ps q, o.ok = true := fun o h => by
    rcases put_mem ps q o h with rfl | h
    · exact hq
    · exact ho o h
  have h3 := f_lt h2 h1
  have inj := lt_inj h3
  have pm : S.Perm (putIn ps q) := hS.trans (put_perm ps q).symm
  refine List.Perm.eq_of_pairwise (le := fun a b : Pt => a.a ≤ b.a) ?_ hs (h3.imp fun h => Int.le_of_lt h) pm
  intro a b ha hb h4 h5
  exact inj a (pm.subset ha) b hb (by omega)
/-- the bytes that are joined, part by part -/
def dl : List UInt8 → List Pt → List UInt8
  | acc, [] => acc
  | acc, o :: r => dl (if o.a = acc.length then acc ++ o.d.data.toList else acc) r
theorem dl_stay : ∀ (r : List Pt) (acc : List UInt8), (∀ o ∈ r, (acc.length : Int) < o.a) → dl acc r = acc
  | [], _, _ => rfl
  | o :: r, acc, h => by
    have := h o List.mem_cons_self
    show dl (if o.a = acc.length then _ else acc) r = acc
    rw [if_neg (by omega)]
    exact dl_stay r acc fun x hx => h x (List.mem_cons_of_mem _ hx)
/-- where the last part ends -/
def le_ (ps : List Pt) : Int := match ps[ps.length - 1]? with
  | some p => p.e
  | none => 0
theorem le_cons (o p : Pt) (r : List Pt) : le_ (o :: p :: r) = le_ (p :: r) := by
  unfold le_; simp
theorem le_ge {ps : List Pt} (ho : ∀ o ∈ ps, o.ok = true) (h : ps.Pairwise F) : ∀ o ∈ ps, o.e ≤ le_ ps := by
  induction ps with
  | nil => intro o h; simp at h
  | cons x r ih =>
    rw [List.pairwise_cons] at h
    intro o hm
    cases r with
    | nil => simp at hm; subst hm; simp [le_]
    | cons y s =>
      rw [le_cons]
      have ih' := ih (fun o h' => ho o (List.mem_cons_of_mem _ h')) h.2
      rcases List.mem_cons.1 hm with rfl | hm
      · have h1 := (h.1 y List.mem_cons_self).2
        have h2 := ih' y List.mem_cons_self
        have h3 := (ok_le (ho y (List.mem_cons_of_mem _ List.mem_cons_self))).2
        omega
      · exact ih' o hm
theorem dl_spec : ∀ (ps : List Pt) (acc : List UInt8), (∀ o ∈ ps, o.ok = true) → ps.Pairwise F → (∀ o ∈ ps, (acc.length : Int) ≤ o.a) → ps ≠ [] →
    (cpl acc.length ps = true → dl acc ps = acc ++ frj.dj ps ∧ ((dl acc ps).length : Int) = le_ ps) ∧ (cpl acc.length ps = false → ((dl acc ps).length : Int) < le_ ps)
  | [], _, _, _, _, h => absurd rfl h
  | o :: r, acc, ho, hp, ha, _ => by
    have oo := ho o List.mem_cons_self
    have oe := (ok_le oo).2
    have oz : o.e = o.a + o.d.size := rfl
    rw [List.pairwise_cons] at hp
    have hl := size_list o.d
    by_cases h0 : o.a = acc.length
    · have e1 : dl acc (o :: r) = dl (acc ++ o.d.data.toList) r := by show dl (if o.a = acc.length then _ else acc) r = _; rw [if_pos h0]
      have e2 : ((acc ++ o.d.data.toList).length : Int) = o.e := by rw [List.length_append, hl]; omega
      have e3 : cpl acc.length (o :: r) = cpl o.e r := by show (decide (o.a = acc.length) && cpl o.e r) = _; rw [decide_eq_true h0]; rfl
      cases r with
      | nil =>
        have e4 : le_ [o] = o.e := by simp [le_]
        have e5 : dl acc [o] = acc ++ o.d.data.toList := e1
        have e6 : frj.dj [o] = o.d.data.toList := by simp [frj.dj]
        rw [e5, e6, e4]
        exact ⟨fun _ => ⟨rfl, e2⟩, fun h => by rw [e3] at h; cases h⟩
      | cons p s =>
        obtain ⟨i1, i2⟩ := dl_spec (p :: s) (acc ++ o.d.data.toList) (fun x hx => ho x (List.mem_cons_of_mem _ hx)) hp.2 (fun x hx => by rw [e2]; exact (hp.1 x hx).2) (by simp)
        rw [e2] at i1 i2
        rw [e3, e1, le_cons]
        refine ⟨fun h => ?_, i2⟩
        obtain ⟨j1, j2⟩ := i1 h
        refine ⟨?_, j2⟩
        rw [j1, List.append_assoc]
        rfl
    · have h1 := ha o List.mem_cons_self
      have e1 : dl acc (o :: r) = acc := dl_stay (o :: r) acc fun x hx => by
        rcases List.mem_cons.1 hx with rfl | hx
        · omega
        · have := (hp.1 x hx).2; omega
      have e3 : cpl acc.length (o :: r) = false := by show (decide (o.a = acc.length) && cpl o.e r) = _; rw [decide_eq_false h0]; rfl
      rw [e3, e1]
      refine ⟨fun h => (by cases h), fun _ => ?_⟩
      have := le_ge ho (List.pairwise_cons.2 hp) o List.mem_cons_self
      omega
theorem dl_take (ps : List Pt) (k : Nat) (o : Pt) (h : ps[k]? = some o) : dl [] (ps.take (k + 1)) = (if o.a = (dl [] (ps.take k)).length then dl [] (ps.take k) ++ o.d.data.toList else dl [] (ps.take k)) := by
  have key : ∀ (l : List Pt) (acc : List UInt8), dl acc (l ++ [o]) = (if o.a = (dl acc l).length then dl acc l ++ o.d.data.toList else dl acc l) := fun l => by
    induction l with
    | nil => intro acc; rfl
    | cons x r ih => intro acc; exact ih _
  obtain ⟨hk, he⟩ := List.getElem?_eq_some_iff.1 h
  rw [List.take_succ_eq_append_getElem hk, he]
  exact key _ _
end Go.Proofs.Ytlbpapngcgnepaa.fdm
