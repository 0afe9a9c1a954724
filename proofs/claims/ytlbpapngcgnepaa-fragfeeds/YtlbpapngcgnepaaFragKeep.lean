/- Plain mathematics: a pool that is right is right behind Feed; a packet that is told is whole. -/
import Derived.Test.YtlbpapngcgnepaaFragFeed
namespace Go.Proofs.Ytlbpapngcgnepaa.frk
open Go.Proofs.Ytlbpapngcgnepaa Go.Proofs.Ytlbpapngcgnepaa.ipb Go.Proofs.Ytlbpapngcgnepaa.frb Go.Proofs.Ytlbpapngcgnepaa.frp Go.Proofs.Ytlbpapngcgnepaa.pl Go.Proofs.Ytlbpapngcgnepaa.frx Go.Proofs.Ytlbpapngcgnepaa.frh Go.Proofs.Ytlbpapngcgnepaa.frf2 Go.Proofs.Ytlbpapngcgnepaa.frha Go.Proofs.Ytlbpapngcgnepaa.frpu Go.Proofs.Ytlbpapngcgnepaa.frw Go.Proofs.Ytlbpapngcgnepaa.frj Go.Proofs.Ytlbpapngcgnepaa.frt Go.Proofs.Ytlbpapngcgnepaa.frfe Go.Proofs.Ytlbpapngcgnepaa.frc

/-- a part ahead of another -/
def F (a b : Pt) : Prop := a.la = false ∧ a.e ≤ b.a
theorem ok_le {p : Pt} (h : p.ok = true) : 0 ≤ p.a ∧ p.a < p.e := by
  simp only [Pt.ok, Bool.and_eq_true, decide_eq_true_eq, dok] at h
  obtain ⟨h1, _, _, h4⟩ := h
  refine ⟨h1, ?_⟩
  have := h4.1
  unfold Pt.e; omega
theorem folls_iff : ∀ (r : List Pt) (b : Pt), b.ok = true → (folls b r = true ↔ (∀ q ∈ r, q.ok = true) ∧ (b :: r).Pairwise F)
  | [], b, _ => by simp [folls]
  | p :: r, b, hb => by
    simp only [folls, fol, Bool.and_eq_true, decide_eq_true_eq, Bool.not_eq_true']
    constructor
    · rintro ⟨⟨h1, h2, h3⟩, h4⟩
      obtain ⟨a, c⟩ := (folls_iff r p h1).1 h4
      refine ⟨fun q hq => ?_, List.pairwise_cons.2 ⟨fun q hq => ?_, c⟩⟩
      · rcases List.mem_cons.1 hq with rfl | hq
        · exact h1
        · exact a q hq
      · rcases List.mem_cons.1 hq with rfl | hq
        · exact ⟨h2, h3⟩
        · have := (List.pairwise_cons.1 c).1 q hq
          have l := ok_le h1
          exact ⟨h2, by have := this.2; omega⟩
    · rintro ⟨a, c⟩
      obtain ⟨c1, c2⟩ := List.pairwise_cons.1 c
      have := c1 p (by simp)
      exact ⟨⟨a p (by simp), this.1, this.2⟩, (folls_iff r p (a p (by simp))).2 ⟨fun q hq => a q (by simp [hq]), c2⟩⟩
theorem psok_iff (ps : List Pt) : psok ps = true ↔ ps ≠ [] ∧ (∀ q ∈ ps, q.ok = true) ∧ ps.Pairwise F := by
  cases ps with
  | nil => simp [psok]
  | cons p r =>
    simp only [psok, Bool.and_eq_true]
    constructor
    · rintro ⟨h1, h2⟩
      obtain ⟨a, c⟩ := (folls_iff r p h1).1 h2
      refine ⟨by simp, fun q hq => ?_, c⟩
      rcases List.mem_cons.1 hq with rfl | hq
      · exact h1
      · exact a q hq
    · rintro ⟨_, a, c⟩
      exact ⟨a p (by simp), (folls_iff r p (a p (by simp))).2 ⟨fun q hq => a q (by simp [hq]), c⟩⟩
theorem put_cons (o : Pt) (r : List Pt) (q : Pt) : putIn (o :: r) q = if o.a < q.a then o :: putIn r q else q :: o :: r := by
  unfold putIn
  by_cases hh : o.a < q.a
  · rw [if_pos hh]; simp [pos, hh]
  · rw [if_neg hh]; simp [pos, hh]
theorem put_mem : ∀ (ps : List Pt) (q x : Pt), x ∈ putIn ps q → x = q ∨ x ∈ ps
  | [], q, x, h => by simpa [putIn, pos] using h
  | o :: r, q, x, h => by
    rw [put_cons] at h
    split at h
    · rcases List.mem_cons.1 h with rfl | h
      · simp
      · rcases put_mem r q x h with h | h
        · exact Or.inl h
        · exact Or.inr (by simp [h])
    · rcases List.mem_cons.1 h with rfl | h
      · simp
      · exact Or.inr h
theorem cl_f {q o : Pt} (hq : q.ok = true) (ho : o.ok = true) (h : cl q o = false) : (o.a < q.a → F o q) ∧ (¬ o.a < q.a → F q o) := by
  have lq := ok_le hq
  have lo := ok_le ho
  simp only [cl, Bool.or_eq_false_iff, Bool.and_eq_false_iff, decide_eq_false_iff_not] at h
  obtain ⟨h1, h2, h3⟩ := h
  refine ⟨fun hl => ⟨?_, ?_⟩, fun hl => ?_⟩
  · rcases h2 with h2 | h2
    · exact h2
    · exact absurd hl h2
  · rcases h1 with h1 | h1 <;> omega
  · have hlt : q.a < o.a := by rcases h1 with h1 | h1 <;> omega
    refine ⟨?_, ?_⟩
    · rcases h3 with h3 | h3
      · exact h3
      · exact absurd hlt h3
    · rcases h1 with h1 | h1 <;> omega
theorem put_pair {q : Pt} (hq : q.ok = true) : ∀ (ps : List Pt), (∀ o ∈ ps, o.ok = true) → (∀ o ∈ ps, cl q o = false) → ps.Pairwise F → (putIn ps q).Pairwise F
  | [], _, _, _ => by simp [putIn, pos]
  | o :: r, h1, h2, h3 => by
    obtain ⟨c1, c2⟩ := List.pairwise_cons.1 h3
    have ho := h1 o (by simp)
    have hc := cl_f hq ho (h2 o (by simp))
    rw [put_cons]
    split
    · rename_i hl
      refine List.pairwise_cons.2 ⟨fun x hx => ?_, put_pair hq r (fun o hh => h1 o (by simp [hh])) (fun o hh => h2 o (by simp [hh])) c2⟩
      rcases put_mem r q x hx with rfl | hx
      · exact hc.1 hl
      · exact c1 x hx
    · rename_i hl
      have hf := hc.2 hl
      refine List.pairwise_cons.2 ⟨fun x hx => ?_, h3⟩
      rcases List.mem_cons.1 hx with rfl | hx
      · exact hf
      · have := (c1 x hx).2
        have := ok_le ho
        exact ⟨hf.1, by have := hf.2; omega⟩
theorem put_len (ps : List Pt) (q : Pt) : (putIn ps q).length = ps.length + 1 := by
  have := pos_le q ps
  unfold putIn
  simp only [List.length_append, List.length_take, List.length_cons, List.length_drop]
  omega
theorem put_ne (ps : List Pt) (q : Pt) : putIn ps q ≠ [] := by
  intro e
  have := put_len ps q
  rw [e] at this; simp at this
/-- a heap that is right, or one that is new -/
def Hb (x : Hp) : Prop := x.ps.length ≤ 64 ∧ (∀ q ∈ x.ps, q.ok = true) ∧ x.ps.Pairwise F ∧ (hdz x.h = true ∨ ∃ p r, x.ps = p :: r ∧ p.a = 0)
theorem hb_of {x : Hp} (h : x.ok = true) (hl : x.ps.length ≤ 64) : Hb x := by
  simp only [Hp.ok, Bool.and_eq_true] at h
  obtain ⟨h1, h2⟩ := h
  obtain ⟨_, a, b⟩ := (psok_iff _).1 h1
  refine ⟨hl, a, b, ?_⟩
  cases hp : x.ps with
  | nil => rw [hp] at h2; simp at h2
  | cons p r =>
    rw [hp] at h2
    simp only [Bool.or_eq_true, decide_eq_true_eq] at h2
    rcases h2 with h2 | h2
    · exact Or.inr ⟨p, r, rfl, h2⟩
    · exact Or.inl h2
/-- a heap with a part more -/
theorem put_ok {x : Hp} {p : Pk} (h : Hb x) (hq : (ptOf p).ok = true) (hr : rfs x.ps (ptOf p) = 0) : Hp.ok ⟨hdOf x.h p, putIn x.ps (ptOf p)⟩ = true ∧ (putIn x.ps (ptOf p)).length ≤ 64 := by
  obtain ⟨hl, a, b, c⟩ := h
  unfold rfs at hr
  split at hr
  · omega
  · rename_i hany
    split at hr
    · omega
    · rename_i h64
      have hcl : ∀ o ∈ x.ps, cl (ptOf p) o = false := fun o ho => by
        have := hany
        rw [Bool.not_eq_true, List.any_eq_false] at this
        have := this o ho
        simpa using this
      refine ⟨?_, by rw [put_len]; omega⟩
      have hps : psok (putIn x.ps (ptOf p)) = true := (psok_iff _).2 ⟨put_ne _ _, fun q hh => by
        rcases put_mem _ _ _ hh with rfl | hh
        · exact hq
        · exact a q hh, put_pair hq _ a hcl b⟩
      have lq := ok_le hq
      have hd : ∃ f r, putIn x.ps (ptOf p) = f :: r ∧ (f.a = 0 ∨ hdz (hdOf x.h p) = true) := by
        by_cases hz : 8 * p.st = 0
        · have qa : (ptOf p).a = 0 := hz
          cases hx : x.ps with
          | nil => exact ⟨ptOf p, [], rfl, Or.inl qa⟩
          | cons o r =>
            have lo := ok_le (a o (by rw [hx]; simp))
            rw [put_cons, if_neg (by omega)]
            exact ⟨_, _, rfl, Or.inl qa⟩
        · have eh : hdOf x.h p = x.h := by unfold hdOf; rw [if_neg hz]
          have qa : (ptOf p).a ≠ 0 := hz
          rw [eh]
          cases hx : x.ps with
          | nil =>
            refine ⟨ptOf p, [], rfl, ?_⟩
            rcases c with c | ⟨f, r, e, _⟩
            · exact Or.inr c
            · rw [hx] at e; simp at e
          | cons o r =>
            rw [put_cons]
            split
            · refine ⟨_, _, rfl, ?_⟩
              rcases c with c | ⟨f, r', e, e2⟩
              · exact Or.inr c
              · rw [hx] at e; simp at e; rw [e.1]; exact Or.inl e2
            · rename_i hl2
              refine ⟨_, _, rfl, ?_⟩
              rcases c with c | ⟨f, r', e, e2⟩
              · exact Or.inr c
              · rw [hx] at e; simp at e
                rw [← e.1] at e2
                omega
      obtain ⟨f, r, e, hor⟩ := hd
      unfold Hp.ok
      rw [e] at hps
      simp only [e, hps, Bool.true_and, Bool.or_eq_true, decide_eq_true_eq]
      exact hor
end Go.Proofs.Ytlbpapngcgnepaa.frk
