/- Spec with what is known of any two of the operations that are told (two new blocks are not one), and the last ones behind (Lastn). -/
import Derived.Test.YtfcnabpbpbhacaaLastn
namespace Go.Proofs.Ytfcnabpbpbhacaa.spc
open Go

section
variable {P : Program} {C : World → Prop}
/-- what is asked of the operations that are told: D: those of J that are through -/
def ToldJ (P : Program) (ops : Array Oper) (J : List (Nat × Tmp)) (S : Nat → Value → World → Prop) (R : Nat → Value → Nat → Value → Prop) (C : World → Prop) (T : World → World → Prop) (A : Act) (k : Nat) (v : Value) (o : Oper) : Prop :=
  ∀ (x : Nat → Value) w (D : Nat → Prop), C w → (∀ q ∈ J, D q.1 → S q.1 (x q.1) w) → (∀ q ∈ J, q.2 ∈ o.looksAt ops → D q.1) → Region.wanted o (yielded ops (jn x J A).tmps) = true →
    yieldsTo P o (jn x J A) w fun u w' => C w' ∧ T w w' ∧ if J.any (fun q => q.1 == k) = true then S k u w' ∧ ∀ q ∈ J, D q.1 → q.1 ≠ k → R q.1 (x q.1) k u ∧ R k u q.1 (x q.1) else u = v

theorem go_anyJ {R : Nat → Value → Nat → Value → Prop} {ops ops' : Array Oper} {N : List (Nat × Value)} {J : List (Nat × Tmp)} {S : Nat → Value → World → Prop} {T : World → World → Prop} {A a₀ : Act} {Q : Exit → Act → World → Prop} (ok : Ok ops N J) (hG : ∀ p ∈ J, ∀ o, ops[p.1]? = some o → Region.wanted o (yielded ops A.tmps) = true)
    (hT : ∀ k v w w', T w w' → S k v w → S k v w') (hyy : ∀ tm, yielded ops' tm = yielded ops tm)
    (hA0 : A.tmps.size = a₀.tmps.size) (hA1 : ∀ t, (∀ (k : Nat) o, ops[k]? = some o → o.dst ≠ some t) → A.tmps[t]? = a₀.tmps[t]?)
    (hA2 : ∀ (j : Nat) o, ops[j]? = some o → ∃ v b, YieldsIn P ops' C (match N.lookup j with
      | some v => { o with op := .move (.const v) }
      | none => o) v b ∧ (∀ d, o.dst = some d → d < a₀.tmps.size → A.tmps[d]? = some v) ∧
        (∀ t, (∀ (k : Nat) o', j ≤ k → ops[k]? = some o' → o'.dst ≠ some t) → b.tmps[t]? = A.tmps[t]?) ∧ (∀ t, (∀ (k : Nat) o', k < j → ops[k]? = some o' → o'.dst ≠ some t) → b.tmps[t]? = a₀.tmps[t]?))
    (hN : ∀ p ∈ N, ∀ o, ops[p.1]? = some o → ToldJ P ops J S R C T A p.1 p.2 o) (hQ : ∀ x w, C w → (∀ q ∈ J, S q.1 (x q.1) w) → (∀ p ∈ J, ∀ q ∈ J, p.1 ≠ q.1 → R p.1 (x p.1) q.1 (x q.1)) → Q .normal (jn x J A) w) :
    ∀ (fuel : Nat) (listed : Array Bool) (x : Nat → Value) (a : Act) (w : World), listed.size = ops.size → ((List.range ops.size).filter fun i => !listed.getD i true).length ≤ fuel →
      Inv ops J S C A a₀ listed x a w → (∀ p ∈ J, ∀ q ∈ J, listed.getD p.1 false = true → listed.getD q.1 false = true → p.1 ≠ q.1 → R p.1 (x p.1) q.1 (x q.1)) → wpAny P .any ops Q fuel listed a w := by
  intro fuel
  have done : ∀ (listed : Array Bool) (x : Nat → Value) (a : Act) (w : World), listed.size = ops.size → Inv ops J S C A a₀ listed x a w → (∀ p ∈ J, ∀ q ∈ J, listed.getD p.1 false = true → listed.getD q.1 false = true → p.1 ≠ q.1 → R p.1 (x p.1) q.1 (x q.1)) → Region.ready .any ops listed = [] → Q .normal a w := by
    intro listed x a w hz i hR hr
    have hl : ∀ (k : Nat) o, ops[k]? = some o → listed.getD k false = true := fun k o hk => ready_nil ok hz hr (k + 1) k (by omega) (Array.getElem?_eq_some_iff.1 hk).1
    have : a = jn x J A := by
      have ht : a.tmps = (jn x J A).tmps := by
        apply Array.ext_getElem?
        intro t
        by_cases h : ∃ (k : Nat) (o : Oper), ops[k]? = some o ∧ o.dst = some t
        · obtain ⟨k, o, hk, hd⟩ := h
          exact i.on t k o hk hd (hl k o hk)
        · have h' : ∀ (k : Nat) o, ops[k]? = some o → o.dst ≠ some t := fun k o hk e => h ⟨k, o, hk, e⟩
          rw [i.off t fun k o hk e => absurd e (h' k o hk), ← hA1 t h', jn_off]
          intro p hp e
          obtain ⟨op, hop, hpd, _⟩ := ok.junk p hp
          exact h' _ _ hop (by rw [hpd, e])
      have hd : a.defers = (jn x J A).defers := by rw [i.defers, jn_defers]
      cases a
      cases hh : jn x J A
      rw [hh] at ht hd
      simp only at ht hd
      rw [ht, hd]
    rw [this]
    have hlJ : ∀ q ∈ J, listed.getD q.1 false = true := fun q hq => by
      obtain ⟨op, hop, _⟩ := ok.junk q hq
      exact hl _ _ hop
    exact hQ x w i.C (fun q hq => i.S q hq (hlJ q hq)) fun p hp q hq ne => hR p hp q hq (hlJ p hp) (hlJ q hq) ne
  induction fuel with
  | zero =>
    intro listed x a w hz hf i hR
    have hr : Region.ready .any ops listed = [] := by
      rw [List.eq_nil_iff_forall_not_mem]
      intro j hj
      obtain ⟨h0, o, ho, _⟩ := mem_ready.1 hj
      have : j ∈ (List.range ops.size).filter fun i => !listed.getD i true := List.mem_filter.2 ⟨List.mem_range.2 (Array.getElem?_eq_some_iff.1 ho).1, by rw [h0]; rfl⟩
      have := List.length_pos_of_mem this
      omega
    exact ⟨hr, done listed x a w hz i hR hr⟩
  | succ fuel ih =>
    intro listed x a w hz hf i hR
    refine ⟨done listed x a w hz i hR, fun j hj => ?_⟩
    obtain ⟨h0, o, ho, hall⟩ := mem_ready.1 hj
    have hlt : j < ops.size := (Array.getElem?_eq_some_iff.1 ho).1
    have hlt' : j < listed.size := by omega
    have hf' : ((List.range ops.size).filter fun i => !(listed.setIfInBounds j true).getD i true).length ≤ fuel := by
      have := (filter_less (p := fun i => !listed.getD i true) (q := fun i => !(listed.setIfInBounds j true).getD i true) (j := j) (fun i hi => by
        by_cases e : j = i
        · subst e; rw [h0]; rfl
        · rwa [getD_set_ne true e] at hi) (by simp only [h0]; rfl) (by simp [hlt']) (List.range ops.size)).2 (List.mem_range.2 hlt)
      omega
    have next : ∀ (x' : Nat → Value) (v : Value) (w' : World), C w' → (∀ p ∈ J, listed.getD p.1 false = true → S p.1 (x' p.1) w') → (∀ p ∈ J, p.1 = j → S p.1 (x' p.1) w') → (∀ k, k ≠ j → x' k = x k) →
        (∀ d, o.dst = some d → d < A.tmps.size → (jn x' J A).tmps[d]? = some v) → (∀ p ∈ J, listed.getD p.1 false = true → ∀ q ∈ J, q.1 = j → p.1 ≠ j → R p.1 (x' p.1) q.1 (x' q.1) ∧ R q.1 (x' q.1) p.1 (x' p.1)) → wpAny P .any ops Q fuel (listed.setIfInBounds j true) (a.put o.dst v) w' := fun x' v w' h1 h2 h3 h4 h5 h6 =>
      ih _ x' _ w' (by simpa using hz) hf' (i.step ok ho hall hlt' h1 h2 h3 h4 h5) fun p hp q hq lp lq ne => by
        by_cases e1 : p.1 = j
        · have e2 : q.1 ≠ j := fun e => ne (by rw [e1, e])
          rw [getD_set_ne false (Ne.symm e2)] at lq
          exact (h6 q hq lq p hp e1 e2).2
        · rw [getD_set_ne false (Ne.symm e1)] at lp
          by_cases e2 : q.1 = j
          · exact (h6 p hp lp q hq e2 e1).1
          · rw [getD_set_ne false (Ne.symm e2)] at lq
            rw [h4 _ e1, h4 _ e2]
            exact hR p hp q hq lp lq ne
    have noJ : ∀ t, (∀ (k : Nat) o, ops[k]? = some o → o.dst ≠ some t) → (jn x J A).tmps[t]? = A.tmps[t]? := fun t h' => jn_off x t J A fun p hp e => by
      obtain ⟨op, hop, hpd, _⟩ := ok.junk p hp
      exact h' _ _ hop (by rw [hpd, e])
    obtain ⟨v, b, hy, hvd, hb1, hb2⟩ := hA2 j o ho
    have unl : ∀ p ∈ J, listed.getD p.1 false = true → p.1 ≠ j := fun p _ hl e => by
      rw [e] at hl
      simp [hlt'] at h0 hl
      rw [h0] at hl
      cases hl
    cases hn : N.lookup j with
    | none =>
      simp only [hn] at hy
      obtain ⟨hp, hcl⟩ := ok.plain j o ho hn
      have hlook : ∀ t ∈ o.looksAt ops, a.tmps[t]? = b.tmps[t]? := fun t ht => by
        by_cases h : ∃ (k : Nat) (ok' : Oper), ops[k]? = some ok' ∧ ok'.dst = some t
        · obtain ⟨k, o', hk, hd⟩ := h
          by_cases hkj : k < j
          · obtain ⟨e, he, hb, hon⟩ := ok.deps j k o o' t ho hk hkj hd ht
            rw [i.on t k o' hk hd (hon ▸ hall e he hb), jn_off x t J A (fun p hp' e => hcl p hp' (e ▸ ht)), hb1 t fun k' o2 hk' ho2 e2 => ?_]
            have := ok.diff k' k o2 o' t ho2 hk e2 hd
            omega
          · have hw := (ok.late j k o o' t ho hk (by omega) hd ht).2
            rw [i.off t fun k' o2 hk' e2 => ?_, hb2 t fun k' o2 hk' ho2 e2 => ?_]
            · have := ok.diff k' k o2 o' t ho2 hk e2 hd
              omega
            · obtain rfl := ok.diff k' k o2 o' t hk' hk e2 hd
              by_cases hl : listed.getD k' false = true
              · have := i.waits _ _ hw hl
                simp [hlt'] at h0 this
                rw [h0] at this
                cases this
              · simpa using hl
        · have h' : ∀ (k : Nat) o, ops[k]? = some o → o.dst ≠ some t := fun k o hk e => h ⟨k, o, hk, e⟩
          rw [i.off t fun k o hk e => absurd e (h' k o hk), hb2 t fun k o _ hk => h' k o hk]
      obtain ⟨hex, hwa⟩ := same_slots (ops := ops) (ok.sel j o ho) hlook
      have hy' : YieldsIn P ops' C o v a := hy.of_same hex (by rw [hyy, hyy, hwa])
      have notJ : ∀ p ∈ J, p.1 ≠ j := fun p hp' e => by
        obtain ⟨_, _, _, h⟩ := ok.junk p hp'
        rw [e, hn] at h
        cases h
      refine wpOp_plain ho hp (hyy _) i.C hy' (next x v w i.C i.S (fun p hp' e => absurd e (notJ p hp')) (fun _ _ => rfl) (fun d hd hlt => ?_) fun _ _ _ q hq e _ => absurd e (notJ q hq))
      rw [jn_off x d J A, hvd d hd (hA0 ▸ hlt)]
      intro p hp' e
      obtain ⟨op, hop, hpd, _⟩ := ok.junk p hp'
      exact notJ p hp' (ok.diff p.1 j op o d hop ho (by rw [hpd, e]) hd)
    | some lit =>
      simp only [hn] at hy
      have htold := hN (j, lit) (mem_of_lookup hn) o ho
      have late : ∀ (k : Nat) o' t, j ≤ k → ops[k]? = some o' → o'.dst = some t → t ∉ o.looksAt ops := fun k o' t hjk hk hd hm => by
        have := (ok.late j k o o' t ho hk hjk hd hm).1
        rw [hn] at this
        cases this
      have hlook : ∀ t ∈ o.looksAt ops, a.tmps[t]? = (jn x J A).tmps[t]? := fun t ht => by
        by_cases h : ∃ (k : Nat) (ok' : Oper), ops[k]? = some ok' ∧ ok'.dst = some t
        · obtain ⟨k, o', hk, hd⟩ := h
          by_cases hkj : k < j
          · obtain ⟨e, he, hb, hon⟩ := ok.deps j k o o' t ho hk hkj hd ht
            exact i.on t k o' hk hd (hon ▸ hall e he hb)
          · exact absurd ht (late k o' t (by omega) hk hd)
        · have h' : ∀ (k : Nat) o, ops[k]? = some o → o.dst ≠ some t := fun k o hk e => h ⟨k, o, hk, e⟩
          rw [i.off t fun k o hk e => absurd e (h' k o hk), ← hA1 t h', noJ t h']
      obtain ⟨hex, hwa⟩ := same_slots (ops := ops) (ok.sel j o ho) hlook
      have hbA : Region.wanted o (yielded ops b.tmps) = Region.wanted o (yielded ops A.tmps) :=
        (same_slots (ops := ops) (ok.sel j o ho) fun t ht => hb1 t fun k o' hjk hk hd => late k o' t hjk hk hd ht).2
      have hwA : Region.wanted o (yielded ops (jn x J A).tmps) = Region.wanted o (yielded ops A.tmps) := by
        unfold Region.wanted
        cases hg : o.guard with
        | none => rfl
        | some gw =>
          obtain ⟨g, want⟩ := gw
          have : yielded ops (jn x J A).tmps g = yielded ops A.tmps g := by
            unfold yielded
            cases ht : (ops[g]?).bind (·.dst) with
            | none => rfl
            | some t => simp [jn_off x t J A fun p hp e => ok.gd j o ho g want hg p hp (by rw [ht, e])]
          simp only [this]
      by_cases hw : Region.wanted o (yielded ops a.tmps) = true
      · have hf := htold x w (fun k => listed.getD k false = true) i.C i.S (fun q hq hl => by
          obtain ⟨oq, hoq, hqd, _⟩ := ok.junk q hq
          have hqj : q.1 < j := Nat.lt_of_not_le fun h => late q.1 oq q.2 h hoq hqd hl
          obtain ⟨e, he, hb, hon⟩ := ok.deps j q.1 o oq q.2 ho hoq hqj hqd hl
          exact (hon ▸ hall e he hb)) (hwa ▸ hw)
        refine wpOp_of ho hw hex hf fun u w' ⟨hC, ht, hu⟩ => ?_
        by_cases hJ : J.any (fun q => q.1 == j) = true
        · simp only [hJ, if_true] at hu
          refine next (fun k => if k = j then u else x k) u w' hC (fun p hp hl => ?_) (fun p hp e => ?_) (fun k hk => by simp [hk]) (fun d hd hlt => ?_) (fun p hp lp q hq e ne => ?_)
          · have := unl p hp hl
            simp only [this, if_false]
            exact hT _ _ _ _ ht (i.S p hp hl)
          · simp only [e, if_true]; exact hu.1
          · obtain ⟨q, hq, hqj⟩ := List.any_eq_true.1 hJ
            have hqj : q.1 = j := by simpa using hqj
            obtain ⟨oq, hoq, hqd, _⟩ := ok.junk q hq
            rw [hqj] at hoq
            obtain rfl : oq = o := by rw [ho] at hoq; exact (Option.some.inj hoq).symm
            rw [jn_on _ d j J A (fun p hp e => by
              obtain ⟨op, hop, hpd, _⟩ := ok.junk p hp
              exact ok.diff p.1 j op oq d hop ho (by rw [hpd, e]) hd) ⟨q, hq, by rw [hqd] at hd; exact Option.some.inj hd⟩ hlt]
            simp
          · have := hu.2 p hp lp ne
            simp only [e, if_true, if_neg ne]
            exact this
        · simp only [hJ] at hu
          have notJ : ∀ p ∈ J, p.1 ≠ j := fun p hp e => hJ (List.any_eq_true.2 ⟨p, hp, by simpa using e⟩)
          refine next x u w' hC (fun p hp hl => hT _ _ _ _ ht (i.S p hp hl)) (fun p hp e => absurd e (notJ p hp)) (fun _ _ => rfl) (fun d hd hlt => ?_) fun _ _ _ q hq e _ => absurd e (notJ q hq)
          rw [jn_off x d J A fun p hp e => by
            obtain ⟨op, hop, hpd, _⟩ := ok.junk p hp
            exact notJ p hp (ok.diff p.1 j op o d hop ho (by rw [hpd, e]) hd), hvd d hd (hA0 ▸ hlt)]
          have hvl : v = lit := by
            rcases hy with ⟨_, hq⟩ | ⟨hq, _⟩
            · have := hq w i.C
              unfold Oper.quietAt at this
              simp [execOp, Oper.quietUpon, Act.eval] at this
              exact this.symm
            · rw [hyy] at hq
              have : Region.wanted o (yielded ops b.tmps) = false := hq
              rw [hbA, ← hwA, ← hwa, hw] at this
              cases this
          simp at hu
          rw [hvl, hu]
      · have hwf : Region.wanted o (yielded ops a.tmps) = false := by simpa using hw
        have notJ : ∀ p ∈ J, p.1 ≠ j := fun p hp e => by
          have := hG p hp o (by rw [e]; exact ho)
          rw [← hwA, ← hwa, hwf] at this
          cases this
        have hvu : v = undef := by
          rcases hy with ⟨hq, _⟩ | ⟨_, hq⟩
          · rw [hyy] at hq
            have : Region.wanted o (yielded ops b.tmps) = true := hq
            rw [hbA, ← hwA, ← hwa, hwf] at this
            cases this
          · exact hq
        unfold wpOp
        simp only [ho, hwf]
        refine next x undef w i.C i.S (fun p hp e => absurd e (notJ p hp)) (fun _ _ => rfl) (fun d hd hlt => ?_) fun _ _ _ q hq e _ => absurd e (notJ q hq)
        rw [jn_off x d J A fun p hp e => by
          obtain ⟨op, hop, hpd, _⟩ := ok.junk p hp
          exact notJ p hp (ok.diff p.1 j op o d hop ho (by rw [hpd, e]) hd), hvd d hd (hA0 ▸ hlt), hvu]

/-- THE REGION, and what is known of any two of J (R: that two new blocks are not one); guarded ones of J too (the walk shows that they come up): N names the operations that are told (a call: the value that it hands back; one whose value hangs on the order: 'undef', and J has its number and its slot, S what is known of it). The walk goes over the others; at its end stand what is asked of each that is told, and what follows. -/
theorem any_toldJ {Q : Exit → Act → World → Prop} {a : Act} {w : World} {l : List Oper} (N : List (Nat × Value)) (J : List (Nat × Tmp)) (S : Nat → Value → World → Prop) (R : Nat → Value → Nat → Value → Prop) (C : World → Prop) (T : World → World → Prop)
    (hB : okG l.toArray N J = true) (hC : C w.drew) (hT : ∀ k v w w', T w w' → S k v w → S k v w')
    (h : wpQuiet P (rep N 0 l).toArray C (fun A => (∀ q ∈ J, ∀ o, l[q.1]? = some o → Region.wanted o (yielded l.toArray A.tmps) = true) ∧ (∀ p ∈ N, ∀ o, l[p.1]? = some o → ToldJ P l.toArray J S R C T A p.1 p.2 o) ∧ ∀ x w, C w → (∀ q ∈ J, S q.1 (x q.1) w) → (∀ p ∈ J, ∀ q ∈ J, p.1 ≠ q.1 → R p.1 (x p.1) q.1 (x q.1)) → Q .normal (jn x J A) w) (rep N 0 l) a) :
    wpAny P .any l.toArray Q l.toArray.size (Array.replicate l.toArray.size false) a w.drew := by
  have ok := ok_of hB
  have get : ∀ (j : Nat) o', (rep N 0 l)[j]? = some o' → ∃ o, l.toArray[j]? = some o ∧ o' = (match N.lookup j with
      | some v => { o with op := .move (.const v) }
      | none => o) := fun j o' hj => by
    rw [rep_get, Nat.zero_add] at hj
    obtain ⟨o, ho, e⟩ := Option.map_eq_some_iff.1 hj
    exact ⟨o, by simpa using ho, e.symm⟩
  have dstEq : ∀ {j : Nat} {o : Oper}, (match N.lookup j with
      | some v => ({ o with op := .move (.const v) } : Oper)
      | none => o).dst = o.dst := fun {j o} => by split <;> rfl
  obtain ⟨A, ⟨hW, hN, hQ⟩, h1, h2, h3, h4⟩ := walk_out (rep N 0 l) a
    (fun i j oi oj d hi hj e1 e2 => by
      obtain ⟨o, ho, rfl⟩ := get i oi hi
      obtain ⟨o2, ho2, rfl⟩ := get j oj hj
      rw [dstEq] at e1 e2
      exact ok.diff i j o o2 d ho ho2 e1 e2) h
  refine go_anyJ (R := R) (ops' := (rep N 0 l).toArray) (N := N) (A := A) (a₀ := a) (S := S) (T := T) ok (fun p hp o ho => hW p hp o (by simpa using ho)) hT (yielded_rep N l) h2 (fun t ht => h3 t fun j o' hj => ?_) (fun j o ho => ?_) (fun p hp o ho => hN p hp o (by simpa using ho)) hQ _ _ (fun _ => undef) _ _ (by simp) ?_ ⟨hC, ?_, h1.symm, h2.symm, ?_, fun _ _ => rfl, ?_⟩ ?_
  · obtain ⟨o, ho, rfl⟩ := get j o' hj
    rw [dstEq]
    exact ht j o ho
  · obtain ⟨v, b, hy, hv, hb1, hb2⟩ := h4 j _ (by rw [rep_get, Nat.zero_add, show l[j]? = some o by simpa using ho]; rfl)
    refine ⟨v, b, hy, fun d hd => hv d (Eq.trans (dstEq (j := j) (o := o)) hd), fun t ht => hb1 t fun k o' hk hk' => ?_, fun t ht => hb2 t fun k o' hk hk' => ?_⟩
    all_goals
      obtain ⟨o2, ho2, rfl⟩ := get k o' hk'
      rw [dstEq]
      exact ht k o2 hk ho2
  · exact Nat.le_trans (List.length_filter_le _ _) (by simp)
  · intro p _ hl
    rw [fresh_not] at hl
    cases hl
  · intro t k o _ _ hl
    rw [fresh_not] at hl
    cases hl
  · intro k o _ hl
    rw [fresh_not] at hl
    cases hl
  · intro p _ q _ hl
    rw [fresh_not] at hl
    cases hl
end
end Go.Proofs.Ytfcnabpbpbhacaa.spc
namespace Go.Proofs.Ytfcnabpbpbhacaa.lsn
open Go.Proofs.Ytfcnabpbpbhacaa.lst (Q0 upon_q quiet_mono)

section
variable {P : Program} {Q : Exit → Act → World → Prop}
/-- what is told among it, as in Spec -/
theorem toldJ {id : Nat} {a : Act} {w : World} {l l0 l' : List Oper} (n : Nat) (t : List Oper) (N : List (Nat × Value)) (J : List (Nat × Tmp)) (S : Nat → Value → World → Prop) (R : Nat → Value → Nat → Value → Prop) (C : World → Prop) (T : World → World → Prop) (hm : P.follows .mixedOrders = true) (hl : l.take n = l0) (ht : l.drop n = t)
    (hB : spc.okG l0.toArray N J = true) (hL : lastsB l0 t = true) (hC : C w.drew) (hT : ∀ k v w w', T w w' → S k v w → S k v w') (hr : spc.rep N 0 l0 = l')
    (h : wpQuiet P l'.toArray (fun w' => ∃ i : spc.In C, w' = i.W) (fun A => (∀ q ∈ J, ∀ o, l0[q.1]? = some o → Region.wanted o (yielded l0.toArray A.tmps) = true) ∧ (∀ p ∈ N, ∀ o, l0[p.1]? = some o → spc.ToldJ P l0.toArray J S R C T A p.1 p.2 o) ∧ ∀ x w, C w → (∀ q ∈ J, S q.1 (x q.1) w) → (∀ p ∈ J, ∀ q ∈ J, p.1 ≠ q.1 → R p.1 (x p.1) q.1 (x q.1)) → wpList P l.toArray Q t (spc.jn x J A) w) l' a) :
    (Code.region id l.toArray true).wp P Q a w := by
  have e : l = l0 ++ t := by rw [← hl, ← ht, List.take_append_drop]
  refine wp_region_any hm ?_
  subst e
  rw [spc.in_eq] at h
  subst hr
  have hz : (l0 ++ t).toArray.size = l0.length + t.length := by simp
  rw [hz, ← pushes_rep]
  refine wpAny_snocs t l0 _ _ _ _ hL (by simp) (closed_none _ _) ?_
  have := spc.any_toldJ (P := P) (Q := nest P Q l0 t) (a := a) (w := w) (l := l0) N J S R C T hB hC hT (quiet_mono (fun A hA => ⟨hA.1, hA.2.1, fun x w hc hs hr => nest_in _ t l0 hL _ _ (hA.2.2 x w hc hs hr)⟩) _ _ h)
  simpa using this
end
end Go.Proofs.Ytfcnabpbpbhacaa.lsn
