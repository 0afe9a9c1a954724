/- A region that draws its order, whose last operation waits for all others: it is the region without it, and then that operation. -/
import Derived.Test.YtbhejjpkmnldhaaClass
import Derived.Test.YtbhejjpkmnldhaaSpec
import Derived.Orders
namespace Go.Proofs.Ytbhejjpkmnldhaa.lst

section
variable {P : Program} {Q : Exit → Act → World → Prop}

/-- the last operation stands behind the others' walk -/
def Q0 (P : Program) (ops : Array Oper) (n : Nat) (Q : Exit → Act → World → Prop) : Exit → Act → World → Prop
  | .normal, a, w => wpOp P ops Q n (Q .normal) a w
  | e, a, w => Q e a w
def lastB (l : List Oper) (o : Oper) : Bool :=
  (((List.range l.length).all fun j => o.after.any fun e => Region.binds .any e && e.on == j) && (o.after.all fun e => !(Region.binds .any e) || decide (e.on < l.length))) &&
  ((List.range l.length).all fun i => match l[i]? with
    | some x => (x.after.all fun e => !(Region.binds .any e) || decide (e.on < i)) && (match x.guard with
      | some (g, _) => decide (g < i)
      | none => true)
    | none => true)
structure Last (l : List Oper) (o : Oper) : Prop where
  all : ∀ j, j < l.length → ∃ e ∈ o.after, Region.binds .any e = true ∧ e.on = j
  own : ∀ e ∈ o.after, Region.binds .any e = true → e.on < l.length
  back : ∀ (i : Nat) x, l[i]? = some x → ∀ e ∈ x.after, Region.binds .any e = true → e.on < i
  guard : ∀ (i : Nat) x g b, l[i]? = some x → x.guard = some (g, b) → g < i
theorem last_of {l : List Oper} {o : Oper} (h : lastB l o = true) : Last l o := by
  unfold lastB at h
  rw [Bool.and_eq_true, Bool.and_eq_true, List.all_eq_true, List.all_eq_true] at h
  obtain ⟨⟨h1, h3⟩, h2⟩ := h
  refine ⟨fun j hj => ?_, fun e he hb => (by have := (Array.all_eq_true'.1 h3) e he; rw [hb] at this; simpa using this), fun i x hx e he hb => ?_, fun i x g b hx hg => ?_⟩
  · have := h1 j (List.mem_range.2 hj)
    rw [Array.any_eq_true'] at this
    obtain ⟨e, he, hb⟩ := this
    rw [Bool.and_eq_true] at hb
    exact ⟨e, he, hb.1, by simpa using hb.2⟩
  · have := h2 i (List.mem_range.2 (List.getElem?_eq_some_iff.1 hx).1)
    rw [hx] at this
    simp only [Bool.and_eq_true] at this
    have := (Array.all_eq_true'.1 this.1) e he
    rw [hb] at this
    simpa using this
  · have := h2 i (List.mem_range.2 (List.getElem?_eq_some_iff.1 hx).1)
    rw [hx] at this
    simp only [Bool.and_eq_true, hg] at this
    simpa using this.2
theorem upon_q {o : Oper} {a : Act} {w : World} {K K' : Act → World → Prop} {Q' : Exit → Act → World → Prop} (hK : ∀ a w, K a w → K' a w) (hQ : ∀ e a w, e ≠ .normal → Q e a w → Q' e a w)
    (h : o.wp P a w K Q) : o.wp P a w K' Q' := by
  have hl : LetsOut Q → LetsOut Q' := fun ⟨a, w, hh⟩ => ⟨a, w, hQ _ _ _ (by simp) hh⟩
  unfold Oper.wp at *
  generalize (execOp a.eval o).run P w = r at *
  unfold Oper.upon at *
  split
  · exact hK _ _ h
  · exact hK _ _ h
  · exact hK _ _ h
  · refine Calls.mono h fun e w' hh => ?_
    cases e with
    | returned v => exact hK _ _ hh
    | panicked c => exact hQ _ _ _ (by simp) hh
    | outgrown => exact hl hh
  · exact Rows.mono h fun v w' hh => hK _ _ hh
  · exact hQ _ _ _ (by simp) h
  · rename_i h1 h2 h3 h4 h5 h6
    revert h
    split <;> simp_all
theorem yielded_snoc {l : List Oper} {o : Oper} {tm : Array Value} {g : Nat} (hg : g < l.length) : yielded (l ++ [o]).toArray tm g = yielded l.toArray tm g := by
  unfold yielded
  simp [List.getElem?_append_left hg]
theorem op_snoc {l : List Oper} {o : Oper} (H : Last l o) {n : Nat} {K K' : Act → World → Prop} {i : Nat} (hi : i < l.length) {a : Act} {w : World} (hK : ∀ a w, K a w → K' a w)
    (h : wpOp P l.toArray (Q0 P (l ++ [o]).toArray n Q) i K a w) : wpOp P (l ++ [o]).toArray Q i K' a w := by
  have e1 : l.toArray[i]? = some l[i] := by simp
  have e2 : (l ++ [o]).toArray[i]? = some l[i] := by simp [List.getElem?_append_left hi]
  have hw : Region.wanted l[i] (yielded (l ++ [o]).toArray a.tmps) = Region.wanted l[i] (yielded l.toArray a.tmps) := by
    unfold Region.wanted
    cases hg : l[i].guard with
    | none => rfl
    | some gb =>
      obtain ⟨g, b⟩ := gb
      have := H.guard i l[i] g b (by simp) hg
      simp only [yielded_snoc (o := o) (l := l) (tm := a.tmps) (show g < l.length by omega)]
  have hq : ∀ e a w, e ≠ .normal → Q0 P (l ++ [o]).toArray n Q e a w → Q e a w := by
    intro e a w he hh
    cases e <;> first | exact absurd rfl he | exact hh
  unfold wpOp at *
  simp only [e1] at h
  simp only [e2, hw]
  split
  · rename_i hh
    simp only [hh, if_true] at h
    exact h.imp (upon_q hK hq) fun ⟨x, y⟩ => ⟨x, let ⟨a, w, z⟩ := y; ⟨a, w, hq _ _ _ (by simp) z⟩⟩
  · rename_i hh
    simp only [hh] at h
    exact hK _ _ h
theorem push_at {L : Array Bool} {i : Nat} (d : Bool) (h : i < L.size) : (L.push false).getD i d = L.getD i d := by
  simp [h, Nat.lt_succ_of_lt h, Array.getElem_push_lt h]
theorem ready_snoc {l : List Oper} {o : Oper} (H : Last l o) {L : Array Bool} (hz : L.size = l.length) {i : Nat} (hi : i < l.length) : i ∈ Region.ready .any (l ++ [o]).toArray (L.push false) ↔ i ∈ Region.ready .any l.toArray L := by
  rw [mem_ready, mem_ready]
  have e1 : l.toArray[i]? = some l[i] := by simp
  have e2 : (l ++ [o]).toArray[i]? = some l[i] := by simp [List.getElem?_append_left hi]
  rw [push_at _ (by omega), e1, e2]
  constructor
  · rintro ⟨h0, x, hx, hall⟩
    obtain rfl := Option.some.inj hx
    refine ⟨h0, _, rfl, fun e he hb => ?_⟩
    have := H.back i l[i] (by simp) e he hb
    have := hall e he hb
    rwa [push_at _ (by omega)] at this
  · rintro ⟨h0, x, hx, hall⟩
    obtain rfl := Option.some.inj hx
    refine ⟨h0, _, rfl, fun e he hb => ?_⟩
    have := H.back i l[i] (by simp) e he hb
    rw [push_at _ (by omega)]
    exact hall e he hb
theorem ready_nil {l : List Oper} {o : Oper} (H : Last l o) {L : Array Bool} (hz : L.size = l.length) (h : Region.ready .any l.toArray L = []) :
    ∀ n j, j < n → j < l.length → L.getD j false = true
  | 0, _, hj, _ => absurd hj (Nat.not_lt_zero _)
  | n + 1, j, hj, hl => by
    by_cases hlj : L.getD j false = true
    · exact hlj
    · exfalso
      have hm : j ∈ Region.ready .any l.toArray L := mem_ready.2 ⟨by simp [hz ▸ hl] at hlj ⊢; exact hlj, l[j], by simp, fun e he hb =>
        have hlt := H.back j l[j] (by simp) e he hb
        ready_nil H hz h n e.on (by omega) (by omega)⟩
      rw [h] at hm
      cases hm
theorem last_ready {l : List Oper} {o : Oper} (H : Last l o) {L : Array Bool} (hz : L.size = l.length) {i : Nat} (hi : ¬ i < l.length) (h : i ∈ Region.ready .any (l ++ [o]).toArray (L.push false)) : i = l.length ∧ ∀ j, j < l.length → L.getD j false = true := by
  obtain ⟨_, x, hx, hall⟩ := mem_ready.1 h
  have hlt := (Array.getElem?_eq_some_iff.1 hx).1
  simp at hlt
  have hil : i = l.length := by omega
  refine ⟨hil, fun j hj => ?_⟩
  subst hil
  have : x = o := by simpa using hx.symm
  subst this
  obtain ⟨e, he, hb, rfl⟩ := H.all j hj
  have := hall e he hb
  rwa [push_at _ (by omega)] at this
theorem done_of {l : List Oper} {o : Oper} (H : Last l o) {L : Array Bool} (hz : L.size = l.length) (hL : ∀ j, j < l.length → L.getD j false = true) (fuel : Nat) (a : Act) (w : World)
    (h : wpOp P (l ++ [o]).toArray Q l.length (Q .normal) a w) : wpAny P .any (l ++ [o]).toArray Q (fuel + 1) (L.push false) a w := by
  have hn : l.length ∈ Region.ready .any (l ++ [o]).toArray (L.push false) := by
    refine mem_ready.2 ⟨by simp [← hz], o, by simp, fun e he hb => ?_⟩
    rw [push_at _ (by rw [hz]; exact H.own e he hb)]
    exact hL e.on (H.own e he hb)
  have hr : Region.ready .any (l ++ [o]).toArray ((L.push false).setIfInBounds l.length true) = [] := by
    rw [List.eq_nil_iff_forall_not_mem]
    intro j hj
    obtain ⟨h0, x, hx, _⟩ := mem_ready.1 hj
    have hlt := (Array.getElem?_eq_some_iff.1 hx).1
    simp at hlt
    by_cases e : j = l.length
    · subst e
      simp [← hz] at h0
    · have hj' : j < l.length := by omega
      have := hL j hj'
      rw [getD_set_ne true (Ne.symm e), push_at _ (by omega)] at h0
      simp [hz ▸ hj'] at h0 this
      rw [h0] at this
      cases this
  refine ⟨fun hh => (by rw [hh] at hn; cases hn), fun i hi => ?_⟩
  by_cases hil : i < l.length
  · have h0 := (mem_ready.1 hi).1
    have := hL i hil
    rw [push_at _ (by omega)] at h0
    simp [hz ▸ hil] at h0 this
    rw [h0] at this
    cases this
  · obtain ⟨rfl, _⟩ := last_ready H hz hil hi
    refine wpOp_mono (fun a w hq => ?_) h
    cases fuel with
    | zero => exact ⟨hr, hq⟩
    | succ f => exact ⟨fun _ => hq, fun i hi => (by rw [hr] at hi; cases hi)⟩
theorem wpAny_snoc {l : List Oper} {o : Oper} (H : Last l o) : ∀ (fuel : Nat) (L : Array Bool) (a : Act) (w : World), L.size = l.length →
    wpAny P .any l.toArray (Q0 P (l ++ [o]).toArray l.length Q) fuel L a w → wpAny P .any (l ++ [o]).toArray Q (fuel + 1) (L.push false) a w := by
  intro fuel
  induction fuel with
  | zero =>
    intro L a w hz h
    exact done_of H hz (fun j hj => ready_nil H hz h.1 (j + 1) j (by omega) hj) 0 a w h.2
  | succ fuel ih =>
    intro L a w hz h
    by_cases hr : Region.ready .any l.toArray L = []
    · exact done_of H hz (fun j hj => ready_nil H hz hr (j + 1) j (by omega) hj) _ a w (h.1 hr)
    · obtain ⟨k, hk⟩ := List.exists_mem_of_ne_nil _ hr
      have hkl : k < l.length := by
        obtain ⟨_, x, hx, _⟩ := mem_ready.1 hk
        have := (Array.getElem?_eq_some_iff.1 hx).1
        simpa using this
      refine ⟨fun hh => ?_, fun i hi => ?_⟩
      · have := (ready_snoc H hz hkl).2 hk
        rw [hh] at this
        cases this
      · by_cases hil : i < l.length
        · refine op_snoc H hil (fun a w hh => ?_) (h.2 i ((ready_snoc H hz hil).1 hi))
          have := ih (L.setIfInBounds i true) a w (by simpa using hz) hh
          have e : (L.setIfInBounds i true).push false = (L.push false).setIfInBounds i true := by
            apply Array.ext_getElem?
            intro j
            simp only [Array.getElem?_setIfInBounds, Array.getElem?_push, Array.size_setIfInBounds, Array.size_push]
            have hil' : i < L.size := by omega
            by_cases hj : j = L.size
            · subst hj
              have hij : i ≠ L.size := by omega
              simp [hij]
            · by_cases hij : i = j
              · subst hij; simp [hj, hil']; omega
              · simp [hj, hij]
          rwa [e] at this
        · obtain ⟨_, hall⟩ := last_ready H hz hil hi
          have h0 := (mem_ready.1 hk).1
          have := hall k hkl
          simp [hz ▸ hkl] at h0 this
          rw [h0] at this
          cases this
/-- the operations ahead of the last one only read, and their calls only make new memory; then the last one -/
theorem wp_region_last {id : Nat} {a : Act} {w : World} {l l' : List Oper} {o : Oper} (C : World → Prop) (hm : P.follows .mixedOrders = true) (hl : l.dropLast = l') (ho : l.getLast? = some o)
    (hB : Region.lexB .any l'.toArray = true) (hL : lastB l' o = true) (hC : C w.drew)
    (h : wpQuiet P l'.toArray (fun w' => ∃ i : cls.In C, w' = i.W) (fun a' => ∀ w', (∃ i : cls.In C, w' = i.W) → wpList P l.toArray Q [o] a' w') l' a) :
    (Code.region id l.toArray true).wp P Q a w := by
  have e : l = l' ++ [o] := by
    obtain ⟨ys, rfl⟩ := List.getLast?_eq_some_iff.1 ho
    simp at hl
    rw [hl]
  subst e
  clear hl ho
  have H := last_of hL
  have hop : ∀ a w, wpList P (l' ++ [o]).toArray Q [o] a w → wpOp P (l' ++ [o]).toArray Q l'.length (Q .normal) a w := by
    intro a w hh
    unfold wpOp
    simp only [List.getElem?_toArray, List.getElem?_concat_length]
    exact hh
  refine wp_region_any hm ?_
  have hz : (l' ++ [o]).toArray.size = l'.length + 1 := by simp
  rw [hz, show Array.replicate (l'.length + 1) false = (Array.replicate l'.length false).push false from (by simp [Array.replicate_succ])]
  refine wpAny_snoc H _ _ _ _ (by simp) ?_
  simp only [Region.lexB, Bool.and_eq_true] at hB
  refine wpAny_of_quiet (C := fun w' => ∃ i : cls.In C, w' = i.W) (Q := fun a' => ∀ w', (∃ i : cls.In C, w' = i.W) → wpList P (l' ++ [o]).toArray Q [o] a' w') (fun _ w' hw' h => hop _ _ (h w' hw')) _ _ _ _ ⟨⟨w.drew, hC⟩, rfl⟩ ?_
  have := wpAnyQ_lex (C := fun w' => ∃ i : cls.In C, w' = i.W) (md := .any) hB.1 l' 0 (Array.replicate l'.length false) a (by simp) (by simpa using hB.2) h
  simpa using this
theorem quiet_mono {P : Program} {ops : Array Oper} {C : World → Prop} {Q Q' : Act → Prop} (hq : ∀ a, Q a → Q' a) : ∀ (l : List Oper) (a : Act), wpQuiet P ops C Q l a → wpQuiet P ops C Q' l a
  | [], a, h => hq a h
  | o :: rest, a, h => by
    unfold wpQuiet at *
    split
    · rename_i hw
      rw [if_pos hw] at h
      obtain ⟨v, hv, hn⟩ := h
      exact ⟨v, hv, quiet_mono hq rest _ hn⟩
    · rename_i hw
      rw [if_neg hw] at h
      exact quiet_mono hq rest _ h
/-- the same where operations ahead of the last one make memory: those are told, as in Spec -/
theorem wp_region_told_last {id : Nat} {a : Act} {w : World} {l l0 l' : List Oper} {o : Oper} (N : List (Nat × Value)) (J : List (Nat × Tmp)) (S : Nat → Value → World → Prop) (C : World → Prop) (T : World → World → Prop) (hm : P.follows .mixedOrders = true)
    (hd : l.dropLast = l0) (ho : l.getLast? = some o) (hB : spc.okB l0.toArray N J = true) (hL : lastB l0 o = true) (hC : C w.drew) (hT : ∀ k v w w', T w w' → S k v w → S k v w') (hl : spc.rep N 0 l0 = l')
    (h : wpQuiet P l'.toArray (fun w' => ∃ i : spc.In C, w' = i.W) (fun A => (∀ p ∈ N, ∀ o, l0[p.1]? = some o → spc.Told P l0.toArray J S C T A p.1 p.2 o) ∧ ∀ x w, C w → (∀ q ∈ J, S q.1 (x q.1) w) → wpList P l.toArray Q [o] (spc.jn x J A) w) l' a) :
    (Code.region id l.toArray true).wp P Q a w := by
  have e : l = l0 ++ [o] := by
    obtain ⟨ys, rfl⟩ := List.getLast?_eq_some_iff.1 ho
    simp at hd
    rw [hd]
  subst e
  clear hd ho
  rw [spc.in_eq] at h
  subst hl
  have H := last_of hL
  have hop : ∀ a w, wpList P (l0 ++ [o]).toArray Q [o] a w → wpOp P (l0 ++ [o]).toArray Q l0.length (Q .normal) a w := by
    intro a w hh
    unfold wpOp
    simp only [List.getElem?_toArray, List.getElem?_concat_length]
    exact hh
  refine wp_region_any hm ?_
  have hz : (l0 ++ [o]).toArray.size = l0.length + 1 := by simp
  rw [hz, show Array.replicate (l0.length + 1) false = (Array.replicate l0.length false).push false from (by simp [Array.replicate_succ])]
  refine wpAny_snoc H _ _ _ _ (by simp) ?_
  have := spc.any_told (P := P) (Q := Q0 P (l0 ++ [o]).toArray l0.length Q) (a := a) (w := w) (l := l0) N J S C T hB hC hT (quiet_mono (fun A hA => ⟨hA.1, fun x w hc hs => hop _ _ (hA.2 x w hc hs)⟩) _ _ h)
  simpa using this
end
end Go.Proofs.Ytbhejjpkmnldhaa.lst
