/- A region that draws its order, whose last operations each wait, by however many steps, for all ahead of them: it is the region without them, and then these, one after the other. -/
import Derived.Test.YtbhejjpkmnldhaaLast
namespace Go.Proofs.Ytbhejjpkmnldhaa.lsn
open Go.Proofs.Ytbhejjpkmnldhaa.lst (Q0 upon_q quiet_mono)

section
variable {P : Program} {Q : Exit → Act → World → Prop}
def lastB (l : List Oper) (o : Oper) : Bool :=
  (((List.range l.length).all fun j => spc.waits (l ++ [o]).toArray (l.length + 1) l.length j) && (o.after.all fun e => !(Region.binds .any e) || decide (e.on < l.length))) &&
  ((List.range l.length).all fun i => match l[i]? with
    | some x => (x.after.all fun e => !(Region.binds .any e) || decide (e.on < i)) && (match x.guard with
      | some (g, _) => decide (g < i)
      | none => true)
    | none => true)
structure LastT (l : List Oper) (o : Oper) : Prop where
  all : ∀ j, j < l.length → spc.waits (l ++ [o]).toArray (l.length + 1) l.length j = true
  own : ∀ e ∈ o.after, Region.binds .any e = true → e.on < l.length
  back : ∀ (i : Nat) x, l[i]? = some x → ∀ e ∈ x.after, Region.binds .any e = true → e.on < i
  guard : ∀ (i : Nat) x g b, l[i]? = some x → x.guard = some (g, b) → g < i
/-- what is listed is shut under what it waits for -/
def Closed (l : List Oper) (L : Array Bool) : Prop := ∀ (k : Nat) x, l[k]? = some x → L.getD k false = true → ∀ e ∈ x.after, Region.binds .any e = true → L.getD e.on false = true
theorem last_of {l : List Oper} {o : Oper} (h : lastB l o = true) : LastT l o := by
  unfold lastB at h
  rw [Bool.and_eq_true, Bool.and_eq_true, List.all_eq_true, List.all_eq_true] at h
  obtain ⟨⟨h1, h3⟩, h2⟩ := h
  refine ⟨fun j hj => h1 j (List.mem_range.2 hj), fun e he hb => (by have := (Array.all_eq_true'.1 h3) e he; rw [hb] at this; simpa using this), fun i x hx e he hb => ?_, fun i x g b hx hg => ?_⟩
  · have := h2 i (List.mem_range.2 (List.getElem?_eq_some_iff.1 hx).1)
    rw [hx] at this
    simp only [Bool.and_eq_true] at this
    have := (Array.all_eq_true'.1 this.1) e he
    rw [hb] at this
    simpa using this
  · have := h2 i (List.mem_range.2 (List.getElem?_eq_some_iff.1 hx).1)
    rw [hx] at this
    simp only [Bool.and_eq_true, hg] at this
    simpa using this.2
theorem yielded_snoc {l : List Oper} {o : Oper} {tm : Array Value} {g : Nat} (hg : g < l.length) : yielded (l ++ [o]).toArray tm g = yielded l.toArray tm g := by
  unfold yielded
  simp [List.getElem?_append_left hg]
theorem op_snoc {l : List Oper} {o : Oper} (H : LastT l o) {n : Nat} {K K' : Act → World → Prop} {i : Nat} (hi : i < l.length) {a : Act} {w : World} (hK : ∀ a w, K a w → K' a w)
    (h : wpOp P l.toArray (Q0 P (l ++ [o]).toArray n Q) i K a w) : wpOp P (l ++ [o]).toArray Q i K' a w := by
  have e1 : l.toArray[i]? = some l[i] := by simp
  have e2 : (l ++ [o]).toArray[i]? = some l[i] := by simp [List.getElem?_append_left hi]
  have hw : Region.wanted l[i] (yielded (l ++ [o]).toArray a.tmps) = Region.wanted l[i] (yielded l.toArray a.tmps) := by
    unfold Region.wanted
    cases hg : l[i].guard with
    | none => rfl
    | some gb =>
      obtain ⟨g, b⟩ := gb
      have := H.guard i l[i] g b (by simp) hg
      simp only [yielded_snoc (o := o) (l := l) (tm := a.tmps) (show g < l.length by omega)]
  have hq : ∀ e a w, e ≠ .normal → Q0 P (l ++ [o]).toArray n Q e a w → Q e a w := by
    intro e a w he hh
    cases e <;> first | exact absurd rfl he | exact hh
  unfold wpOp at *
  simp only [e1] at h
  simp only [e2, hw]
  split
  · rename_i hh
    simp only [hh, if_true] at h
    exact h.imp (upon_q hK hq) fun ⟨x, y⟩ => ⟨x, let ⟨a, w, z⟩ := y; ⟨a, w, hq _ _ _ (by simp) z⟩⟩
  · rename_i hh
    simp only [hh] at h
    exact hK _ _ h
theorem push_at {L : Array Bool} {i : Nat} (d : Bool) (h : i < L.size) : (L.push false).getD i d = L.getD i d := by
  simp [h, Nat.lt_succ_of_lt h, Array.getElem_push_lt h]
theorem ready_snoc {l : List Oper} {o : Oper} (H : LastT l o) {L : Array Bool} (hz : L.size = l.length) {i : Nat} (hi : i < l.length) : i ∈ Region.ready .any (l ++ [o]).toArray (L.push false) ↔ i ∈ Region.ready .any l.toArray L := by
  rw [mem_ready, mem_ready]
  have e1 : l.toArray[i]? = some l[i] := by simp
  have e2 : (l ++ [o]).toArray[i]? = some l[i] := by simp [List.getElem?_append_left hi]
  rw [push_at _ (by omega), e1, e2]
  constructor
  · rintro ⟨h0, x, hx, hall⟩
    obtain rfl := Option.some.inj hx
    refine ⟨h0, _, rfl, fun e he hb => ?_⟩
    have := H.back i l[i] (by simp) e he hb
    have := hall e he hb
    rwa [push_at _ (by omega)] at this
  · rintro ⟨h0, x, hx, hall⟩
    obtain rfl := Option.some.inj hx
    refine ⟨h0, _, rfl, fun e he hb => ?_⟩
    have := H.back i l[i] (by simp) e he hb
    rw [push_at _ (by omega)]
    exact hall e he hb
theorem ready_nil {l : List Oper} {o : Oper} (H : LastT l o) {L : Array Bool} (hz : L.size = l.length) (h : Region.ready .any l.toArray L = []) :
    ∀ n j, j < n → j < l.length → L.getD j false = true
  | 0, _, hj, _ => absurd hj (Nat.not_lt_zero _)
  | n + 1, j, hj, hl => by
    by_cases hlj : L.getD j false = true
    · exact hlj
    · exfalso
      have hm : j ∈ Region.ready .any l.toArray L := mem_ready.2 ⟨by simp [hz ▸ hl] at hlj ⊢; exact hlj, l[j], by simp, fun e he hb =>
        have hlt := H.back j l[j] (by simp) e he hb
        ready_nil H hz h n e.on (by omega) (by omega)⟩
      rw [h] at hm
      cases hm
theorem waits_listed {l : List Oper} {o : Oper} (H : LastT l o) {L : Array Bool} (hz : L.size = l.length) (hc : Closed l L) {k : Nat} : ∀ (n j : Nat), spc.waits (l ++ [o]).toArray n j k = true → (j < l.length → L.getD j false = true) → (j = l.length → ∀ e ∈ o.after, Region.binds .any e = true → L.getD e.on false = true) → L.getD k false = true
  | 0, _, h, _, _ => by cases h
  | n + 1, j, h, hj, hl => by
    unfold spc.waits at h
    split at h
    · rename_i x hx
      obtain ⟨e, he, hb⟩ := Array.any_eq_true'.1 h
      simp only [Bool.and_eq_true, Bool.or_eq_true, beq_iff_eq] at hb
      have hlt := (Array.getElem?_eq_some_iff.1 hx).1
      simp at hlt
      have hon : L.getD e.on false = true := by
        by_cases e1 : j = l.length
        · subst e1
          have : x = o := by simpa using hx.symm
          subst this
          exact hl rfl e he hb.1
        · have hjl : j < l.length := by omega
          have hx' : l[j]? = some x := by simpa [List.getElem?_append_left hjl] using hx
          exact hc j x hx' (hj hjl) e he hb.1
      have hlo : e.on < l.length := by
        by_cases e1 : j = l.length
        · subst e1
          have : x = o := by simpa using hx.symm
          subst this
          exact H.own e he hb.1
        · have hjl : j < l.length := by omega
          have hx' : l[j]? = some x := by simpa [List.getElem?_append_left hjl] using hx
          have := H.back j x hx' e he hb.1
          omega
      rcases hb.2 with h2 | h2
      · exact h2 ▸ hon
      · exact waits_listed H hz hc n e.on h2 (fun _ => hon) (fun e1 => by omega)
    · cases h
theorem last_ready {l : List Oper} {o : Oper} (H : LastT l o) {L : Array Bool} (hz : L.size = l.length) (hc : Closed l L) {i : Nat} (hi : ¬ i < l.length) (h : i ∈ Region.ready .any (l ++ [o]).toArray (L.push false)) : i = l.length ∧ ∀ j, j < l.length → L.getD j false = true := by
  obtain ⟨_, x, hx, hall⟩ := mem_ready.1 h
  have hlt := (Array.getElem?_eq_some_iff.1 hx).1
  simp at hlt
  have hil : i = l.length := by omega
  refine ⟨hil, fun j hj => ?_⟩
  subst hil
  have : x = o := by simpa using hx.symm
  subst this
  refine waits_listed H hz hc _ _ (H.all j hj) (fun hh => absurd hh (by omega)) (fun _ e he hb => ?_)
  have h1 := hall e he hb
  have h2 := H.own e he hb
  rwa [push_at _ (by omega)] at h1
theorem closed_step {l : List Oper} {L : Array Bool} (hz : L.size = l.length) (hc : Closed l L) {i : Nat} (hi : i ∈ Region.ready .any l.toArray L) : Closed l (L.setIfInBounds i true) := by
  obtain ⟨_, x, hx, hall⟩ := mem_ready.1 hi
  intro k y hy hk e he hb
  have hr : L.getD e.on false = true := by
    by_cases e1 : k = i
    · subst e1
      have : x = y := by
        have h1 : l[k]? = some x := by simpa using hx
        rw [h1] at hy; exact Option.some.inj hy
      subst this
      exact hall e he hb
    · rw [getD_set_ne false (Ne.symm e1)] at hk
      exact hc k y hy hk e he hb
  by_cases e2 : e.on = i
  · subst e2
    have : e.on < L.size := by
      have := (Array.getElem?_eq_some_iff.1 hx).1
      simp at this; omega
    simp [this]
  · rw [getD_set_ne false (Ne.symm e2)]; exact hr
theorem done_of {l : List Oper} {o : Oper} (H : LastT l o) {L : Array Bool} (hz : L.size = l.length) (hL : ∀ j, j < l.length → L.getD j false = true) (hc : Closed l L) (fuel : Nat) (a : Act) (w : World)
    (h : wpOp P (l ++ [o]).toArray Q l.length (Q .normal) a w) : wpAny P .any (l ++ [o]).toArray Q (fuel + 1) (L.push false) a w := by
  have hn : l.length ∈ Region.ready .any (l ++ [o]).toArray (L.push false) := by
    refine mem_ready.2 ⟨by simp [← hz], o, by simp, fun e he hb => ?_⟩
    rw [push_at _ (by rw [hz]; exact H.own e he hb)]
    exact hL e.on (H.own e he hb)
  have hr : Region.ready .any (l ++ [o]).toArray ((L.push false).setIfInBounds l.length true) = [] := by
    rw [List.eq_nil_iff_forall_not_mem]
    intro j hj
    obtain ⟨h0, x, hx, _⟩ := mem_ready.1 hj
    have hlt := (Array.getElem?_eq_some_iff.1 hx).1
    simp at hlt
    by_cases e : j = l.length
    · subst e
      simp [← hz] at h0
    · have hj' : j < l.length := by omega
      have := hL j hj'
      rw [getD_set_ne true (Ne.symm e), push_at _ (by omega)] at h0
      simp [hz ▸ hj'] at h0 this
      rw [h0] at this
      cases this
  refine ⟨fun hh => (by rw [hh] at hn; cases hn), fun i hi => ?_⟩
  by_cases hil : i < l.length
  · have h0 := (mem_ready.1 hi).1
    have := hL i hil
    rw [push_at _ (by omega)] at h0
    simp [hz ▸ hil] at h0 this
    rw [h0] at this
    cases this
  · obtain ⟨rfl, _⟩ := last_ready H hz hc hil hi
    refine wpOp_mono (fun a w hq => ?_) h
    cases fuel with
    | zero => exact ⟨hr, hq⟩
    | succ f => exact ⟨fun _ => hq, fun i hi => (by rw [hr] at hi; cases hi)⟩
theorem wpAny_snoc {l : List Oper} {o : Oper} (H : LastT l o) : ∀ (fuel : Nat) (L : Array Bool) (a : Act) (w : World), L.size = l.length → Closed l L →
    wpAny P .any l.toArray (Q0 P (l ++ [o]).toArray l.length Q) fuel L a w → wpAny P .any (l ++ [o]).toArray Q (fuel + 1) (L.push false) a w := by
  intro fuel
  induction fuel with
  | zero =>
    intro L a w hz hc h
    exact done_of H hz (fun j hj => ready_nil H hz h.1 (j + 1) j (by omega) hj) hc 0 a w h.2
  | succ fuel ih =>
    intro L a w hz hc h
    by_cases hr : Region.ready .any l.toArray L = []
    · exact done_of H hz (fun j hj => ready_nil H hz hr (j + 1) j (by omega) hj) hc _ a w (h.1 hr)
    · obtain ⟨k, hk⟩ := List.exists_mem_of_ne_nil _ hr
      have hkl : k < l.length := by
        obtain ⟨_, x, hx, _⟩ := mem_ready.1 hk
        have := (Array.getElem?_eq_some_iff.1 hx).1
        simpa using this
      refine ⟨fun hh => ?_, fun i hi => ?_⟩
      · have := (ready_snoc H hz hkl).2 hk
        rw [hh] at this
        cases this
      · by_cases hil : i < l.length
        · refine op_snoc H hil (fun a w hh => ?_) (h.2 i ((ready_snoc H hz hil).1 hi))
          have := ih (L.setIfInBounds i true) a w (by simpa using hz) (closed_step hz hc ((ready_snoc H hz hil).1 hi)) hh
          have e : (L.setIfInBounds i true).push false = (L.push false).setIfInBounds i true := by
            apply Array.ext_getElem?
            intro j
            simp only [Array.getElem?_setIfInBounds, Array.getElem?_push, Array.size_setIfInBounds, Array.size_push]
            have hil' : i < L.size := by omega
            by_cases hj : j = L.size
            · subst hj
              have hij : i ≠ L.size := by omega
              simp [hij]
            · by_cases hij : i = j
              · subst hij; simp [hj, hil']; omega
              · simp [hj, hij]
          rwa [e] at this
        · obtain ⟨_, hall⟩ := last_ready H hz hc hil hi
          have h0 := (mem_ready.1 hk).1
          have := hall k hkl
          simp [hz ▸ hkl] at h0 this
          rw [h0] at this
          cases this

/-- the last ones, each behind all ahead of it -/
def lastsB : List Oper → List Oper → Bool
  | _, [] => true
  | l, o :: r => lastB l o && (o.guard.isNone && lastsB (l ++ [o]) r)
def nest (P : Program) (Q : Exit → Act → World → Prop) : List Oper → List Oper → Exit → Act → World → Prop
  | _, [] => Q
  | l, o :: r => Q0 P (l ++ [o]).toArray l.length (nest P Q (l ++ [o]) r)
theorem nest_out : ∀ (t l : List Oper) (e : Exit) (a : Act) (w : World), e ≠ .normal → Q e a w → nest P Q l t e a w
  | [], _, _, _, _, _, h => h
  | o :: r, l, e, a, w, he, h => by
    have := nest_out r (l ++ [o]) e a w he h
    cases e <;> first | exact absurd rfl he | exact this
theorem nest_in (ops : Array Oper) : ∀ (t l : List Oper), lastsB l t = true → ∀ a w, wpList P ops Q t a w → nest P Q l t .normal a w
  | [], _, _, _, _, h => h
  | o :: r, l, hB, a, w, h => by
    simp only [lastsB, Bool.and_eq_true, Option.isNone_iff_eq_none] at hB
    have hw : ∀ y, Region.wanted o y = true := fun y => by simp [Region.wanted, hB.2.1]
    show wpOp P (l ++ [o]).toArray (nest P Q (l ++ [o]) r) l.length (nest P Q (l ++ [o]) r .normal) a w
    unfold wpOp
    simp only [List.getElem?_toArray, List.getElem?_concat_length, hw, if_true]
    unfold wpList at h
    rw [hw, if_pos rfl] at h
    exact h.imp (upon_q (fun a w => nest_in ops r (l ++ [o]) hB.2.2 a w) fun e a w he hq => nest_out r _ e a w he hq) fun ⟨x, y⟩ => ⟨x, let ⟨a, w, z⟩ := y; ⟨a, w, nest_out r _ _ a w (by simp) z⟩⟩
/-- so many marks more -/
def pushes (L : Array Bool) : List Oper → Array Bool
  | [] => L
  | _ :: r => pushes (L.push false) r
theorem pushes_rep (n : Nat) : ∀ (t : List Oper), pushes (Array.replicate n false) t = Array.replicate (n + t.length) false
  | [] => by simp [pushes]
  | _ :: r => by
    unfold pushes
    rw [show (Array.replicate n false).push false = Array.replicate (n + 1) false from (by simp [Array.replicate_succ]), pushes_rep (n + 1) r]
    simp only [List.length_cons]
    congr 1; omega
theorem closed_push {l : List Oper} {L : Array Bool} (hz : L.size = l.length) (hc : Closed l L) (hb : ∀ (i : Nat) x, l[i]? = some x → ∀ e ∈ x.after, Region.binds .any e = true → e.on < i) (o : Oper) : Closed (l ++ [o]) (L.push false) := by
  intro k x hx hk e he hbe
  by_cases hkl : k < l.length
  · have hx' : l[k]? = some x := by rwa [List.getElem?_append_left hkl] at hx
    have := hb k x hx' e he hbe
    rw [push_at _ (by omega)] at hk
    rw [push_at _ (by omega)]
    exact hc k x hx' hk e he hbe
  · have hlt := (List.getElem?_eq_some_iff.1 hx).1
    simp at hlt
    have : k = L.size := by omega
    subst this
    simp at hk
theorem wpAny_snocs : ∀ (t l : List Oper) (fuel : Nat) (L : Array Bool) (a : Act) (w : World), lastsB l t = true → L.size = l.length → Closed l L →
    wpAny P .any l.toArray (nest P Q l t) fuel L a w → wpAny P .any (l ++ t).toArray Q (fuel + t.length) (pushes L t) a w
  | [], l, fuel, L, a, w, _, _, _, h => by simpa [pushes, nest] using h
  | o :: r, l, fuel, L, a, w, hB, hz, hc, h => by
    simp only [lastsB, Bool.and_eq_true] at hB
    have H := last_of hB.1
    have h1 := wpAny_snoc H fuel L a w hz hc h
    have h2 := wpAny_snocs r (l ++ [o]) (fuel + 1) (L.push false) a w hB.2.2 (by simpa using hz) (closed_push hz hc H.back o) h1
    simpa [pushes, Nat.add_assoc, Nat.add_comm 1] using h2
theorem closed_none (l : List Oper) (n : Nat) : Closed l (Array.replicate n false) := by
  intro k x _ hk
  rw [spc.fresh_not] at hk
  cases hk
/-- what only reads (calls that only make new memory among it), then the last ones -/
theorem region {id : Nat} {a : Act} {w : World} {l l0 : List Oper} (n : Nat) (t : List Oper) (C : World → Prop) (hm : P.follows .mixedOrders = true) (hl : l.take n = l0) (ht : l.drop n = t) (hB : Region.lexB .any l0.toArray = true) (hT : lastsB l0 t = true) (hC : C w.drew)
    (h : wpQuiet P l0.toArray (fun w' => ∃ i : cls.In C, w' = i.W) (fun a' => ∀ w', (∃ i : cls.In C, w' = i.W) → wpList P l.toArray Q t a' w') l0 a) :
    (Code.region id l.toArray true).wp P Q a w := by
  have e : l = l0 ++ t := by rw [← hl, ← ht, List.take_append_drop]
  refine wp_region_any hm ?_
  subst e
  have hz : (l0 ++ t).toArray.size = l0.length + t.length := by simp
  rw [hz, ← pushes_rep]
  refine wpAny_snocs t l0 _ _ _ _ hT (by simp) (closed_none _ _) ?_
  simp only [Region.lexB, Bool.and_eq_true] at hB
  refine wpAny_of_quiet (C := fun w' => ∃ i : cls.In C, w' = i.W) (Q := fun a' => ∀ w', (∃ i : cls.In C, w' = i.W) → wpList P (l0 ++ t).toArray Q t a' w') (fun _ w' hw' h => nest_in _ t l0 hT _ _ (h w' hw')) _ _ _ _ ⟨⟨w.drew, hC⟩, rfl⟩ ?_
  have := wpAnyQ_lex (C := fun w' => ∃ i : cls.In C, w' = i.W) (md := .any) hB.1 l0 0 (Array.replicate l0.length false) a (by simp) (by simpa using hB.2) h
  simpa using this
/-- what is told among it, as in Spec -/
theorem told {id : Nat} {a : Act} {w : World} {l l0 l' : List Oper} (n : Nat) (t : List Oper) (N : List (Nat × Value)) (J : List (Nat × Tmp)) (S : Nat → Value → World → Prop) (C : World → Prop) (T : World → World → Prop) (hm : P.follows .mixedOrders = true) (hl : l.take n = l0) (ht : l.drop n = t)
    (hB : spc.okG l0.toArray N J = true) (hL : lastsB l0 t = true) (hC : C w.drew) (hT : ∀ k v w w', T w w' → S k v w → S k v w') (hr : spc.rep N 0 l0 = l')
    (h : wpQuiet P l'.toArray (fun w' => ∃ i : spc.In C, w' = i.W) (fun A => (∀ q ∈ J, ∀ o, l0[q.1]? = some o → Region.wanted o (yielded l0.toArray A.tmps) = true) ∧ (∀ p ∈ N, ∀ o, l0[p.1]? = some o → spc.Told P l0.toArray J S C T A p.1 p.2 o) ∧ ∀ x w, C w → (∀ q ∈ J, S q.1 (x q.1) w) → wpList P l.toArray Q t (spc.jn x J A) w) l' a) :
    (Code.region id l.toArray true).wp P Q a w := by
  have e : l = l0 ++ t := by rw [← hl, ← ht, List.take_append_drop]
  refine wp_region_any hm ?_
  subst e
  rw [spc.in_eq] at h
  subst hr
  have hz : (l0 ++ t).toArray.size = l0.length + t.length := by simp
  rw [hz, ← pushes_rep]
  refine wpAny_snocs t l0 _ _ _ _ hL (by simp) (closed_none _ _) ?_
  have := spc.any_toldG (P := P) (Q := nest P Q l0 t) (a := a) (w := w) (l := l0) N J S C T hB hC hT (quiet_mono (fun A hA => ⟨hA.1, hA.2.1, fun x w hc hs => nest_in _ t l0 hL _ _ (hA.2.2 x w hc hs)⟩) _ _ h)
  simpa using this
end
end Go.Proofs.Ytbhejjpkmnldhaa.lsn
