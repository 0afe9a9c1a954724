/- A region that draws its order, in which some operations make memory (a slice that is built, a call): each of those is told by a contract of its own; all others are walked once, in the order of the text. -/
import Derived.Deep.QuietTactic
import Derived.BigQuiet
import Derived.Below
namespace Go.Proofs.Ytbhejjpkmnldhaa.spc
open Go

/-- an operation that enters no function of the program -/
def plainB : Op → Bool
  | .call c => (match c.callee with
    | .builtin .len => true
    | .builtin .cap => true
    | _ => false)
  | .go _ => false
  | .defer _ => false
  | .select .. => false
  | .send .. => false
  | .recv .. => false
  | .nilCheck _ => false
  | _ => true

theorem run_v {s : Sem Value} {P : Program} {w w' : World} {f : FuncId} {args : Array Value} : (do pure (Next.value (← s)) : Sem Next).run P w ≠ .ok (.enter f args) w' := by
  intro h
  simp at h
  generalize s.run P w = r at h
  cases r <;> simp [Result.andThen] at h
theorem run_u {s : Sem Unit} {P : Program} {w w' : World} {f : FuncId} {args : Array Value} : (do s; pure Next.skip : Sem Next).run P w ≠ .ok (.enter f args) w' := by
  intro h
  simp at h
  generalize s.run P w = r at h
  cases r <;> simp [Result.andThen] at h

theorem plain_not {o : Oper} (h : plainB o.op = true) (ρ : Operand → Value) (P : Program) (w : World) (f : FuncId) (args : Array Value) (w' : World) : (execOp ρ o).run P w ≠ .ok (.enter f args) w' := by
  obtain ⟨dst, op, type, pos, after, guard⟩ := o
  cases op
  case call c =>
    obtain ⟨callee, cargs, ct⟩ := c
    simp only [plainB] at h
    cases callee with
    | builtin b =>
      cases b <;> simp at h
      all_goals exact run_v
    | _ => simp at h
  all_goals first
    | (simp [plainB] at h; done)
    | exact run_v
    | exact run_u
    | (intro hh; simp [execOp] at hh; done)
    | (intro hh; simp only [execOp] at hh; simp at hh; generalize Sem.run P _ w = r at hh; cases r <;> simp [Result.andThen] at hh; done)

/-- what an operation looks at is all that it hangs on -/
theorem same_slots {ops : Array Oper} {o : Oper} (hs : ∀ cs b, o.op ≠ .select cs b) {a b : Act} (h : ∀ t ∈ o.looksAt ops, a.tmps[t]? = b.tmps[t]?) :
    execOp a.eval o = execOp b.eval o ∧ Region.wanted o (yielded ops a.tmps) = Region.wanted o (yielded ops b.tmps) := by
  constructor
  · refine execOp_congr o hs fun x hx => ?_
    cases x with
    | tmp t =>
      have := h t (List.mem_append_left _ (List.mem_filterMap.2 ⟨.tmp t, by simpa using hx, rfl⟩))
      simp [Act.eval, this]
    | _ => rfl
  · unfold Region.wanted
    cases hg : o.guard with
    | none => rfl
    | some gw =>
      obtain ⟨g, want⟩ := gw
      have hy : yielded ops a.tmps g = yielded ops b.tmps g := by
        unfold yielded
        cases ht : (ops[g]?).bind (·.dst) with
        | none => rfl
        | some t => simp [h t (by simp [Oper.looksAt, hg, ht])]
      simp only [hy]

theorem put_slot (a : Act) (o : Option Tmp) (v : Value) (t : Nat) : (a.put o v).tmps[t]? = if o = some t ∧ t < a.tmps.size then some v else a.tmps[t]? := by
  cases o with
  | none => simp [Act.put]
  | some d =>
    simp only [Act.put, Array.getElem?_setIfInBounds]
    by_cases h : d = t
    · subst h
      by_cases h2 : d < a.tmps.size <;> simp [h2]
    · simp [h]
theorem put_size (a : Act) (o : Option Tmp) (v : Value) : (a.put o v).tmps.size = a.tmps.size := by cases o <;> simp [Act.put]
theorem put_defers (a : Act) (o : Option Tmp) (v : Value) : (a.put o v).defers = a.defers := by cases o <;> rfl

/-- the operations that are told are left out of the walk: each hands its value on -/
def rep (N : List (Nat × Value)) : Nat → List Oper → List Oper
  | _, [] => []
  | k, o :: r => (match N.lookup k with
    | some v => { o with op := .move (.const v) }
    | none => o) :: rep N (k + 1) r
theorem rep_get (N : List (Nat × Value)) : ∀ (l : List Oper) (k j : Nat), (rep N k l)[j]? = (l[j]?).map fun o => match N.lookup (k + j) with
    | some v => { o with op := .move (.const v) }
    | none => o
  | [], _, _ => by simp [rep]
  | o :: r, k, 0 => by simp [rep]
  | o :: r, k, j + 1 => by simp only [rep, List.getElem?_cons_succ]; rw [rep_get N r (k + 1) j, Nat.add_assoc, Nat.add_comm 1 j]

/-- the slots whose value hangs on the order -/
def jn (x : Nat → Value) : List (Nat × Tmp) → Act → Act
  | [], a => a
  | p :: l, a => jn x l (a.put (some p.2) (x p.1))
theorem jn_size (x : Nat → Value) : ∀ (J : List (Nat × Tmp)) (a : Act), (jn x J a).tmps.size = a.tmps.size
  | [], _ => rfl
  | p :: l, a => by rw [jn, jn_size x l, put_size]
theorem jn_defers (x : Nat → Value) : ∀ (J : List (Nat × Tmp)) (a : Act), (jn x J a).defers = a.defers
  | [], _ => rfl
  | p :: l, a => by rw [jn, jn_defers x l, put_defers]
theorem jn_off (x : Nat → Value) (t : Nat) : ∀ (J : List (Nat × Tmp)) (a : Act), (∀ p ∈ J, p.2 ≠ t) → (jn x J a).tmps[t]? = a.tmps[t]?
  | [], _, _ => rfl
  | p :: l, a, h => by
    rw [jn, jn_off x t l _ (fun q hq => h q (List.mem_cons_of_mem _ hq)), put_slot, if_neg]
    rintro ⟨e, _⟩
    exact h p (List.mem_cons_self ..) (Option.some.inj e)
theorem jn_on (x : Nat → Value) (t k : Nat) : ∀ (J : List (Nat × Tmp)) (a : Act), (∀ p ∈ J, p.2 = t → p.1 = k) → (∃ p ∈ J, p.2 = t) → t < a.tmps.size → (jn x J a).tmps[t]? = some (x k)
  | [], _, _, ⟨_, h, _⟩, _ => by cases h
  | p :: l, a, hu, he, ht => by
    rw [jn]
    by_cases h : ∃ q ∈ l, q.2 = t
    · exact jn_on x t k l _ (fun q hq => hu q (List.mem_cons_of_mem _ hq)) h (by rw [put_size]; exact ht)
    · obtain ⟨q, hq, hqt⟩ := he
      rcases List.mem_cons.1 hq with rfl | hq
      · rw [jn_off x t l _ (fun r hr e => h ⟨r, hr, e⟩), put_slot, if_pos ⟨by rw [hqt], ht⟩, hu q (List.mem_cons_self ..) hqt]
      · exact absurd ⟨q, hq, hqt⟩ h
theorem jn_same (x y : Nat → Value) (t : Nat) : ∀ (J : List (Nat × Tmp)) (a b : Act), (∀ p ∈ J, p.2 = t → x p.1 = y p.1) → a.tmps.size = b.tmps.size → a.tmps[t]? = b.tmps[t]? → (jn x J a).tmps[t]? = (jn y J b).tmps[t]?
  | [], _, _, _, _, h => h
  | p :: l, a, b, hx, hz, h => by
    rw [jn, jn]
    refine jn_same x y t l _ _ (fun q hq => hx q (List.mem_cons_of_mem _ hq)) (by rw [put_size, put_size, hz]) ?_
    rw [put_slot, put_slot, hz]
    by_cases hp : p.2 = t
    · rw [hx p (List.mem_cons_self ..) hp, h]
    · have : ¬ (some p.2 = some t) := fun e => hp (Option.some.inj e)
      simp [this, h]

section
variable {P : Program} {C : World → Prop}

/-- what the walk shows: the frame at its end, and of each operation what it yields where it comes up -/
theorem walk_out {ops : Array Oper} {Q : Act → Prop} : ∀ (l : List Oper) (a : Act),
    (∀ (i j : Nat) oi oj d, l[i]? = some oi → l[j]? = some oj → oi.dst = some d → oj.dst = some d → i = j) → wpQuiet P ops C Q l a →
    ∃ A, Q A ∧ A.defers = a.defers ∧ A.tmps.size = a.tmps.size ∧ (∀ t, (∀ (j : Nat) o, l[j]? = some o → o.dst ≠ some t) → A.tmps[t]? = a.tmps[t]?) ∧
      ∀ (j : Nat) o, l[j]? = some o → ∃ v b, YieldsIn P ops C o v b ∧ (∀ d, o.dst = some d → d < a.tmps.size → A.tmps[d]? = some v) ∧
        (∀ t, (∀ (k : Nat) o', j ≤ k → l[k]? = some o' → o'.dst ≠ some t) → b.tmps[t]? = A.tmps[t]?) ∧ (∀ t, (∀ (k : Nat) o', k < j → l[k]? = some o' → o'.dst ≠ some t) → b.tmps[t]? = a.tmps[t]?)
  | [], a, _, h => ⟨a, h, rfl, rfl, fun _ _ => rfl, fun j o hj => by simp at hj⟩
  | o :: r, a, hd, h => by
    have hv : ∃ v, YieldsIn P ops C o v a ∧ wpQuiet P ops C Q r (a.put o.dst v) := by
      unfold wpQuiet at h
      by_cases hw : Region.wanted o (yielded ops a.tmps) = true
      · simp only [hw, if_true] at h
        obtain ⟨v, h1, h2⟩ := h
        exact ⟨v, .inl ⟨hw, h1⟩, h2⟩
      · simp only [hw] at h
        exact ⟨undef, .inr ⟨by simpa using hw, rfl⟩, h⟩
    obtain ⟨v, hy, hr⟩ := hv
    obtain ⟨A, hQ, h1, h2, h3, h4⟩ := walk_out r (a.put o.dst v)
      (fun i j oi oj d hi hj e1 e2 => by have := hd (i + 1) (j + 1) oi oj d hi hj e1 e2; omega) hr
    rw [put_defers] at h1
    rw [put_size] at h2
    have off : ∀ t, (∀ (j : Nat) o', (o :: r)[j]? = some o' → o'.dst ≠ some t) → A.tmps[t]? = a.tmps[t]? := fun t ht => by
      rw [h3 t fun j o' hj => ht (j + 1) o' hj, put_slot, if_neg]
      rintro ⟨e, _⟩
      exact ht 0 o rfl e
    refine ⟨A, hQ, h1, h2, off, fun j o' hj => ?_⟩
    cases j with
    | zero =>
      obtain rfl : o = o' := by simpa using hj
      refine ⟨v, a, hy, fun d hd' hlt => ?_, fun t ht => (off t fun k o' hk => ht k o' (Nat.zero_le _) hk).symm, fun _ _ => rfl⟩
      rw [h3 d fun j o' hj e => by have := hd 0 (j + 1) o o' d rfl hj hd' e; omega, put_slot, if_pos ⟨hd', hlt⟩]
    | succ j =>
      obtain ⟨u, b, hu, hu2, hu3, hu4⟩ := h4 j o' hj
      refine ⟨u, b, hu, fun d e hlt => hu2 d e (by rw [put_size]; exact hlt), fun t ht => hu3 t fun k o' hk hk' => ht (k + 1) o' (by omega) hk', fun t ht => ?_⟩
      rw [hu4 t fun k o' hk hk' => ht (k + 1) o' (by omega) hk', put_slot, if_neg]
      rintro ⟨e, _⟩
      exact ht 0 o (by omega) rfl e

/-- one waits for another, by however many steps -/
def waits (ops : Array Oper) : Nat → Nat → Nat → Bool
  | 0, _, _ => false
  | n + 1, j, i => match ops[j]? with
    | some o => o.after.any fun e => Region.binds .any e && (e.on == i || waits ops n e.on i)
    | none => false

structure Ok (ops : Array Oper) (N : List (Nat × Value)) (J : List (Nat × Tmp)) : Prop where
  sel : ∀ (j : Nat) o, ops[j]? = some o → ∀ cs b, o.op ≠ .select cs b
  late : ∀ (i j : Nat) oi oj d, ops[i]? = some oi → ops[j]? = some oj → i ≤ j → oj.dst = some d → d ∈ oi.looksAt ops → N.lookup i = none ∧ waits ops ops.size j i = true
  diff : ∀ (i j : Nat) oi oj d, ops[i]? = some oi → ops[j]? = some oj → oi.dst = some d → oj.dst = some d → i = j
  deps : ∀ (i j : Nat) oi oj d, ops[i]? = some oi → ops[j]? = some oj → j < i → oj.dst = some d → d ∈ oi.looksAt ops → ∃ e ∈ oi.after, Region.binds .any e = true ∧ e.on = j
  back : ∀ (j : Nat) o, ops[j]? = some o → ∀ e ∈ o.after, Region.binds .any e = true → e.on < j
  plain : ∀ (j : Nat) o, ops[j]? = some o → N.lookup j = none → plainB o.op = true ∧ ∀ p ∈ J, p.2 ∉ o.looksAt ops
  gd : ∀ (j : Nat) o, ops[j]? = some o → ∀ g b, o.guard = some (g, b) → ∀ p ∈ J, (ops[g]?).bind (·.dst) ≠ some p.2
  junk : ∀ p ∈ J, ∃ o, ops[p.1]? = some o ∧ o.dst = some p.2 ∧ (N.lookup p.1).isSome = true

def okG (ops : Array Oper) (N : List (Nat × Value)) (J : List (Nat × Tmp)) : Bool :=
  Region.noSelect ops &&
  ((List.range ops.size).all fun i => (List.range ops.size).all fun j => match ops[i]?, ops[j]? with
    | some oi, some oj => (match oj.dst with
      | some d => (!decide (i ≤ j) || !(oi.looksAt ops).contains d || ((N.lookup i).isNone && waits ops ops.size j i)) && (i == j || oi.dst != some d) && (!decide (j < i) || !(oi.looksAt ops).contains d || oi.after.any fun e => Region.binds .any e && e.on == j)
      | none => true)
    | _, _ => true) &&
  ((List.range ops.size).all fun j => match ops[j]? with
    | some o => (o.after.all fun e => !Region.binds .any e || decide (e.on < j)) && ((N.lookup j).isSome || (plainB o.op && J.all fun p => !(o.looksAt ops).contains p.2)) &&
      (match o.guard with
        | some (g, _) => J.all fun p => (ops[g]?).bind (·.dst) != some p.2
        | none => true)
    | none => true) &&
  (J.all fun p => match ops[p.1]? with
    | some o => o.dst == some p.2 && (N.lookup p.1).isSome
    | none => false)
/-- the same, where none of J is guarded -/
def okB (ops : Array Oper) (N : List (Nat × Value)) (J : List (Nat × Tmp)) : Bool :=
  okG ops N J && (J.all fun p => match ops[p.1]? with
    | some o => o.guard.isNone
    | none => false)

theorem ok_of {ops : Array Oper} {N : List (Nat × Value)} {J : List (Nat × Tmp)} (h : okG ops N J = true) : Ok ops N J := by
  simp only [okG, Bool.and_eq_true] at h
  obtain ⟨⟨⟨hs, h1⟩, h2⟩, h3⟩ := h
  have lt : ∀ {j : Nat} {o}, ops[j]? = some o → j < ops.size := fun ho => (Array.getElem?_eq_some_iff.1 ho).1
  have h1' : ∀ (i j : Nat) oi oj d, ops[i]? = some oi → ops[j]? = some oj → oj.dst = some d →
      ((¬ i ≤ j ∨ d ∉ oi.looksAt ops) ∨ N.lookup i = none ∧ waits ops ops.size j i = true) ∧ (i = j ∨ oi.dst ≠ some d) ∧ ((¬ j < i ∨ d ∉ oi.looksAt ops) ∨ ∃ e ∈ oi.after, Region.binds .any e = true ∧ e.on = j) := fun i j oi oj d hi hj hd => by
    have := List.all_eq_true.1 (List.all_eq_true.1 h1 i (List.mem_range.2 (lt hi))) j (List.mem_range.2 (lt hj))
    simp only [hi, hj, hd, Bool.and_eq_true, Bool.or_eq_true] at this
    obtain ⟨⟨a1, a2⟩, a3⟩ := this
    refine ⟨a1.imp (fun h => h.imp (by simp) (by simp)) (by simp), a2.imp (by simp) (by simp), a3.imp (fun h => h.imp (by simp) (by simp)) fun h => ?_⟩
    obtain ⟨e, he, hb⟩ := Array.any_eq_true'.1 h
    exact ⟨e, he, by simpa using hb⟩
  have h2' : ∀ (j : Nat) o, ops[j]? = some o → _ := fun j o hj => by
    have := List.all_eq_true.1 h2 j (List.mem_range.2 (lt hj))
    simp only [hj, Bool.and_eq_true] at this
    exact this
  refine ⟨fun j o ho cs b => Region.noSelect_spec hs j o cs b ho, fun i j oi oj d hi hj hij hd hm => ((h1' i j oi oj d hi hj hd).1).resolve_left (by rintro (h | h); exact h hij; exact h hm),
    fun i j oi oj d hi hj e1 e2 => ((h1' i j oi oj d hi hj e2).2.1).resolve_right (by simpa using e1), fun i j oi oj d hi hj hij hd hm => ((h1' i j oi oj d hi hj hd).2.2).resolve_left (by rintro (h | h); exact h hij; exact h hm), ?_, ?_, ?_, ?_⟩
  · intro j o hj e he hb
    have := Array.all_eq_true_iff_forall_mem.1 (h2' j o hj).1.1 e he
    simpa [hb] using this
  · intro j o hj hn
    have := (h2' j o hj).1.2
    simpa [hn] using this
  · intro j o hj g b hg p hp
    have := (h2' j o hj).2
    simp only [hg, List.all_eq_true] at this
    simpa using this p hp
  · intro p hp
    have := List.all_eq_true.1 h3 p hp
    cases ho : ops[p.1]? with
    | none => simp [ho] at this
    | some o => exact ⟨o, rfl, by simpa [ho, and_assoc] using this⟩

/-- what an operation leads to, whatever stands behind it -/
def yieldsTo (P : Program) (o : Oper) (a : Act) (w : World) (R : Value → World → Prop) : Prop :=
  match (execOp a.eval o).run P w with
  | .ok (.value v) w' => R v w'
  | .ok .skip w' => R undef w'
  | .ok (.enter f args) w' => Calls P f args w' fun e w'' => ∃ v, e = .returned v ∧ R v w''
  | .ok (.row row args) w' => Rows P row args w' fun v w'' => R v w''
  | _ => False

theorem wpOp_of {ops : Array Oper} {Q : Exit → Act → World → Prop} {j : Nat} {o : Oper} {a b : Act} {w : World} {R : Value → World → Prop} {K : Act → World → Prop} (hi : ops[j]? = some o)
    (hw : Region.wanted o (yielded ops a.tmps) = true) (he : execOp a.eval o = execOp b.eval o) (h : yieldsTo P o b w R) (hK : ∀ v w', R v w' → K (a.put o.dst v) w') : wpOp P ops Q j K a w := by
  unfold wpOp
  simp only [hi, hw, if_true]
  left
  unfold Oper.wp
  unfold yieldsTo at h
  rw [he]
  generalize (execOp b.eval o).run P w = r at *
  cases r with
  | ok n w' =>
    cases n <;> simp only [] at h <;> simp only [Oper.upon]
    case value v => exact hK _ _ h
    case skip => exact hK _ _ h
    case enter f args => exact h.mono fun e w'' ⟨v, he, hr⟩ => by subst he; exact hK _ _ hr
    case row row args => exact Rows.mono h fun v w'' hr => hK _ _ hr
  | halt x w' => simp only [] at h

theorem wpOp_plain {ops ops' : Array Oper} {Q : Exit → Act → World → Prop} {j : Nat} {o : Oper} {a : Act} {w : World} {v : Value} {K : Act → World → Prop} (hi : ops[j]? = some o) (hp : plainB o.op = true)
    (hyy : yielded ops' a.tmps = yielded ops a.tmps) (hC : C w) (h : YieldsIn P ops' C o v a) (hK : K (a.put o.dst v) w) : wpOp P ops Q j K a w := by
  unfold YieldsIn at h
  rw [hyy] at h
  rcases h with ⟨hw, h⟩ | ⟨hw, rfl⟩
  · have h := h w hC
    refine wpOp_of (b := a) (R := fun v' w' => v' = v ∧ w' = w) hi hw rfl ?_ fun v' w' ⟨e1, e2⟩ => by rw [e1, e2]; exact hK
    unfold Oper.quietAt at h
    unfold yieldsTo
    have hn := plain_not hp a.eval P w
    generalize (execOp a.eval o).run P w = r at *
    cases r with
    | ok n w' =>
      cases n <;> simp only [Oper.quietUpon] at h <;> simp only []
      case value u => exact ⟨h.2, h.1⟩
      case skip => exact ⟨h.2.symm, h.1⟩
      case enter f args => exact absurd rfl (hn f args w')
    | halt x w' => simp only [Oper.quietUpon] at h
  · unfold wpOp
    simp only [hi, hw]
    exact hK

theorem filter_less {p q : Nat → Bool} {j : Nat} (hpq : ∀ i, q i = true → p i = true) (hp : p j = true) (hq : q j = false) : ∀ (l : List Nat), (l.filter q).length ≤ (l.filter p).length ∧ (j ∈ l → (l.filter q).length + 1 ≤ (l.filter p).length)
  | [] => by simp
  | i :: l => by
    obtain ⟨h1, h2⟩ := filter_less hpq hp hq l
    constructor
    · by_cases hqi : q i = true
      · simp [hqi, hpq i hqi, h1]
      · by_cases hpi : p i = true
        · simp [hqi, hpi]; omega
        · simp [hqi, hpi, h1]
    · intro hm
      rcases List.mem_cons.1 hm with rfl | hm
      · simp [hp, hq]; omega
      · have := h2 hm
        by_cases hqi : q i = true
        · simp [hqi, hpq i hqi]; omega
        · by_cases hpi : p i = true
          · simp [hqi, hpi]; omega
          · simp [hqi, hpi]; omega

theorem mem_of_lookup {k : Nat} {v : Value} : ∀ {N : List (Nat × Value)}, N.lookup k = some v → (k, v) ∈ N
  | [], h => by simp at h
  | (i, u) :: l, h => by
    rw [List.lookup_cons] at h
    by_cases e : k = i
    · subst e
      simp at h
      exact h ▸ List.mem_cons_self ..
    · have : (k == i) = false := by simpa using e
      simp [this] at h
      exact List.mem_cons_of_mem _ (mem_of_lookup h)

theorem ready_nil {ops : Array Oper} {N : List (Nat × Value)} {J : List (Nat × Tmp)} (ok : Ok ops N J) {listed : Array Bool} (hz : listed.size = ops.size) (h : Region.ready .any ops listed = []) :
    ∀ n j, j < n → j < ops.size → listed.getD j false = true
  | 0, _, hj, _ => absurd hj (Nat.not_lt_zero _)
  | n + 1, j, hj, hl => by
    by_cases hlj : listed.getD j false = true
    · exact hlj
    · exfalso
      have hm : j ∈ Region.ready .any ops listed := mem_ready.2 ⟨by simp [hz ▸ hl] at hlj ⊢; exact hlj, ops[j], Array.getElem?_eq_getElem hl, fun e he hb =>
        have hlt := ok.back j ops[j] (Array.getElem?_eq_getElem hl) e he hb
        ready_nil ok hz h n e.on (by omega) (by omega)⟩
      rw [h] at hm
      cases hm

/-- what stands while the operations come up -/
structure Inv (ops : Array Oper) (J : List (Nat × Tmp)) (S : Nat → Value → World → Prop) (C : World → Prop) (A a₀ : Act) (listed : Array Bool) (x : Nat → Value) (a : Act) (w : World) : Prop where
  C : C w
  S : ∀ p ∈ J, listed.getD p.1 false = true → S p.1 (x p.1) w
  defers : a.defers = A.defers
  size : a.tmps.size = A.tmps.size
  on : ∀ (t k : Nat) o, ops[k]? = some o → o.dst = some t → listed.getD k false = true → a.tmps[t]? = (jn x J A).tmps[t]?
  off : ∀ t, (∀ (k : Nat) o, ops[k]? = some o → o.dst = some t → listed.getD k false = false) → a.tmps[t]? = a₀.tmps[t]?
  shut : ∀ (k : Nat) o, ops[k]? = some o → listed.getD k false = true → ∀ e ∈ o.after, Region.binds .any e = true → listed.getD e.on false = true

theorem Inv.waits {ops : Array Oper} {J : List (Nat × Tmp)} {S : Nat → Value → World → Prop} {A a₀ a : Act} {listed : Array Bool} {x : Nat → Value} {w : World} (i : Inv ops J S C A a₀ listed x a w) {k : Nat} :
    ∀ (n j : Nat), waits ops n j k = true → listed.getD j false = true → listed.getD k false = true
  | 0, _, h, _ => by cases h
  | n + 1, j, h, hl => by
    unfold spc.waits at h
    split at h
    · rename_i o ho
      obtain ⟨e, he, hb⟩ := Array.any_eq_true'.1 h
      simp only [Bool.and_eq_true, Bool.or_eq_true, beq_iff_eq] at hb
      have := i.shut j o ho hl e he hb.1
      rcases hb.2 with h2 | h2
      · exact h2 ▸ this
      · exact i.waits n e.on h2 this
    · cases h

theorem set_self {listed : Array Bool} {j : Nat} (h : j < listed.size) : (listed.setIfInBounds j true).getD j false = true := by simp [h]

theorem Inv.step {ops : Array Oper} {N : List (Nat × Value)} {J : List (Nat × Tmp)} {S : Nat → Value → World → Prop} {A a₀ a : Act} {listed : Array Bool} {x x' : Nat → Value} {w w' : World} {j : Nat} {o : Oper} {v : Value}
    (ok : Ok ops N J) (i : Inv ops J S C A a₀ listed x a w) (hj : ops[j]? = some o) (hall : ∀ e ∈ o.after, Region.binds .any e = true → listed.getD e.on false = true) (hlt : j < listed.size) (hC : C w') (hS : ∀ p ∈ J, listed.getD p.1 false = true → S p.1 (x' p.1) w')
    (hSj : ∀ p ∈ J, p.1 = j → S p.1 (x' p.1) w') (hx : ∀ k, k ≠ j → x' k = x k)
    (hv : ∀ d, o.dst = some d → d < A.tmps.size → (jn x' J A).tmps[d]? = some v) : Inv ops J S C A a₀ (listed.setIfInBounds j true) x' (a.put o.dst v) w' where
  C := hC
  S := fun p hp hl => by
    by_cases e : p.1 = j
    · exact hSj p hp e
    · exact hS p hp (by rwa [getD_set_ne false (Ne.symm e)] at hl)
  defers := by rw [put_defers, i.defers]
  size := by rw [put_size, i.size]
  on := fun t k ok' hk ht hl => by
    by_cases e : k = j
    · subst e
      obtain rfl : o = ok' := by rw [hj] at hk; exact Option.some.inj hk
      rw [put_slot, i.size]
      by_cases hb : t < A.tmps.size
      · rw [if_pos ⟨ht, hb⟩, hv t ht hb]
      · rw [if_neg (fun h => hb h.2), Array.getElem?_eq_none (by rw [i.size]; omega), Array.getElem?_eq_none (by rw [jn_size]; omega)]
    · rw [getD_set_ne false (Ne.symm e)] at hl
      rw [put_slot, if_neg (fun h => e (ok.diff k j ok' o t hk hj ht h.1)), i.on t k ok' hk ht hl]
      refine jn_same x x' t J A A (fun p hp hpt => ?_) rfl rfl
      obtain ⟨op, hop, hpd, _⟩ := ok.junk p hp
      have : p.1 = k := ok.diff p.1 k op ok' t hop hk (by rw [hpd, hpt]) ht
      rw [hx p.1 (by rw [this]; exact e)]
  off := fun t h => by
    have hne : o.dst ≠ some t := fun e => by
      have := h j o hj e
      rw [set_self hlt] at this
      cases this
    rw [put_slot, if_neg (fun h => hne h.1)]
    refine i.off t fun k ok' hk ht => ?_
    have := h k ok' hk ht
    by_cases e : k = j
    · subst e
      exact absurd (by rw [hj] at hk; rw [Option.some.inj hk]; exact ht) hne
    · rwa [getD_set_ne false (Ne.symm e)] at this
  shut := fun k o' hk hl e he hb => by
    refine getD_set_true ?_
    by_cases e' : k = j
    · subst e'
      obtain rfl : o = o' := by rw [hj] at hk; exact Option.some.inj hk
      exact hall e he hb
    · exact i.shut k o' hk (by rwa [getD_set_ne false (Ne.symm e')] at hl) e he hb

/-- what is asked of the operations that are told, at the frame at the walk's end -/
def Told (P : Program) (ops : Array Oper) (J : List (Nat × Tmp)) (S : Nat → Value → World → Prop) (C : World → Prop) (T : World → World → Prop) (A : Act) (k : Nat) (v : Value) (o : Oper) : Prop :=
  ∀ (x : Nat → Value) w, C w → (∀ q ∈ J, q.2 ∈ o.looksAt ops → S q.1 (x q.1) w) → Region.wanted o (yielded ops (jn x J A).tmps) = true →
    yieldsTo P o (jn x J A) w fun u w' => C w' ∧ T w w' ∧ if J.any (fun q => q.1 == k) = true then S k u w' else u = v

theorem go_any {ops ops' : Array Oper} {N : List (Nat × Value)} {J : List (Nat × Tmp)} {S : Nat → Value → World → Prop} {T : World → World → Prop} {A a₀ : Act} {Q : Exit → Act → World → Prop} (ok : Ok ops N J) (hG : ∀ p ∈ J, ∀ o, ops[p.1]? = some o → Region.wanted o (yielded ops A.tmps) = true)
    (hT : ∀ k v w w', T w w' → S k v w → S k v w') (hyy : ∀ tm, yielded ops' tm = yielded ops tm)
    (hA0 : A.tmps.size = a₀.tmps.size) (hA1 : ∀ t, (∀ (k : Nat) o, ops[k]? = some o → o.dst ≠ some t) → A.tmps[t]? = a₀.tmps[t]?)
    (hA2 : ∀ (j : Nat) o, ops[j]? = some o → ∃ v b, YieldsIn P ops' C (match N.lookup j with
      | some v => { o with op := .move (.const v) }
      | none => o) v b ∧ (∀ d, o.dst = some d → d < a₀.tmps.size → A.tmps[d]? = some v) ∧
        (∀ t, (∀ (k : Nat) o', j ≤ k → ops[k]? = some o' → o'.dst ≠ some t) → b.tmps[t]? = A.tmps[t]?) ∧ (∀ t, (∀ (k : Nat) o', k < j → ops[k]? = some o' → o'.dst ≠ some t) → b.tmps[t]? = a₀.tmps[t]?))
    (hN : ∀ p ∈ N, ∀ o, ops[p.1]? = some o → Told P ops J S C T A p.1 p.2 o) (hQ : ∀ x w, C w → (∀ q ∈ J, S q.1 (x q.1) w) → Q .normal (jn x J A) w) :
    ∀ (fuel : Nat) (listed : Array Bool) (x : Nat → Value) (a : Act) (w : World), listed.size = ops.size → ((List.range ops.size).filter fun i => !listed.getD i true).length ≤ fuel →
      Inv ops J S C A a₀ listed x a w → wpAny P .any ops Q fuel listed a w := by
  intro fuel
  have done : ∀ (listed : Array Bool) (x : Nat → Value) (a : Act) (w : World), listed.size = ops.size → Inv ops J S C A a₀ listed x a w → Region.ready .any ops listed = [] → Q .normal a w := by
    intro listed x a w hz i hr
    have hl : ∀ (k : Nat) o, ops[k]? = some o → listed.getD k false = true := fun k o hk => ready_nil ok hz hr (k + 1) k (by omega) (Array.getElem?_eq_some_iff.1 hk).1
    have : a = jn x J A := by
      have ht : a.tmps = (jn x J A).tmps := by
        apply Array.ext_getElem?
        intro t
        by_cases h : ∃ (k : Nat) (o : Oper), ops[k]? = some o ∧ o.dst = some t
        · obtain ⟨k, o, hk, hd⟩ := h
          exact i.on t k o hk hd (hl k o hk)
        · have h' : ∀ (k : Nat) o, ops[k]? = some o → o.dst ≠ some t := fun k o hk e => h ⟨k, o, hk, e⟩
          rw [i.off t fun k o hk e => absurd e (h' k o hk), ← hA1 t h', jn_off]
          intro p hp e
          obtain ⟨op, hop, hpd, _⟩ := ok.junk p hp
          exact h' _ _ hop (by rw [hpd, e])
      have hd : a.defers = (jn x J A).defers := by rw [i.defers, jn_defers]
      cases a
      cases hh : jn x J A
      rw [hh] at ht hd
      simp only at ht hd
      rw [ht, hd]
    rw [this]
    exact hQ x w i.C fun q hq => i.S q hq (by
      obtain ⟨op, hop, _⟩ := ok.junk q hq
      exact hl _ _ hop)
  induction fuel with
  | zero =>
    intro listed x a w hz hf i
    have hr : Region.ready .any ops listed = [] := by
      rw [List.eq_nil_iff_forall_not_mem]
      intro j hj
      obtain ⟨h0, o, ho, _⟩ := mem_ready.1 hj
      have : j ∈ (List.range ops.size).filter fun i => !listed.getD i true := List.mem_filter.2 ⟨List.mem_range.2 (Array.getElem?_eq_some_iff.1 ho).1, by rw [h0]; rfl⟩
      have := List.length_pos_of_mem this
      omega
    exact ⟨hr, done listed x a w hz i hr⟩
  | succ fuel ih =>
    intro listed x a w hz hf i
    refine ⟨done listed x a w hz i, fun j hj => ?_⟩
    obtain ⟨h0, o, ho, hall⟩ := mem_ready.1 hj
    have hlt : j < ops.size := (Array.getElem?_eq_some_iff.1 ho).1
    have hlt' : j < listed.size := by omega
    have hf' : ((List.range ops.size).filter fun i => !(listed.setIfInBounds j true).getD i true).length ≤ fuel := by
      have := (filter_less (p := fun i => !listed.getD i true) (q := fun i => !(listed.setIfInBounds j true).getD i true) (j := j) (fun i hi => by
        by_cases e : j = i
        · subst e; rw [h0]; rfl
        · rwa [getD_set_ne true e] at hi) (by simp only [h0]; rfl) (by simp [hlt']) (List.range ops.size)).2 (List.mem_range.2 hlt)
      omega
    have next : ∀ (x' : Nat → Value) (v : Value) (w' : World), C w' → (∀ p ∈ J, listed.getD p.1 false = true → S p.1 (x' p.1) w') → (∀ p ∈ J, p.1 = j → S p.1 (x' p.1) w') → (∀ k, k ≠ j → x' k = x k) →
        (∀ d, o.dst = some d → d < A.tmps.size → (jn x' J A).tmps[d]? = some v) → wpAny P .any ops Q fuel (listed.setIfInBounds j true) (a.put o.dst v) w' := fun x' v w' h1 h2 h3 h4 h5 =>
      ih _ x' _ w' (by simpa using hz) hf' (i.step ok ho hall hlt' h1 h2 h3 h4 h5)
    have noJ : ∀ t, (∀ (k : Nat) o, ops[k]? = some o → o.dst ≠ some t) → (jn x J A).tmps[t]? = A.tmps[t]? := fun t h' => jn_off x t J A fun p hp e => by
      obtain ⟨op, hop, hpd, _⟩ := ok.junk p hp
      exact h' _ _ hop (by rw [hpd, e])
    obtain ⟨v, b, hy, hvd, hb1, hb2⟩ := hA2 j o ho
    have unl : ∀ p ∈ J, listed.getD p.1 false = true → p.1 ≠ j := fun p _ hl e => by
      rw [e] at hl
      simp [hlt'] at h0 hl
      rw [h0] at hl
      cases hl
    cases hn : N.lookup j with
    | none =>
      simp only [hn] at hy
      obtain ⟨hp, hcl⟩ := ok.plain j o ho hn
      have hlook : ∀ t ∈ o.looksAt ops, a.tmps[t]? = b.tmps[t]? := fun t ht => by
        by_cases h : ∃ (k : Nat) (ok' : Oper), ops[k]? = some ok' ∧ ok'.dst = some t
        · obtain ⟨k, o', hk, hd⟩ := h
          by_cases hkj : k < j
          · obtain ⟨e, he, hb, hon⟩ := ok.deps j k o o' t ho hk hkj hd ht
            rw [i.on t k o' hk hd (hon ▸ hall e he hb), jn_off x t J A (fun p hp' e => hcl p hp' (e ▸ ht)), hb1 t fun k' o2 hk' ho2 e2 => ?_]
            have := ok.diff k' k o2 o' t ho2 hk e2 hd
            omega
          · have hw := (ok.late j k o o' t ho hk (by omega) hd ht).2
            rw [i.off t fun k' o2 hk' e2 => ?_, hb2 t fun k' o2 hk' ho2 e2 => ?_]
            · have := ok.diff k' k o2 o' t ho2 hk e2 hd
              omega
            · obtain rfl := ok.diff k' k o2 o' t hk' hk e2 hd
              by_cases hl : listed.getD k' false = true
              · have := i.waits _ _ hw hl
                simp [hlt'] at h0 this
                rw [h0] at this
                cases this
              · simpa using hl
        · have h' : ∀ (k : Nat) o, ops[k]? = some o → o.dst ≠ some t := fun k o hk e => h ⟨k, o, hk, e⟩
          rw [i.off t fun k o hk e => absurd e (h' k o hk), hb2 t fun k o _ hk => h' k o hk]
      obtain ⟨hex, hwa⟩ := same_slots (ops := ops) (ok.sel j o ho) hlook
      have hy' : YieldsIn P ops' C o v a := hy.of_same hex (by rw [hyy, hyy, hwa])
      have notJ : ∀ p ∈ J, p.1 ≠ j := fun p hp' e => by
        obtain ⟨_, _, _, h⟩ := ok.junk p hp'
        rw [e, hn] at h
        cases h
      refine wpOp_plain ho hp (hyy _) i.C hy' (next x v w i.C i.S (fun p hp' e => absurd e (notJ p hp')) (fun _ _ => rfl) fun d hd hlt => ?_)
      rw [jn_off x d J A, hvd d hd (hA0 ▸ hlt)]
      intro p hp' e
      obtain ⟨op, hop, hpd, _⟩ := ok.junk p hp'
      exact notJ p hp' (ok.diff p.1 j op o d hop ho (by rw [hpd, e]) hd)
    | some lit =>
      simp only [hn] at hy
      have htold := hN (j, lit) (mem_of_lookup hn) o ho
      have late : ∀ (k : Nat) o' t, j ≤ k → ops[k]? = some o' → o'.dst = some t → t ∉ o.looksAt ops := fun k o' t hjk hk hd hm => by
        have := (ok.late j k o o' t ho hk hjk hd hm).1
        rw [hn] at this
        cases this
      have hlook : ∀ t ∈ o.looksAt ops, a.tmps[t]? = (jn x J A).tmps[t]? := fun t ht => by
        by_cases h : ∃ (k : Nat) (ok' : Oper), ops[k]? = some ok' ∧ ok'.dst = some t
        · obtain ⟨k, o', hk, hd⟩ := h
          by_cases hkj : k < j
          · obtain ⟨e, he, hb, hon⟩ := ok.deps j k o o' t ho hk hkj hd ht
            exact i.on t k o' hk hd (hon ▸ hall e he hb)
          · exact absurd ht (late k o' t (by omega) hk hd)
        · have h' : ∀ (k : Nat) o, ops[k]? = some o → o.dst ≠ some t := fun k o hk e => h ⟨k, o, hk, e⟩
          rw [i.off t fun k o hk e => absurd e (h' k o hk), ← hA1 t h', noJ t h']
      obtain ⟨hex, hwa⟩ := same_slots (ops := ops) (ok.sel j o ho) hlook
      have hbA : Region.wanted o (yielded ops b.tmps) = Region.wanted o (yielded ops A.tmps) :=
        (same_slots (ops := ops) (ok.sel j o ho) fun t ht => hb1 t fun k o' hjk hk hd => late k o' t hjk hk hd ht).2
      have hwA : Region.wanted o (yielded ops (jn x J A).tmps) = Region.wanted o (yielded ops A.tmps) := by
        unfold Region.wanted
        cases hg : o.guard with
        | none => rfl
        | some gw =>
          obtain ⟨g, want⟩ := gw
          have : yielded ops (jn x J A).tmps g = yielded ops A.tmps g := by
            unfold yielded
            cases ht : (ops[g]?).bind (·.dst) with
            | none => rfl
            | some t => simp [jn_off x t J A fun p hp e => ok.gd j o ho g want hg p hp (by rw [ht, e])]
          simp only [this]
      by_cases hw : Region.wanted o (yielded ops a.tmps) = true
      · have hf := htold x w i.C (fun q hq hl => by
          obtain ⟨oq, hoq, hqd, _⟩ := ok.junk q hq
          have hqj : q.1 < j := Nat.lt_of_not_le fun h => late q.1 oq q.2 h hoq hqd hl
          obtain ⟨e, he, hb, hon⟩ := ok.deps j q.1 o oq q.2 ho hoq hqj hqd hl
          exact i.S q hq (hon ▸ hall e he hb)) (hwa ▸ hw)
        refine wpOp_of ho hw hex hf fun u w' ⟨hC, ht, hu⟩ => ?_
        by_cases hJ : J.any (fun q => q.1 == j) = true
        · simp only [hJ, if_true] at hu
          refine next (fun k => if k = j then u else x k) u w' hC (fun p hp hl => ?_) (fun p hp e => ?_) (fun k hk => by simp [hk]) fun d hd hlt => ?_
          · have := unl p hp hl
            simp only [this, if_false]
            exact hT _ _ _ _ ht (i.S p hp hl)
          · simp only [e, if_true]; exact hu
          · obtain ⟨q, hq, hqj⟩ := List.any_eq_true.1 hJ
            have hqj : q.1 = j := by simpa using hqj
            obtain ⟨oq, hoq, hqd, _⟩ := ok.junk q hq
            rw [hqj] at hoq
            obtain rfl : oq = o := by rw [ho] at hoq; exact (Option.some.inj hoq).symm
            rw [jn_on _ d j J A (fun p hp e => by
              obtain ⟨op, hop, hpd, _⟩ := ok.junk p hp
              exact ok.diff p.1 j op oq d hop ho (by rw [hpd, e]) hd) ⟨q, hq, by rw [hqd] at hd; exact Option.some.inj hd⟩ hlt]
            simp
        · simp only [hJ] at hu
          have notJ : ∀ p ∈ J, p.1 ≠ j := fun p hp e => hJ (List.any_eq_true.2 ⟨p, hp, by simpa using e⟩)
          refine next x u w' hC (fun p hp hl => hT _ _ _ _ ht (i.S p hp hl)) (fun p hp e => absurd e (notJ p hp)) (fun _ _ => rfl) fun d hd hlt => ?_
          rw [jn_off x d J A fun p hp e => by
            obtain ⟨op, hop, hpd, _⟩ := ok.junk p hp
            exact notJ p hp (ok.diff p.1 j op o d hop ho (by rw [hpd, e]) hd), hvd d hd (hA0 ▸ hlt)]
          have hvl : v = lit := by
            rcases hy with ⟨_, hq⟩ | ⟨hq, _⟩
            · have := hq w i.C
              unfold Oper.quietAt at this
              simp [execOp, Oper.quietUpon, Act.eval] at this
              exact this.symm
            · rw [hyy] at hq
              have : Region.wanted o (yielded ops b.tmps) = false := hq
              rw [hbA, ← hwA, ← hwa, hw] at this
              cases this
          simp at hu
          rw [hvl, hu]
      · have hwf : Region.wanted o (yielded ops a.tmps) = false := by simpa using hw
        have notJ : ∀ p ∈ J, p.1 ≠ j := fun p hp e => by
          have := hG p hp o (by rw [e]; exact ho)
          rw [← hwA, ← hwa, hwf] at this
          cases this
        have hvu : v = undef := by
          rcases hy with ⟨hq, _⟩ | ⟨_, hq⟩
          · rw [hyy] at hq
            have : Region.wanted o (yielded ops b.tmps) = true := hq
            rw [hbA, ← hwA, ← hwa, hwf] at this
            cases this
          · exact hq
        unfold wpOp
        simp only [ho, hwf]
        refine next x undef w i.C i.S (fun p hp e => absurd e (notJ p hp)) (fun _ _ => rfl) fun d hd hlt => ?_
        rw [jn_off x d J A fun p hp e => by
          obtain ⟨op, hop, hpd, _⟩ := ok.junk p hp
          exact notJ p hp (ok.diff p.1 j op o d hop ho (by rw [hpd, e]) hd), hvd d hd (hA0 ▸ hlt), hvu]

theorem yielded_rep (N : List (Nat × Value)) (l : List Oper) (tm : Array Value) : yielded (rep N 0 l).toArray tm = yielded l.toArray tm := by
  funext g
  unfold yielded
  have : ((rep N 0 l).toArray[g]?).bind (·.dst) = (l.toArray[g]?).bind (·.dst) := by
    simp only [List.getElem?_toArray, rep_get]
    cases l[g]? with
    | none => rfl
    | some o => simp only [Option.map_some, Option.bind_some]; split <;> rfl
  rw [this]

theorem fresh_not (n k : Nat) : (Array.replicate n false).getD k false = false := by
  by_cases h : k < n <;> simp [h]

/-- THE REGION, operations of J that are guarded too (the walk shows that they come up): N names the operations that are told (a call: the value that it hands back; one whose value hangs on the order: 'undef', and J has its number and its slot, S what is known of it). The walk goes over the others; at its end stand what is asked of each that is told, and what follows. -/
theorem any_toldG {Q : Exit → Act → World → Prop} {a : Act} {w : World} {l : List Oper} (N : List (Nat × Value)) (J : List (Nat × Tmp)) (S : Nat → Value → World → Prop) (C : World → Prop) (T : World → World → Prop)
    (hB : okG l.toArray N J = true) (hC : C w.drew) (hT : ∀ k v w w', T w w' → S k v w → S k v w')
    (h : wpQuiet P (rep N 0 l).toArray C (fun A => (∀ q ∈ J, ∀ o, l[q.1]? = some o → Region.wanted o (yielded l.toArray A.tmps) = true) ∧ (∀ p ∈ N, ∀ o, l[p.1]? = some o → Told P l.toArray J S C T A p.1 p.2 o) ∧ ∀ x w, C w → (∀ q ∈ J, S q.1 (x q.1) w) → Q .normal (jn x J A) w) (rep N 0 l) a) :
    wpAny P .any l.toArray Q l.toArray.size (Array.replicate l.toArray.size false) a w.drew := by
  have ok := ok_of hB
  have get : ∀ (j : Nat) o', (rep N 0 l)[j]? = some o' → ∃ o, l.toArray[j]? = some o ∧ o' = (match N.lookup j with
      | some v => { o with op := .move (.const v) }
      | none => o) := fun j o' hj => by
    rw [rep_get, Nat.zero_add] at hj
    obtain ⟨o, ho, e⟩ := Option.map_eq_some_iff.1 hj
    exact ⟨o, by simpa using ho, e.symm⟩
  have dstEq : ∀ {j : Nat} {o : Oper}, (match N.lookup j with
      | some v => ({ o with op := .move (.const v) } : Oper)
      | none => o).dst = o.dst := fun {j o} => by split <;> rfl
  obtain ⟨A, ⟨hW, hN, hQ⟩, h1, h2, h3, h4⟩ := walk_out (rep N 0 l) a
    (fun i j oi oj d hi hj e1 e2 => by
      obtain ⟨o, ho, rfl⟩ := get i oi hi
      obtain ⟨o2, ho2, rfl⟩ := get j oj hj
      rw [dstEq] at e1 e2
      exact ok.diff i j o o2 d ho ho2 e1 e2) h
  refine go_any (ops' := (rep N 0 l).toArray) (N := N) (A := A) (a₀ := a) (S := S) (T := T) ok (fun p hp o ho => hW p hp o (by simpa using ho)) hT (yielded_rep N l) h2 (fun t ht => h3 t fun j o' hj => ?_) (fun j o ho => ?_) (fun p hp o ho => hN p hp o (by simpa using ho)) hQ _ _ (fun _ => undef) _ _ (by simp) ?_ ⟨hC, ?_, h1.symm, h2.symm, ?_, fun _ _ => rfl, ?_⟩
  · obtain ⟨o, ho, rfl⟩ := get j o' hj
    rw [dstEq]
    exact ht j o ho
  · obtain ⟨v, b, hy, hv, hb1, hb2⟩ := h4 j _ (by rw [rep_get, Nat.zero_add, show l[j]? = some o by simpa using ho]; rfl)
    refine ⟨v, b, hy, fun d hd => hv d (by rw [dstEq]; exact hd), fun t ht => hb1 t fun k o' hk hk' => ?_, fun t ht => hb2 t fun k o' hk hk' => ?_⟩
    all_goals
      obtain ⟨o2, ho2, rfl⟩ := get k o' hk'
      rw [dstEq]
      exact ht k o2 hk ho2
  · exact Nat.le_trans (List.length_filter_le _ _) (by simp)
  · intro p _ hl
    rw [fresh_not] at hl
    cases hl
  · intro t k o _ _ hl
    rw [fresh_not] at hl
    cases hl
  · intro k o _ hl
    rw [fresh_not] at hl
    cases hl

theorem quiet_mono {P : Program} {ops : Array Oper} {C : World → Prop} {Q Q' : Act → Prop} (hq : ∀ a, Q a → Q' a) : ∀ (l : List Oper) (a : Act), wpQuiet P ops C Q l a → wpQuiet P ops C Q' l a
  | [], a, h => hq a h
  | o :: rest, a, h => by
    unfold wpQuiet at *
    split
    · rename_i hw
      rw [if_pos hw] at h
      obtain ⟨v, hv, hn⟩ := h
      exact ⟨v, hv, quiet_mono hq rest _ hn⟩
    · rename_i hw
      rw [if_neg hw] at h
      exact quiet_mono hq rest _ h
/-- THE REGION: N names the operations that are told (a call: the value that it hands back; one whose value hangs on the order: 'undef', and J has its number and its slot, S what is known of it). The walk goes over the others; at its end stand what is asked of each that is told, and what follows. -/
theorem any_told {Q : Exit → Act → World → Prop} {a : Act} {w : World} {l : List Oper} (N : List (Nat × Value)) (J : List (Nat × Tmp)) (S : Nat → Value → World → Prop) (C : World → Prop) (T : World → World → Prop)
    (hB : okB l.toArray N J = true) (hC : C w.drew) (hT : ∀ k v w w', T w w' → S k v w → S k v w')
    (h : wpQuiet P (rep N 0 l).toArray C (fun A => (∀ p ∈ N, ∀ o, l[p.1]? = some o → Told P l.toArray J S C T A p.1 p.2 o) ∧ ∀ x w, C w → (∀ q ∈ J, S q.1 (x q.1) w) → Q .normal (jn x J A) w) (rep N 0 l) a) :
    wpAny P .any l.toArray Q l.toArray.size (Array.replicate l.toArray.size false) a w.drew := by
  simp only [okB, Bool.and_eq_true, List.all_eq_true] at hB
  refine any_toldG N J S C T hB.1 hC hT (quiet_mono (fun A hA => ⟨fun q hq o ho => ?_, hA.1, hA.2⟩) _ _ h)
  have := hB.2 q hq
  have ho' : l.toArray[q.1]? = some o := by simpa using ho
  rw [ho'] at this
  simp only [Option.isNone_iff_eq_none] at this
  simp [Region.wanted, this]

theorem wp_region_told {id : Nat} {Q : Exit → Act → World → Prop} {a : Act} {w : World} {l : List Oper} (N : List (Nat × Value)) (J : List (Nat × Tmp)) (S : Nat → Value → World → Prop) (C : World → Prop) (T : World → World → Prop)
    (hm : P.follows .mixedOrders = true) (hB : okB l.toArray N J = true) (hC : C w.drew) (hT : ∀ k v w w', T w w' → S k v w → S k v w')
    (h : wpQuiet P (rep N 0 l).toArray C (fun A => (∀ p ∈ N, ∀ o, l[p.1]? = some o → Told P l.toArray J S C T A p.1 p.2 o) ∧ ∀ x w, C w → (∀ q ∈ J, S q.1 (x q.1) w) → Q .normal (jn x J A) w) (rep N 0 l) a) :
    (Code.region id l.toArray true).wp P Q a w :=
  wp_region_any hm (any_told N J S C T hB hC hT h)

/-- a world of the class C -/
structure In (C : World → Prop) where
  W : World
  h : C W
theorem in_eq (C : World → Prop) : (fun w' => ∃ i : In C, w' = i.W) = C := by
  funext w
  exact propext ⟨fun ⟨i, e⟩ => e ▸ i.h, fun h => ⟨⟨w, h⟩, rfl⟩⟩
/-- The same, the class laid for the walk, the list written out. -/
theorem wp_region_told_in {id : Nat} {Q : Exit → Act → World → Prop} {a : Act} {w : World} {l l' : List Oper} (N : List (Nat × Value)) (J : List (Nat × Tmp)) (S : Nat → Value → World → Prop) (C : World → Prop) (T : World → World → Prop)
    (hm : P.follows .mixedOrders = true) (hB : okB l.toArray N J = true) (hC : C w.drew) (hT : ∀ k v w w', T w w' → S k v w → S k v w') (hl : rep N 0 l = l')
    (h : wpQuiet P l'.toArray (fun w' => ∃ i : In C, w' = i.W) (fun A => (∀ p ∈ N, ∀ o, l[p.1]? = some o → Told P l.toArray J S C T A p.1 p.2 o) ∧ ∀ x w, C w → (∀ q ∈ J, S q.1 (x q.1) w) → Q .normal (jn x J A) w) l' a) :
    (Code.region id l.toArray true).wp P Q a w := by
  rw [in_eq] at h
  subst hl
  exact wp_region_told N J S C T hm hB hC hT h

/-- The same, operations of J that are guarded too. -/
theorem wp_region_told_g {id : Nat} {Q : Exit → Act → World → Prop} {a : Act} {w : World} {l l' : List Oper} (N : List (Nat × Value)) (J : List (Nat × Tmp)) (S : Nat → Value → World → Prop) (C : World → Prop) (T : World → World → Prop)
    (hm : P.follows .mixedOrders = true) (hB : okG l.toArray N J = true) (hC : C w.drew) (hT : ∀ k v w w', T w w' → S k v w → S k v w') (hl : rep N 0 l = l')
    (h : wpQuiet P l'.toArray (fun w' => ∃ i : In C, w' = i.W) (fun A => (∀ q ∈ J, ∀ o, l[q.1]? = some o → Region.wanted o (yielded l.toArray A.tmps) = true) ∧ (∀ p ∈ N, ∀ o, l[p.1]? = some o → Told P l.toArray J S C T A p.1 p.2 o) ∧ ∀ x w, C w → (∀ q ∈ J, S q.1 (x q.1) w) → Q .normal (jn x J A) w) l' a) :
    (Code.region id l.toArray true).wp P Q a w := by
  rw [in_eq] at h
  subst hl
  exact wp_region_any hm (any_toldG N J S C T hB hC hT h)

/-- by the laws for one operation of a region -/
theorem yieldsTo_of_wp {o : Oper} {a : Act} {w : World} {R : Value → World → Prop} (d : Tmp) (hd : o.dst = some d) (hlt : d < a.tmps.size)
    (h : ∀ (K : Act → World → Prop) (Q : Exit → Act → World → Prop), (∀ v w', R v w' → K (a.put o.dst v) w') → o.wp P a w K Q) : yieldsTo P o a w R := by
  have h := h (fun a' w' => ∃ v, a' = a.put o.dst v ∧ R v w') (fun _ _ _ => False) (fun v w' hr => ⟨v, rfl, hr⟩)
  have inj : ∀ v w', (∃ v', a.put o.dst v = a.put o.dst v' ∧ R v' w') → R v w' := fun v w' ⟨v', he, hr⟩ => by
    have e := congrArg (fun b : Act => b.tmps[d]?) he
    simp only [put_slot] at e
    rw [if_pos ⟨hd, hlt⟩, if_pos ⟨hd, hlt⟩] at e
    rw [Option.some.inj e]
    exact hr
  unfold Oper.wp at h
  unfold yieldsTo
  generalize (execOp a.eval o).run P w = r at *
  cases r with
  | ok n w' =>
    cases n <;> simp only [Oper.upon] at h <;> simp only []
    case value v => exact inj v w' h
    case skip => exact inj _ w' h
    case defer df =>
      obtain ⟨v, he, _⟩ := h
      have e := congrArg (fun b : Act => b.defers.length) he
      simp [put_defers] at e
    case enter f args =>
      refine h.mono fun e w'' he => ?_
      cases e with
      | returned v => exact ⟨v, rfl, inj v w'' he⟩
      | panicked c => exact he.elim
      | outgrown => obtain ⟨_, _, h⟩ := he; exact h.elim
    case row row args => exact Rows.mono h fun v w'' hr => inj v w'' hr
  | halt x w' => cases x <;> simp only [Oper.upon] at h

end
end Go.Proofs.Ytbhejjpkmnldhaa.spc
