/- What a trie seems to hold, walked with a row of nodes that are still to be looked at: mathematics. -/
import Derived.Test.YtiddpkppfpdfhaaPrMath
namespace Go.Proofs.Ytiddpkppfpdfhaa.pf
open Go.Proofs.Ytiddpkppfpdfhaa.pm

structure Pd where
  o : Nat
  p : Pth
  t : T
def pdRows (l : List Pd) : List Rw := l.flatMap fun d => at_ d.p d.t
def pdSz (l : List Pd) : Nat := (l.map fun d => sz d.t).sum
structure PdOk (ns : List Nd) (d : Pd) : Prop where
  n : d.t ≠ .nil
  s : Seg ns d.o d.t
  h : ht d.t + d.p.length ≤ 33
structure DfsI (ns : List Nd) (todo : List (Nat × Pth)) (out : List Rw) (n : Nat) : Prop where
  td : ∀ d ∈ todo, d.1 < ns.length ∧ d.2.length ≤ 33
  ou : ∀ x ∈ out, x.1.length ≤ 32
  ol : out.length ≤ n
  tl : todo.length ≤ n + 1
  rt : ∀ t, Rt ns t → ∃ pd : List Pd, todo = (pd.map fun d => (d.o, d.p)).reverse ∧ (∀ d ∈ pd, PdOk ns d) ∧ out ++ pdRows pd = rows t ∧ n + pdSz pd = ns.length
def opt (z : Int) (q : Pth) : List (Nat × Pth) := if 0 < z then [(z.toNat, q)] else []
def tell (x : Nd) (p : Pth) : List Rw := if x.s then [(p, x.v)] else []
theorem dinv_start {ns : List Nd} (h : ns ≠ []) : DfsI ns [(0, [])] [] 0 := by
  have hl : 0 < ns.length := List.length_pos_iff.2 h
  refine ⟨fun d hd => ?_, by simp, Nat.le_refl _, by simp, fun t ht => ?_⟩
  · simp only [List.mem_singleton] at hd; subst hd; exact ⟨hl, by simp⟩
  · obtain ⟨h1, h2, h3, h4⟩ := ht
    have hn : t ≠ .nil := fun e => h (by rw [h3, e]; rfl)
    refine ⟨[⟨0, [], t⟩], rfl, fun d hd => ?_, ?_, ?_⟩
    · simp only [List.mem_singleton] at hd; subst hd
      exact ⟨hn, by rw [h3]; exact seg_self t, by simpa using h2⟩
    · simp [pdRows, at_nil]
    · have e : pdSz [⟨0, [], t⟩] = sz t := by simp [pdSz]
      rw [e, h3, lay_length, Nat.zero_add]
/-- the last one is looked at -/
theorem dinv_top {ns : List Nd} {st : List (Nat × Pth)} {o : Nat} {p : Pth} {out : List Rw} {n : Nat} (h : DfsI ns (st ++ [(o, p)]) out n) {t : T} (ht : Rt ns t) :
    ∃ (s : Option Int) (l r : T) (pd : List Pd), ns[o]? = some (hd s l r o) ∧ Seg ns (o + 1) l ∧ Seg ns (o + 1 + sz l) r ∧ pm.ht l + p.length + 1 ≤ 33 ∧ pm.ht r + p.length + 1 ≤ 33 ∧ st = (pd.map fun d => (d.o, d.p)).reverse ∧ (∀ d ∈ pd, PdOk ns d) ∧ out ++ (at_ p (.nd s l r) ++ pdRows pd) = rows t ∧ n + (1 + sz l + sz r) + pdSz pd = ns.length := by
  obtain ⟨pd, e1, e2, e3, e4⟩ := h.rt t ht
  cases pd with
  | nil => simp at e1
  | cons d pd =>
    simp only [List.map_cons, List.reverse_cons] at e1
    have e5 := List.append_inj' e1 rfl
    obtain ⟨e6, e7⟩ := e5
    simp only [List.cons.injEq, Prod.mk.injEq, and_true] at e7
    obtain ⟨rfl, rfl⟩ := e7
    have k := e2 d (by simp)
    obtain ⟨o, p, u⟩ := d
    cases u with
    | nil => exact absurd rfl k.n
    | nd s l r =>
      obtain ⟨s1, s2, s3⟩ := k.s
      have hh := k.h
      simp only [pm.ht] at hh
      refine ⟨s, l, r, pd, s1, s2, s3, by show pm.ht l + p.length + 1 ≤ 33; omega, by show pm.ht r + p.length + 1 ≤ 33; omega, e6, fun d hd => e2 d (by simp [hd]), e3, ?_⟩
      have e : pdSz (⟨o, p, .nd s l r⟩ :: pd) = (1 + sz l + sz r) + pdSz pd := by simp [pdSz, sz]
      rw [e] at e4; omega
theorem way_bd {ns : List Nd} {t : T} {o : Nat} (h : Seg ns o t) (hl : 0 < ns.length) : 0 ≤ way t o ∧ way t o ≤ (ns.length : Int) - 1 := by
  cases t with
  | nil => simp only [way]; omega
  | nd s l r =>
    have := seg_le _ ns o h (by simp)
    simp only [sz] at this
    simp only [way]; omega
/-- where the trie is right nothing is refused -/
theorem dinv_ok {ns : List Nd} {st : List (Nat × Pth)} {o : Nat} {p : Pth} {out : List Rw} {n : Nat} (h : DfsI ns (st ++ [(o, p)]) out n) {t : T} (ht : Rt ns t) : n < ns.length ∧ p.length ≤ 32 ∧ ∀ x, ns[o]? = some x → (0 ≤ x.a ∧ x.a ≤ (ns.length : Int) - 1) ∧ (0 ≤ x.b ∧ x.b ≤ (ns.length : Int) - 1) := by
  obtain ⟨s, l, r, pd, h1, h2, h3, h4, h5, _, _, _, h6⟩ := dinv_top h ht
  have hl : 0 < ns.length := by omega
  refine ⟨by omega, by omega, fun x hx => ?_⟩
  rw [h1] at hx
  cases hx
  exact ⟨way_bd h2 hl, way_bd h3 hl⟩
open Classical in
theorem opt_way {t : T} {o : Nat} (ho : 0 < o) (q : Pth) : opt (way t o) q = if t = .nil then [] else [(o, q)] := by
  cases t with
  | nil =>
    rw [if_pos rfl]
    show opt 0 q = []
    unfold opt; rw [if_neg (by decide)]
  | nd s l r =>
    rw [if_neg (by simp)]
    show opt (o : Int) q = _
    unfold opt
    rw [if_pos (by omega), Int.toNat_natCast]
open Classical in
theorem dinv_step {ns : List Nd} {st : List (Nat × Pth)} {o : Nat} {p : Pth} {out : List Rw} {n : Nat} (h : DfsI ns (st ++ [(o, p)]) out n) (hp : p.length ≤ 32) {x : Nd} (hx : ns[o]? = some x)
    (ha : x.a ≤ (ns.length : Int) - 1) (hb : x.b ≤ (ns.length : Int) - 1) : DfsI ns ((st ++ opt x.b (p ++ [true])) ++ opt x.a (p ++ [false])) (out ++ tell x p) (n + 1) := by
  have ho : ∀ (z : Int) (q : Pth), z ≤ (ns.length : Int) - 1 → q.length ≤ 33 → ∀ d ∈ opt z q, d.1 < ns.length ∧ d.2.length ≤ 33 := by
    intro z q h1 h2 d hd
    unfold opt at hd
    split at hd
    · simp only [List.mem_singleton] at hd; subst hd; exact ⟨by show z.toNat < _; omega, h2⟩
    · simp at hd
  have hol : ∀ (z : Int) (q : Pth), (opt z q).length ≤ 1 := by intro z q; unfold opt; split <;> simp
  refine ⟨fun d hd => ?_, fun y hy => ?_, ?_, ?_, fun t ht => ?_⟩
  · rcases List.mem_append.1 hd with hd | hd
    · rcases List.mem_append.1 hd with hd | hd
      · exact h.td d (by simp [hd])
      · exact ho _ _ hb (by rw [List.length_append]; simp; omega) d hd
    · exact ho _ _ ha (by rw [List.length_append]; simp; omega) d hd
  · rcases List.mem_append.1 hy with hy | hy
    · exact h.ou y hy
    · unfold tell at hy
      split at hy
      · simp only [List.mem_singleton] at hy; subst hy; exact hp
      · simp at hy
  · have := h.ol
    rw [List.length_append]
    unfold tell; split <;> simp <;> omega
  · have h1 := h.tl
    have h2 := hol x.b (p ++ [true])
    have h3 := hol x.a (p ++ [false])
    simp only [List.length_append, List.length_cons, List.length_nil] at h1 ⊢
    omega
  · obtain ⟨s, l, r, pd, g1, g2, g3, g4, g5, g6, g7, g8, g9⟩ := dinv_top h ht
    rw [g1] at hx
    cases hx
    have ea : opt (hd s l r o).a (p ++ [false]) = if l = .nil then [] else [(o + 1, p ++ [false])] := opt_way (by omega) _
    have eb : opt (hd s l r o).b (p ++ [true]) = if r = .nil then [] else [(o + 1 + sz l, p ++ [true])] := opt_way (by omega) _
    have et : tell (hd s l r o) p = (own s).map (pre p) := by
      unfold tell hd own
      cases s <;> simp [pre]
    rw [ea, eb, et, g6]
    rw [at_nd] at g8
    have ok : ∀ (b : Bool) (u : T) (k : Nat), u ≠ .nil → Seg ns k u → pm.ht u + p.length + 1 ≤ 33 → PdOk ns ⟨k, p ++ [b], u⟩ := fun b u k h1 h2 h3 => ⟨h1, h2, by show pm.ht u + (p ++ [b]).length ≤ 33; rw [List.length_append]; simp; omega⟩
    refine ⟨(if l = .nil then [] else [⟨o + 1, p ++ [false], l⟩]) ++ ((if r = .nil then [] else [⟨o + 1 + sz l, p ++ [true], r⟩]) ++ pd), ?_, fun d hd => ?_, ?_, ?_⟩
    · by_cases hl : l = .nil <;> by_cases hr : r = .nil <;> simp [hl, hr]
    · rcases List.mem_append.1 hd with hd | hd
      · split at hd
        · simp at hd
        · rename_i hl; simp only [List.mem_singleton] at hd; subst hd; exact ok _ _ _ hl g2 g4
      · rcases List.mem_append.1 hd with hd | hd
        · split at hd
          · simp at hd
          · rename_i hr; simp only [List.mem_singleton] at hd; subst hd; exact ok _ _ _ hr g3 g5
        · exact g7 d hd
    · have e1 : pdRows (if l = .nil then [] else [⟨o + 1, p ++ [false], l⟩]) = at_ (p ++ [false]) l := by
        split
        · rename_i e; rw [e]; rfl
        · simp [pdRows]
      have e2 : pdRows (if r = .nil then [] else [⟨o + 1 + sz l, p ++ [true], r⟩]) = at_ (p ++ [true]) r := by
        split
        · rename_i e; rw [e]; rfl
        · simp [pdRows]
      have ap : ∀ a b : List Pd, pdRows (a ++ b) = pdRows a ++ pdRows b := fun a b => by simp [pdRows]
      rw [ap, ap, e1, e2, ← g8]
      simp [List.append_assoc]
    · have ap : ∀ a b : List Pd, pdSz (a ++ b) = pdSz a + pdSz b := fun a b => by simp [pdSz]
      have e1 : pdSz (if l = .nil then [] else [⟨o + 1, p ++ [false], l⟩]) = sz l := by
        split
        · rename_i e; rw [e]; rfl
        · simp [pdSz]
      have e2 : pdSz (if r = .nil then [] else [⟨o + 1 + sz l, p ++ [true], r⟩]) = sz r := by
        split
        · rename_i e; rw [e]; rfl
        · simp [pdSz]
      rw [ap, ap, e1, e2]; omega
theorem dinv_end {ns : List Nd} {out : List Rw} {n : Nat} (h : DfsI ns [] out n) {t : T} (ht : Rt ns t) : out = rows t := by
  obtain ⟨pd, e1, _, e3, _⟩ := h.rt t ht
  have : pd = [] := by
    cases pd with
    | nil => rfl
    | cons d pd => simp at e1
  subst this
  simpa [pdRows] using e3
/-- what the reference says of a trie is what the program says of it -/
theorem right_of {ns : List Nd} {rs : List Rw} {ok : Bool} (hl : ns.length ≤ 500) (h1 : ∀ x ∈ rs, x.1.length ≤ 32) (h2 : ∀ t, Rt ns t → ok = true ∧ rs = rows t) :
    (ok = true → ns = lay 0 (ofR rs) → chk ns 2 4 = 0) ∧ (ok = true → ¬ ns = lay 0 (ofR rs) → chk ns 2 4 = 4) ∧ (ok = false → chk ns 2 4 = 4) := by
  have key : (¬ ∃ t, Rt ns t) → chk ns 2 4 = 4 := fun hno => by
    rcases chk_cases ns 2 4 with ⟨t, hr, _⟩ | ⟨_, ⟨h3, _⟩ | ⟨_, _, e⟩⟩
    · exact absurd ⟨t, hr⟩ hno
    · omega
    · exact e
  refine ⟨fun _ h => ?_, fun _ h => key ?_, fun h => key ?_⟩
  · have hr : Rt ns (ofR rs) := ⟨wf_ofR rs, ht_ofR rs h1, h, hl⟩
    exact rt_chk hr 2 4
  · rintro ⟨t, hr⟩
    obtain ⟨_, e2⟩ := h2 t hr
    exact h (by rw [e2, ofR_rows hr.1]; exact hr.2.2.1)
  · rintro ⟨t, hr⟩
    obtain ⟨e1, _⟩ := h2 t hr
    rw [h] at e1; cases e1
end Go.Proofs.Ytiddpkppfpdfhaa.pf
