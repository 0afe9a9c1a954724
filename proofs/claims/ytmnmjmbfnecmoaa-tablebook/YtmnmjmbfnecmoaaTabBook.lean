/- A table beside a map that is kept alike. -/
import Derived.Test.YtmnmjmbfnecmoaaTabKeep
import Derived.Maps.OwnSet
namespace Go.Proofs.Ytmnmjmbfnecmoaa.tbk
open Go.WideShapes Go.Maps
open Go.Proofs.Ytmnmjmbfnecmoaa.tm Go.Proofs.Ytmnmjmbfnecmoaa.tb Go.Proofs.Ytmnmjmbfnecmoaa.tg Go.Proofs.Ytmnmjmbfnecmoaa.tp Go.Proofs.Ytmnmjmbfnecmoaa.tr Go.Proofs.Ytmnmjmbfnecmoaa.tk

abbrev ky (k : Nat) : Lit := .int .u64 (k : Int)
abbrev el (v : Int) : DataW Unit := .lit (.int .i64 v)
theorem ky_ne {a b : Nat} (h : a ≠ b) : ky a ≠ ky b := fun e => by
  simp only [ky, Lit.int.injEq, true_and] at e
  omega
theorem ky_lit (k : Nat) : WideAt.IsKeyLit (ky k) := trivial
/-- the map tells what the table holds -/
structure Bk (l : List St) (D : DataW Unit) (N : Nat) : Prop where
  t : terr l = 0
  k : Ky l
  len : l.length = N
  has : ∀ k, Maps.has D (ky k) = true ↔ ∃ v, Val l k v
  at_ : ∀ k v, Val l k v → D.atKey (ky k) (el 0) = el v
  sz : Maps.size D = cnt l
theorem bk_begin {b : Nat} (h1 : 1 ≤ b) (h2 : b ≤ 6) : Bk (List.replicate (2 ^ b) z0) (.map []) (2 ^ b) :=
  ⟨rep_ok h1 h2, rep_ky _, List.length_replicate, fun k => ⟨(fun h => by cases h), fun ⟨v, h⟩ => absurd h (rep_val _ _ _)⟩, fun k v h => absurd h (rep_val _ _ _), by rw [rep_cnt]; rfl⟩
/-- what is asked -/
theorem bk_yes {l : List St} {D : DataW Unit} {N k : Nat} {c : Int} (h : Bk l D N) (hh : Maps.has D (ky k) = true) (hc : D.atKey (ky k) (el 0) = el c) : fe l k = 0 ∧ gv l k = c := by
  obtain ⟨v, hv⟩ := (h.has k).1 hh
  have e := h.at_ k v hv
  rw [e] at hc
  simp only [el, DataW.lit.injEq, Lit.int.injEq, true_and] at hc
  subst hc
  exact fe_yes h.t hv
theorem bk_no {l : List St} {D : DataW Unit} {N k : Nat} {c : Int} (h : Bk l D N) (hh : Maps.has D (ky k) = false) (hc : D.atKey (ky k) (el 0) = el c) : fe l k = 7 ∧ gv l k = c := by
  have hn : ∀ v, ¬ Val l k v := fun v hv => by
    rw [(h.has k).2 ⟨v, hv⟩] at hh; cases hh
  obtain ⟨a, b⟩ := fe_no h.t hn
  rw [atKey_of_not_has hh] at hc
  simp only [el, DataW.lit.injEq, Lit.int.injEq, true_and] at hc
  exact ⟨a, by rw [b]; exact hc⟩
/-- what is put in -/
theorem bk_put {l : List St} {D : DataW Unit} {N k : Nat} (h : Bk l D N) (hD : Tidy D) (hk : k < 18446744073709551616) (v : Int) (hp : pe l k = 0) : Bk (pl l k v) (D.put (ky k) (el v)) N := by
  rcases put_spec h.t k v with ⟨a, _⟩ | ⟨_, _, a, b, c, d⟩
  · rw [hp] at a; exact absurd a (by decide)
  refine ⟨a, put_ky h.k hk v, by rw [b]; exact h.len, fun k' => ?_, fun k' v' hv => ?_, ?_⟩
  · by_cases e : k' = k
    · subst e
      rw [has_put_same hD.isMap (ky_lit _)]
      exact ⟨fun _ => ⟨v, (d _ v).2 (by rw [if_pos rfl])⟩, fun _ => rfl⟩
    · rw [has_put_other (ky_ne e), h.has]
      constructor
      · rintro ⟨x, hx⟩; exact ⟨x, (d k' x).2 (by rw [if_neg e]; exact hx)⟩
      · rintro ⟨x, hx⟩; refine ⟨x, ?_⟩; have := (d k' x).1 hx; rwa [if_neg e] at this
  · have := (d k' v').1 hv
    by_cases e : k' = k
    · rw [if_pos e] at this
      subst e this
      exact atKey_put_same hD.isMap (ky_lit _) _ _
    · rw [if_neg e] at this
      rw [atKey_put_other (ky_ne e)]
      exact h.at_ k' v' this
  · rw [size_put hD, c, h.sz]
    cases hh : Maps.has D (ky k)
    · have : fe l k = 7 := (fe_no h.t fun v hv => by rw [(h.has k).2 ⟨v, hv⟩] at hh; cases hh).1
      rw [if_neg (by decide), this, if_neg (by decide)]
    · obtain ⟨x, hx⟩ := (h.has k).1 hh
      rw [if_pos rfl, (fe_yes h.t hx).1, if_pos rfl]; rfl
/-- what is taken out -/
theorem bk_rem {l : List St} {D : DataW Unit} {N k : Nat} (h : Bk l D N) (hD : Tidy D) (hf : fe l k = 0) : Bk (rl l k) (D.del (ky k)) N := by
  obtain ⟨a, b, c, d⟩ := rem_spec h.t k hf
  have hh : Maps.has D (ky k) = true := by
    rcases fe_val h.t k with ⟨_, x⟩ | ⟨x, _⟩
    · exact (h.has k).2 ⟨_, x⟩
    · rw [hf] at x; exact absurd x (by decide)
  refine ⟨a, rem_ky h.k k, by rw [b]; exact h.len, fun k' => ?_, fun k' v' hv => ?_, ?_⟩
  · by_cases e : k' = k
    · subst e
      rw [has_del_same]
      exact ⟨(fun h => by cases h), fun ⟨v, hv⟩ => absurd rfl ((d _ v).1 hv).1⟩
    · rw [has_del_other (ky_ne e), h.has]
      constructor
      · rintro ⟨x, hx⟩; exact ⟨x, (d k' x).2 ⟨e, hx⟩⟩
      · rintro ⟨x, hx⟩; exact ⟨x, ((d k' x).1 hx).2⟩
  · obtain ⟨e, hx⟩ := (d k' v').1 hv
    rw [atKey_del_other (ky_ne e)]
    exact h.at_ k' v' hx
  · have := size_del (k := ky k) hD
    rw [hh, if_pos rfl, h.sz] at this
    omega
/-- whether there is room -/
theorem bk_room {l : List St} {D : DataW Unit} {N k : Nat} (h : Bk l D N) : (pe l k = 0 ∧ (Maps.has D (ky k) = true ∨ (Maps.has D (ky k) = false ∧ Maps.size D + 1 < N))) ∨ (pe l k = 6 ∧ Maps.has D (ky k) = false ∧ ¬ Maps.size D + 1 < N) := by
  have hc : cnt l < l.length := free_iff.2 (terr_zero h.t).2.free
  rw [h.len] at hc
  have hfe : ∀ b, Maps.has D (ky k) = b → fe l k = if b then 0 else 7 := fun b hb => by
    cases b
    · exact (fe_no h.t fun v hv => by rw [(h.has k).2 ⟨v, hv⟩] at hb; cases hb).1
    · obtain ⟨x, hx⟩ := (h.has k).1 hb
      exact (fe_yes h.t hx).1
  rcases put_spec h.t k 0 with ⟨a, b, c, _⟩ | ⟨a, b, _⟩
  · refine Or.inr ⟨a, ?_, by rw [h.sz]; rw [h.len] at c; omega⟩
    cases hh : Maps.has D (ky k)
    · rfl
    · rw [hfe _ hh] at b; exact absurd b (by decide)
  · refine Or.inl ⟨a, ?_⟩
    cases hh : Maps.has D (ky k)
    · refine Or.inr ⟨rfl, ?_⟩
      have := b (by rw [hfe _ hh]; rfl)
      rw [h.len] at this
      rw [h.sz]; omega
    · exact Or.inl rfl
end Go.Proofs.Ytmnmjmbfnecmoaa.tbk
