/- Rooms by their age beside a map that is kept alike. -/
import Derived.Test.YtehiipnafckjbaaAgExpire
import Derived.Test.YtehiipnafckjbaaAgRoomIn
import Derived.Maps.OwnSet
namespace Go.Proofs.Ytehiipnafckjbaa.agb
open Go.WideShapes Go.Maps
open Go.Proofs.Ytehiipnafckjbaa.am Go.Proofs.Ytehiipnafckjbaa.ag Go.Proofs.Ytehiipnafckjbaa.agx

abbrev ky (r : Int) : Lit := .int .i64 r
abbrev el (v : Int) : DataW Unit := .lit (.int .i64 v)
theorem ky_ne {a b : Int} (h : a ≠ b) : ky a ≠ ky b := fun e => by
  simp only [ky, Lit.int.injEq, true_and] at e
  exact h e
theorem ky_lit (r : Int) : WideAt.IsKeyLit (ky r) := trivial
/-- the map tells what the rooms hold -/
structure Bk (l : List Sy) (D : DataW Unit) (N : Nat) (t : Int) : Prop where
  ok : Ok N l
  late : late l t = false
  has : ∀ r, Maps.has D (ky r) = tk l r
  at_ : ∀ s ∈ l, D.atKey (ky s.r) (el 0) = el s.a
  sz : Maps.size D = l.length
theorem bk_begin (N : Nat) : Bk [] (.map []) N 0 := ⟨ok_nil _, rfl, fun r => rfl, fun s h => by simp at h, rfl⟩
theorem bk_later {l : List Sy} {D : DataW Unit} {N : Nat} {t u : Int} (h : Bk l D N t) (hu : t ≤ u) : Bk l D N u :=
  ⟨h.ok, late_no.2 fun s hs => by have := late_no.1 h.late s hs; omega, h.has, h.at_, h.sz⟩
theorem bk_aerr {l : List Sy} {D : DataW Unit} {N : Nat} {t : Int} (h : Bk l D N t) (hN : rs N = true) : aerr N l = 0 := aerr_ok hN h.ok
theorem bk_ce {l : List Sy} {D : DataW Unit} {N : Nat} {t : Int} (h : Bk l D N t) (hN : rs N = true) : ce N l t = 0 := by
  rcases ce_cases N l t with ⟨_, b⟩ | ⟨_, _, c⟩ | ⟨a, _⟩
  · exact absurd (bk_aerr h hN) b
  · rw [h.late] at c; cases c
  · exact a
/-- one that wasn't there -/
theorem bk_add {l : List Sy} {D : DataW Unit} {N : Nat} {t : Int} (h : Bk l D N t) (hD : Tidy D) {r : Int} (hr : tk l r = false) (h0 : 0 ≤ r) (h1 : r < N) : Bk (l ++ [⟨r, t⟩]) (D.put (ky r) (el t)) N t := by
  refine ⟨ok_one h.ok h0 h1 hr (late_no.1 h.late), ?_, fun q => ?_, fun s hs => ?_, ?_⟩
  · refine late_no.2 fun s hs => ?_
    rcases List.mem_append.1 hs with hs | hs
    · exact late_no.1 h.late s hs
    · rw [List.mem_singleton.1 hs]; exact Int.le_refl _
  · rw [tk_append]
    by_cases e : q = r
    · subst e
      rw [has_put_same hD.isMap (ky_lit _)]
      simp [tk]
    · rw [has_put_other (ky_ne e), h.has]
      have : tk [(⟨r, t⟩ : Sy)] q = false := tk_no.2 fun s hs => by rw [List.mem_singleton.1 hs]; exact fun e' => e e'.symm
      rw [this, Bool.or_false]
  · rcases List.mem_append.1 hs with hs | hs
    · have hne : s.r ≠ r := tk_no.1 hr s hs
      rw [atKey_put_other (ky_ne hne)]
      exact h.at_ s hs
    · rw [List.mem_singleton.1 hs]
      exact atKey_put_same hD.isMap (ky_lit _) _ _
  · rw [size_put hD, h.has, hr, if_neg (by decide), h.sz, List.length_append]; rfl
/-- one that was there, put behind -/
theorem bk_move {l : List Sy} {D : DataW Unit} {N : Nat} {t : Int} (h : Bk l D N t) (hD : Tidy D) {r : Int} (hr : tk l r = true) : Bk (wo l r ++ [⟨r, t⟩]) (D.put (ky r) (el t)) N t := by
  obtain ⟨s0, hs0, e0⟩ := tk_iff.1 hr
  have hb := h.ok.1 s0 hs0
  rw [e0] at hb
  have hw : tk (wo l r) r = false := by rw [wo_tk]; simp
  refine ⟨ok_one (wo_ok h.ok r) hb.1 hb.2 hw (fun s hs => late_no.1 h.late s (List.mem_filter.1 hs).1), ?_, fun q => ?_, fun s hs => ?_, ?_⟩
  · refine late_no.2 fun s hs => ?_
    rcases List.mem_append.1 hs with hs | hs
    · exact late_no.1 h.late s (List.mem_filter.1 hs).1
    · rw [List.mem_singleton.1 hs]; exact Int.le_refl _
  · rw [tk_append, wo_tk]
    by_cases e : q = r
    · subst e
      rw [has_put_same hD.isMap (ky_lit _)]
      simp [tk]
    · rw [has_put_other (ky_ne e), h.has]
      have : tk [(⟨r, t⟩ : Sy)] q = false := tk_no.2 fun s hs => by rw [List.mem_singleton.1 hs]; exact fun e' => e e'.symm
      rw [this, Bool.or_false]
      have : (q != r) = true := by simpa using e
      rw [this, Bool.and_true]
  · rcases List.mem_append.1 hs with hs | hs
    · have hne : s.r ≠ r := tk_no.1 hw s hs
      rw [atKey_put_other (ky_ne hne)]
      exact h.at_ s (List.mem_filter.1 hs).1
    · rw [List.mem_singleton.1 hs]
      exact atKey_put_same hD.isMap (ky_lit _) _ _
  · have := wo_len h.ok hr
    rw [size_put hD, h.has, hr, if_pos rfl, h.sz, List.length_append]
    simp; omega
/-- one that leaves -/
theorem bk_gone {l : List Sy} {D : DataW Unit} {N : Nat} {t : Int} (h : Bk l D N t) (hD : Tidy D) {r : Int} (hr : tk l r = true) : Bk (wo l r) (D.del (ky r)) N t := by
  have hw : tk (wo l r) r = false := by rw [wo_tk]; simp
  refine ⟨wo_ok h.ok r, late_no.2 fun s hs => late_no.1 h.late s (List.mem_filter.1 hs).1, fun q => ?_, fun s hs => ?_, ?_⟩
  · rw [wo_tk]
    by_cases e : q = r
    · subst e
      rw [has_del_same]; simp
    · have : (q != r) = true := by simpa using e
      rw [has_del_other (ky_ne e), h.has, this, Bool.and_true]
  · have hne : s.r ≠ r := tk_no.1 hw s hs
    rw [atKey_del_other (ky_ne hne)]
    exact h.at_ s (List.mem_filter.1 hs).1
  · have h1 := size_del (k := ky r) hD
    have h2 := wo_len h.ok hr
    rw [h.has, hr, if_pos rfl, h.sz] at h1
    omega
/-- the oldest leaves -/
theorem bk_first {l : List Sy} {s : Sy} {D : DataW Unit} {N : Nat} {t : Int} (h : Bk (s :: l) D N t) (hD : Tidy D) : Bk l (D.del (ky s.r)) N t := by
  have h1 := bk_gone h hD (r := s.r) (by rw [tk_cons]; simp)
  obtain ⟨_, _, c, _⟩ := ok_cons.1 h.ok
  have hn : tk l s.r = false := tk_no.2 fun x hx e => (c x hx).1 e.symm
  have : wo (s :: l) s.r = l := by
    unfold wo
    rw [List.filter_cons_of_neg (by simp)]
    exact wo_none hn
  rw [this] at h1
  exact h1
theorem bk_old {l : List Sy} {j : Nat} {D : DataW Unit} {N : Nat} {t : Int} (h : Bk (l.drop j) D N t) (hD : Tidy D) (hj : j < l.length) : Bk (l.drop (j + 1)) (D.del (ky (ax l j).r)) N t := by
  rw [List.drop_eq_getElem_cons hj, ← ax_elem hj] at h
  exact bk_first h hD
/-- what the map tells of the oldest -/
theorem bk_age {l : List Sy} {j : Nat} {D : DataW Unit} {N : Nat} {t c : Int} (h : Bk (l.drop j) D N t) (hj : j < l.length) (hc : D.atKey (ky (ax l j).r) (el 0) = el c) : c = (ax l j).a := by
  rw [List.drop_eq_getElem_cons hj, ← ax_elem hj] at h
  have := h.at_ (ax l j) List.mem_cons_self
  rw [this] at hc
  simp only [el, DataW.lit.injEq, Lit.int.injEq, true_and] at hc
  exact hc.symm
/-- who goes -/
theorem bk_goes {l : List Sy} {D : DataW Unit} {N : Nat} {t b c r : Int} (h : Bk l D N t) (hr : tk l r = true) (hc : D.atKey (ky r) (el 0) = el c) : (r ∈ (l.take (old b l)).map (·.r)) ↔ c < b := by
  obtain ⟨q, hq, rfl⟩ := tk_ax.1 hr
  have hca : c = (ax l q).a := by
    have := h.at_ _ (ax_mem hq)
    rw [this] at hc
    simp only [el, DataW.lit.injEq, Lit.int.injEq, true_and] at hc
    exact hc.symm
  rw [hca, ← old_take h.ok]
  constructor
  · intro hm
    obtain ⟨s, hs, e⟩ := List.mem_map.1 hm
    obtain ⟨h1, h2⟩ := List.mem_filter.1 hs
    obtain ⟨p, hp, rfl⟩ := mem_ax h1
    have : p = q := by
      rcases Nat.lt_trichotomy p q with c | c | c
      · exact absurd e ((ok_iff.1 h.ok q hq).2.2 p c).1
      · exact c
      · exact absurd e.symm ((ok_iff.1 h.ok p hp).2.2 q c).1
    rw [← this]; simpa using h2
  · intro hm
    exact List.mem_map.2 ⟨_, List.mem_filter.2 ⟨ax_mem hq, by simpa using hm⟩, rfl⟩
/-- Take -/
theorem bk_take {l : List Sy} {D : DataW Unit} {N : Nat} {t : Int} (h : Bk l D N t) (hN : rs N = true) (hD : Tidy D) :
    (te N l t = 6 ∧ Maps.size D = N) ∨ (te N l t = 0 ∧ tn N l t = N ∧ tr N l t = (lf l : Int) ∧ tl N l t = l ++ [⟨(lf l : Int), t⟩] ∧ lf l < N ∧ Maps.has D (ky (lf l)) = false ∧ Bk (l ++ [⟨(lf l : Int), t⟩]) (D.put (ky (lf l)) (el t)) N t) := by
  rcases te_cases N l t with ⟨_, b⟩ | ⟨a, _, c⟩ | ⟨a, _, c⟩
  · exact absurd (bk_ce h hN) b
  · exact Or.inl ⟨a, by rw [h.sz]; omega⟩
  · obtain ⟨x, y, z⟩ := te_ones a
    have hl := lf_room h.ok (by omega)
    have hf := (lf_spec l).1
    exact Or.inr ⟨a, x, y, z, hl, by rw [h.has]; exact hf, bk_add h hD hf (by omega) (by omega)⟩
/-- Touch -/
theorem bk_touch {l : List Sy} {D : DataW Unit} {N : Nat} {t : Int} (h : Bk l D N t) (hN : rs N = true) (hD : Tidy D) (r : Int) :
    (ue N l r t = 7 ∧ Maps.has D (ky r) = false) ∨ (ue N l r t = 0 ∧ un N l r t = N ∧ Maps.has D (ky r) = true ∧ Bk (ul N l r t) (D.put (ky r) (el t)) N t) := by
  rcases ue_cases N l r t with ⟨_, b⟩ | ⟨a, _, c⟩ | ⟨a, _, c⟩
  · exact absurd (bk_ce h hN) b
  · exact Or.inl ⟨a, by rw [h.has]; exact c⟩
  · obtain ⟨x, y⟩ := ue_ones a
    exact Or.inr ⟨a, x, by rw [h.has]; exact c, by rw [y]; exact bk_move h hD c⟩
/-- Leave -/
theorem bk_leave {l : List Sy} {D : DataW Unit} {N : Nat} {t : Int} (h : Bk l D N t) (hN : rs N = true) (hD : Tidy D) (r : Int) :
    (le N l r = 7 ∧ Maps.has D (ky r) = false) ∨ (le N l r = 0 ∧ ln N l r = N ∧ Maps.has D (ky r) = true ∧ Bk (ll N l r) (D.del (ky r)) N t) := by
  rcases le_cases N l r with ⟨_, b⟩ | ⟨a, _, c⟩ | ⟨a, _, c⟩
  · exact absurd (bk_aerr h hN) b
  · exact Or.inl ⟨a, by rw [h.has]; exact c⟩
  · obtain ⟨x, y⟩ := le_ones a
    exact Or.inr ⟨a, x, by rw [h.has]; exact c, by rw [y]; exact bk_gone h hD c⟩
end Go.Proofs.Ytehiipnafckjbaa.agb
