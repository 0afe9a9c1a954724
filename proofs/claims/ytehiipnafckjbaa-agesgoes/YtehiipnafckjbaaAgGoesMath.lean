/- What is told of rooms that are touched, left, expired: by the code and by the document's own package. -/
import Derived.Test.YtehiipnafckjbaaAgLives2
import Derived.Test.YtehiipnafckjbaaAgRef2
import Derived.Test.YtehiipnafckjbaaAgRef3
namespace Go.Proofs.Ytehiipnafckjbaa.aggm
open Go.ChangeShapes Go.WideShapes Go.ChangeAt Go.RowKit
open Go.Proofs.Ytehiipnafckjbaa.am Go.Proofs.Ytehiipnafckjbaa.ag Go.Proofs.Ytehiipnafckjbaa.agr Go.Proofs.Ytehiipnafckjbaa.boxes Go.Proofs.Ytehiipnafckjbaa.rwr
open Go.Proofs.Ytehiipnafckjbaa.rws (Knd Own)

theorem nil_rd (u : World) : Rd SK u (.slice none 0 0) [] := Own.rd (Own.nil SK u 0)
theorem own_old {α : Type} {K : Knd α} {w : World} {B g : Nat} {v : Value} {l : List α} (h : Own K w B v l) (hg : w.heap.size ≤ g) : v.ownBlock ≠ some g := fun e => by
  have := (World.ownsRow.lt h g e).2
  omega
theorem own_grown {α : Type} {K : Knd α} {w w' : World} {B : Nat} {v : Value} {l : List α} {r : Option Nat} (h : Own K w B v l) (hg : w.grownBy w' r) (hne : v.ownBlock ≠ r ∨ v.ownBlock = none) : Own K w' B v l := by
  rcases hne with hne | hne
  · exact World.ownsRow.kept (row := r) h hg (Or.inr hne)
  · rcases h.forms with ⟨rfl, rfl⟩ | ⟨g, c, rfl, _⟩
    · exact Own.nil _ _ _
    · cases hne
/-- rows of stays and of ints are not one -/
theorem kinds_ne {w : World} {B B' : Nat} {v u : Value} {l : List Sy} {k : List Int} (h : Own SK w B v l) (h' : Own NK w B' u k) : (v.ownBlock ≠ u.ownBlock ∨ v.ownBlock = none) ∧ (u.ownBlock ≠ v.ownBlock ∨ u.ownBlock = none) := by
  cases hv : v.ownBlock with
  | none => exact ⟨Or.inr rfl, by cases hu : u.ownBlock with
      | none => exact Or.inr rfl
      | some g => exact Or.inl (fun e => by cases e)⟩
  | some g =>
    cases hu : u.ownBlock with
    | none => exact ⟨Or.inl (fun e => by cases e), Or.inr rfl⟩
    | some g' =>
      have hne : g ≠ g' := fun e => by
        subst e
        obtain ⟨c, hc⟩ := own_kind h g hv
        obtain ⟨c', hc'⟩ := own_kind h' g hu
        rw [hc] at hc'
        simp [SK, NK] at hc'
      exact ⟨Or.inl (fun e => hne (Option.some.inj e)), Or.inl (fun e => hne (Option.some.inj e).symm)⟩
/-- those that stay; those that go -/
def fs (b : Int) (l : List Sy) : List Sy := l.filter fun s => !decide (s.a < b)
def fo (b : Int) (l : List Sy) : List Int := (l.filter fun s => decide (s.a < b)).map (·.r)
theorem fs_one {l : List Sy} {i : Nat} {b : Int} (h : i < l.length) : fs b (l.take (i + 1)) = if (ax l i).a < b then fs b (l.take i) else fs b (l.take i) ++ [ax l i] := by
  rw [take_one h]
  unfold fs
  rw [List.filter_append]
  by_cases e : (ax l i).a < b
  · rw [if_pos e, List.filter_cons_of_neg (by simpa using e)]; simp
  · rw [if_neg e, List.filter_cons_of_pos (by simpa using e)]; rfl
theorem fo_one {l : List Sy} {i : Nat} {b : Int} (h : i < l.length) : fo b (l.take (i + 1)) = if (ax l i).a < b then fo b (l.take i) ++ [(ax l i).r] else fo b (l.take i) := by
  rw [take_one h]
  unfold fo
  rw [List.filter_append]
  by_cases e : (ax l i).a < b
  · rw [if_pos e, List.filter_cons_of_pos (by simpa using e), List.map_append]; rfl
  · rw [if_neg e, List.filter_cons_of_neg (by simpa using e)]; simp
theorem fs_le (l : List Sy) (i : Nat) (b : Int) : (fs b (l.take i)).length ≤ i := by
  unfold fs
  have := List.length_filter_le (fun s : Sy => !decide (s.a < b)) (l.take i)
  rw [List.length_take] at this
  omega
theorem fo_le (l : List Sy) (i : Nat) (b : Int) : (fo b (l.take i)).length ≤ i := by
  unfold fo
  rw [List.length_map]
  have := List.length_filter_le (fun s : Sy => decide (s.a < b)) (l.take i)
  rw [List.length_take] at this
  omega
theorem goes_no {n : Int} {l : List Sy} {r now : Int} (h : aerr n l ≠ 0) : (ue n l r now = aerr n l ∧ un n l r now = 0 ∧ ul n l r now = []) ∧ (le n l r = aerr n l ∧ ln n l r = 0 ∧ ll n l r = []) ∧ xn n l = 0 ∧ xl n l now = [] ∧ xg n l now = [] := by
  have e1 : ce n l now = aerr n l := by unfold ce; rw [if_neg h]
  have e2 : ue n l r now = aerr n l := by unfold ue; rw [e1, if_neg h]
  have e3 : le n l r = aerr n l := by unfold le; rw [if_neg h]
  obtain ⟨a1, a2⟩ := ue_zeros (n := n) (l := l) (r := r) (now := now) (by rw [e2]; exact h)
  obtain ⟨b1, b2⟩ := le_zeros (n := n) (l := l) (r := r) (by rw [e3]; exact h)
  obtain ⟨c1, c2, c3⟩ := xe_zeros h now
  exact ⟨⟨e2, a1, a2⟩, ⟨e3, b1, b2⟩, c1, c2, c3⟩
theorem goes_ok {n : Int} {l : List Sy} {r now : Int} (h : aerr n l = 0) : l.length ≤ 64 ∧ Ok n l ∧ xn n l = n ∧ xl n l now = fs now l ∧ xg n l now = fo now l ∧
    ((tk l r = true ∧ ue n l r now = qe l now ∧ un n l r now = qn n l now ∧ ul n l r now = ql l r now ∧ le n l r = 0 ∧ ln n l r = n ∧ ll n l r = wo l r) ∨
     (tk l r = false ∧ le n l r = 7 ∧ ln n l r = 0 ∧ ll n l r = [] ∧ un n l r now = 0 ∧ ul n l r now = [] ∧ ((qe l now = 0 ∧ ue n l r now = 7) ∨ (qe l now = 1 ∧ ue n l r now = 1 ∧ qn n l now = 0 ∧ ql l r now = [])))) := by
  obtain ⟨m, rfl, h1, h64, hok, hlm⟩ := aerr_nat h
  obtain ⟨x1, x2, x3⟩ := xe_ones h now
  refine ⟨by omega, hok, x1, by rw [x2]; exact (old_drop hok).symm, by rw [x3]; unfold fo; rw [old_take hok], ?_⟩
  cases ht : tk l r
  · right
    have e3 : le m l r = 7 := by
      rcases le_cases m l r with ⟨_, b⟩ | ⟨a, _⟩ | ⟨_, _, c⟩
      · exact absurd h b
      · exact a
      · rw [ht] at c; cases c
    obtain ⟨b1, b2⟩ := le_zeros (n := m) (l := l) (r := r) (by rw [e3]; decide)
    have key : ue m l r now ≠ 0 ∧ ((qe l now = 0 ∧ ue m l r now = 7) ∨ (qe l now = 1 ∧ ue m l r now = 1 ∧ qn m l now = 0 ∧ ql l r now = [])) := by
      rcases ue_cases m l r now with ⟨a, b⟩ | ⟨a, b, _⟩ | ⟨_, _, c⟩
      · rcases ce_cases m l now with ⟨_, y⟩ | ⟨x, _, y⟩ | ⟨x, _⟩
        · exact absurd h y
        · obtain ⟨p1, p2, p3⟩ := q_late y m r
          exact ⟨by rw [a]; exact b, Or.inr ⟨p1, by rw [a, x], p2, p3⟩⟩
        · exact absurd x b
      · exact ⟨by rw [a]; decide, Or.inl ⟨(q_no (ce_aerr b).2 m r).1, a⟩⟩
      · rw [ht] at c; cases c
    obtain ⟨a1, a2⟩ := ue_zeros key.1
    exact ⟨rfl, e3, b1, b2, a1, a2, key.2⟩
  · left
    have e3 : le m l r = 0 := by
      rcases le_cases m l r with ⟨_, b⟩ | ⟨_, _, c⟩ | ⟨a, _⟩
      · exact absurd h b
      · rw [ht] at c; cases c
      · exact a
    obtain ⟨b1, b2⟩ := le_ones e3
    rcases ue_cases m l r now with ⟨a, b⟩ | ⟨_, _, c⟩ | ⟨a, b, _⟩
    · rcases ce_cases m l now with ⟨_, y⟩ | ⟨x, _, y⟩ | ⟨x, _⟩
      · exact absurd h y
      · obtain ⟨p1, p2, p3⟩ := q_late y m r
        obtain ⟨a1, a2⟩ := ue_zeros (n := m) (l := l) (r := r) (now := now) (by rw [a]; exact b)
        exact ⟨rfl, by rw [a, x, p1], by rw [a1, p2], by rw [a2, p3], e3, b1, b2⟩
      · exact absurd x b
    · rw [ht] at c; cases c
    · obtain ⟨p1, p2, p3⟩ := q_no (ce_aerr b).2 m r
      obtain ⟨a1, a2⟩ := ue_ones a
      exact ⟨rfl, by rw [a, p1], by rw [a1, p2], by rw [a2, p3], e3, b1, b2⟩
end Go.Proofs.Ytehiipnafckjbaa.aggm
