/- What the calls on rooms by their age answer, plain: the errors, the sizes, the rows, case by case. -/
import Derived.Test.YtehiipnafckjbaaAgMath
namespace Go.Proofs.Ytehiipnafckjbaa.am

def rs (n : Int) : Bool := decide (1 ≤ n) && decide (n ≤ 64)
theorem rs_iff {n : Int} : rs n = true ↔ 1 ≤ n ∧ n ≤ 64 := by unfold rs; simp
theorem rs_no {n : Int} : rs n = false ↔ ¬ (1 ≤ n ∧ n ≤ 64) := by rw [← rs_iff]; simp
open Classical in
/-- Check's error -/
noncomputable def aerr (n : Int) (l : List Sy) : Int := if rs n = true then (if Ok n l then 0 else 4) else 1
theorem aerr_arg {n : Int} {l : List Sy} (h : rs n = false) : aerr n l = 1 := by unfold aerr; rw [if_neg (by rw [h]; decide)]
theorem aerr_form {n : Int} {l : List Sy} (h : rs n = true) (h2 : ¬ Ok n l) : aerr n l = 4 := by unfold aerr; rw [if_pos h, if_neg h2]
theorem aerr_ok {n : Int} {l : List Sy} (h : rs n = true) (h2 : Ok n l) : aerr n l = 0 := by unfold aerr; rw [if_pos h, if_pos h2]
theorem aerr_zero {n : Int} {l : List Sy} (h : aerr n l = 0) : rs n = true ∧ Ok n l := by
  cases h1 : rs n
  · rw [aerr_arg h1] at h; exact absurd h (by decide)
  · by_cases h2 : Ok n l
    · exact ⟨rfl, h2⟩
    · rw [aerr_form h1 h2] at h; exact absurd h (by decide)
theorem aerr_nat {n : Int} {l : List Sy} (h : aerr n l = 0) : ∃ m : Nat, n = (m : Int) ∧ 1 ≤ m ∧ m ≤ 64 ∧ Ok m l ∧ l.length ≤ m := by
  obtain ⟨a, b⟩ := aerr_zero h
  have := rs_iff.1 a
  obtain ⟨m, rfl⟩ : ∃ m : Nat, n = (m : Int) := ⟨n.toNat, by omega⟩
  exact ⟨m, rfl, by omega, by omega, b, ok_len b⟩
theorem aerr_cases (n : Int) (l : List Sy) : (aerr n l = 1 ∧ rs n = false) ∨ (aerr n l = 4 ∧ rs n = true ∧ ¬ Ok n l) ∨ (aerr n l = 0 ∧ rs n = true ∧ Ok n l) := by
  cases h1 : rs n
  · exact Or.inl ⟨aerr_arg h1, rfl⟩
  · by_cases h2 : Ok n l
    · exact Or.inr (Or.inr ⟨aerr_ok h1 h2, rfl, h2⟩)
    · exact Or.inr (Or.inl ⟨aerr_form h1 h2, rfl, h2⟩)
/-- checkAt's error -/
noncomputable def ce (n : Int) (l : List Sy) (now : Int) : Int := if aerr n l = 0 then (if late l now = true then 1 else 0) else aerr n l
theorem ce_cases (n : Int) (l : List Sy) (now : Int) : (ce n l now = aerr n l ∧ aerr n l ≠ 0) ∨ (ce n l now = 1 ∧ aerr n l = 0 ∧ late l now = true) ∨ (ce n l now = 0 ∧ aerr n l = 0 ∧ late l now = false) := by
  unfold ce
  by_cases h : aerr n l = 0
  · rw [if_pos h]
    cases h2 : late l now
    · exact Or.inr (Or.inr ⟨by rw [if_neg (by decide)], h, rfl⟩)
    · exact Or.inr (Or.inl ⟨by rw [if_pos rfl], h, rfl⟩)
  · rw [if_neg h]; exact Or.inl ⟨rfl, h⟩
/-- Take -/
noncomputable def te (n : Int) (l : List Sy) (now : Int) : Int := if ce n l now = 0 then (if (l.length : Int) = n then 6 else 0) else ce n l now
noncomputable def tn (n : Int) (l : List Sy) (now : Int) : Int := if te n l now = 0 then n else 0
noncomputable def tr (n : Int) (l : List Sy) (now : Int) : Int := if te n l now = 0 then (lf l : Int) else 0
noncomputable def tl (n : Int) (l : List Sy) (now : Int) : List Sy := if te n l now = 0 then l ++ [⟨(lf l : Int), now⟩] else []
theorem te_zeros {n : Int} {l : List Sy} {now : Int} (h : te n l now ≠ 0) : tn n l now = 0 ∧ tr n l now = 0 ∧ tl n l now = [] := ⟨if_neg h, if_neg h, if_neg h⟩
theorem te_ones {n : Int} {l : List Sy} {now : Int} (h : te n l now = 0) : tn n l now = n ∧ tr n l now = (lf l : Int) ∧ tl n l now = l ++ [⟨(lf l : Int), now⟩] := ⟨if_pos h, if_pos h, if_pos h⟩
theorem te_cases (n : Int) (l : List Sy) (now : Int) : (te n l now = ce n l now ∧ ce n l now ≠ 0) ∨ (te n l now = 6 ∧ ce n l now = 0 ∧ (l.length : Int) = n) ∨ (te n l now = 0 ∧ ce n l now = 0 ∧ (l.length : Int) ≠ n) := by
  unfold te
  by_cases h : ce n l now = 0
  · rw [if_pos h]
    by_cases h2 : (l.length : Int) = n
    · rw [if_pos h2]; exact Or.inr (Or.inl ⟨rfl, h, h2⟩)
    · rw [if_neg h2]; exact Or.inr (Or.inr ⟨rfl, h, h2⟩)
  · rw [if_neg h]; exact Or.inl ⟨rfl, h⟩
/-- Leave -/
noncomputable def le (n : Int) (l : List Sy) (r : Int) : Int := if aerr n l = 0 then (if tk l r = true then 0 else 7) else aerr n l
noncomputable def ln (n : Int) (l : List Sy) (r : Int) : Int := if le n l r = 0 then n else 0
noncomputable def ll (n : Int) (l : List Sy) (r : Int) : List Sy := if le n l r = 0 then wo l r else []
theorem le_zeros {n : Int} {l : List Sy} {r : Int} (h : le n l r ≠ 0) : ln n l r = 0 ∧ ll n l r = [] := ⟨if_neg h, if_neg h⟩
theorem le_ones {n : Int} {l : List Sy} {r : Int} (h : le n l r = 0) : ln n l r = n ∧ ll n l r = wo l r := ⟨if_pos h, if_pos h⟩
theorem le_cases (n : Int) (l : List Sy) (r : Int) : (le n l r = aerr n l ∧ aerr n l ≠ 0) ∨ (le n l r = 7 ∧ aerr n l = 0 ∧ tk l r = false) ∨ (le n l r = 0 ∧ aerr n l = 0 ∧ tk l r = true) := by
  unfold le
  by_cases h : aerr n l = 0
  · rw [if_pos h]
    cases h2 : tk l r
    · exact Or.inr (Or.inl ⟨by rw [if_neg (by decide)], h, rfl⟩)
    · exact Or.inr (Or.inr ⟨by rw [if_pos rfl], h, rfl⟩)
  · rw [if_neg h]; exact Or.inl ⟨rfl, h⟩
/-- Touch -/
noncomputable def ue (n : Int) (l : List Sy) (r now : Int) : Int := if ce n l now = 0 then (if tk l r = true then 0 else 7) else ce n l now
noncomputable def un (n : Int) (l : List Sy) (r now : Int) : Int := if ue n l r now = 0 then n else 0
noncomputable def ul (n : Int) (l : List Sy) (r now : Int) : List Sy := if ue n l r now = 0 then wo l r ++ [⟨r, now⟩] else []
theorem ue_zeros {n : Int} {l : List Sy} {r now : Int} (h : ue n l r now ≠ 0) : un n l r now = 0 ∧ ul n l r now = [] := ⟨if_neg h, if_neg h⟩
theorem ue_ones {n : Int} {l : List Sy} {r now : Int} (h : ue n l r now = 0) : un n l r now = n ∧ ul n l r now = wo l r ++ [⟨r, now⟩] := ⟨if_pos h, if_pos h⟩
theorem ue_cases (n : Int) (l : List Sy) (r now : Int) : (ue n l r now = ce n l now ∧ ce n l now ≠ 0) ∨ (ue n l r now = 7 ∧ ce n l now = 0 ∧ tk l r = false) ∨ (ue n l r now = 0 ∧ ce n l now = 0 ∧ tk l r = true) := by
  unfold ue
  by_cases h : ce n l now = 0
  · rw [if_pos h]
    cases h2 : tk l r
    · exact Or.inr (Or.inl ⟨by rw [if_neg (by decide)], h, rfl⟩)
    · exact Or.inr (Or.inr ⟨by rw [if_pos rfl], h, rfl⟩)
  · rw [if_neg h]; exact Or.inl ⟨rfl, h⟩
theorem ce_aerr {n : Int} {l : List Sy} {now : Int} (h : ce n l now = 0) : aerr n l = 0 ∧ late l now = false := by
  rcases ce_cases n l now with ⟨a, b⟩ | ⟨a, _⟩ | ⟨_, b, c⟩
  · rw [a] at h; exact absurd h b
  · rw [a] at h; exact absurd h (by decide)
  · exact ⟨b, c⟩
theorem ue_le {n : Int} {l : List Sy} {r now : Int} (h : ce n l now = 0) : le n l r = ue n l r now := by
  unfold le ue
  rw [if_pos h, if_pos (ce_aerr h).1]
/-- Expire -/
noncomputable def xn (n : Int) (l : List Sy) : Int := if aerr n l = 0 then n else 0
noncomputable def xl (n : Int) (l : List Sy) (b : Int) : List Sy := if aerr n l = 0 then l.drop (old b l) else []
noncomputable def xg (n : Int) (l : List Sy) (b : Int) : List Int := if aerr n l = 0 then (l.take (old b l)).map (·.r) else []
theorem xe_zeros {n : Int} {l : List Sy} (h : aerr n l ≠ 0) (b : Int) : xn n l = 0 ∧ xl n l b = [] ∧ xg n l b = [] := ⟨if_neg h, if_neg h, if_neg h⟩
theorem xe_ones {n : Int} {l : List Sy} (h : aerr n l = 0) (b : Int) : xn n l = n ∧ xl n l b = l.drop (old b l) ∧ xg n l b = (l.take (old b l)).map (·.r) := ⟨if_pos h, if_pos h, if_pos h⟩
/-- the sizes of what is told -/
theorem tl_len (n : Int) (l : List Sy) (now : Int) : (tl n l now).length ≤ l.length + 1 := by
  unfold tl; split <;> simp
theorem ll_len (n : Int) (l : List Sy) (r : Int) : (ll n l r).length ≤ l.length := by
  unfold ll; split
  · exact List.length_filter_le _ _
  · simp
end Go.Proofs.Ytehiipnafckjbaa.am
