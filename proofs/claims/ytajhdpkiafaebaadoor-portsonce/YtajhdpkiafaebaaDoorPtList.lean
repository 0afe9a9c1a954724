/- The ports that are free, rising, as the document's answer lists them; how it chooses. -/
import Derived.Test.YtajhdpkiafaebaaDoorPtPop
namespace Go.Proofs.YtajhdpkiafaebaaDoor.pl
open Go.Proofs.YtajhdpkiafaebaaDoor.pm Go.Proofs.YtajhdpkiafaebaaDoor.pp

def fk (t n : Nat) : List Nat := (List.range n).filter fun k => !t.testBit k
def FL (b : Int) (t n : Nat) : List Int := (fk t n).map fun (k : Nat) => b + (k : Int)
theorem FL_zero (b : Int) (t : Nat) : FL b t 0 = [] := rfl
theorem fk_succ (t n : Nat) : fk t (n + 1) = fk t n ++ if t.testBit n = true then [] else [n] := by
  unfold fk
  rw [List.range_succ, List.filter_append]
  cases h : t.testBit n <;> simp [h]
theorem FL_let {b : Int} {t n : Nat} (h : t.testBit n = true) : FL b t (n + 1) = FL b t n := by
  unfold FL; rw [fk_succ, if_pos h, List.append_nil]
theorem FL_free {b : Int} {t n : Nat} (h : t.testBit n = false) : FL b t (n + 1) = FL b t n ++ [b + (n : Int)] := by
  unfold FL; rw [fk_succ, if_neg (by rw [h]; decide), List.map_append]; rfl
theorem fk_len (t n : Nat) : (fk t n).length ≤ n := by
  unfold fk
  have := List.length_filter_le (fun k => !t.testBit k) (List.range n)
  rwa [List.length_range] at this
theorem FL_le (b : Int) (t n : Nat) : (FL b t n).length ≤ n := by unfold FL; rw [List.length_map]; exact fk_len t n
theorem FL_len (b : Int) (t : Nat) : (FL b t 64).length = nf t := by
  unfold FL fk nf; rw [List.length_map, List.countP_eq_length_filter]
theorem FL_mem {b : Int} {t : Nat} {x : Int} : x ∈ FL b t 64 ↔ ∃ k, F t k ∧ x = b + (k : Int) := by
  unfold FL fk
  rw [List.mem_map]
  constructor
  · rintro ⟨k, hk, rfl⟩
    rw [List.mem_filter, List.mem_range] at hk
    exact ⟨k, ⟨hk.1, by simpa using hk.2⟩, rfl⟩
  · rintro ⟨k, hk, rfl⟩
    exact ⟨k, by rw [List.mem_filter, List.mem_range]; exact ⟨hk.1, by simpa using hk.2⟩, rfl⟩
theorem FL_up (b : Int) (t n : Nat) : (FL b t n).Pairwise (· < ·) := by
  unfold FL fk
  rw [List.pairwise_map]
  refine List.Pairwise.imp (fun {x y} (h : x < y) => by omega) (List.Pairwise.filter _ List.pairwise_lt_range)
/-- the first that fits -/
structure At (l : List Int) (p : Int → Bool) (i : Int) : Prop where
  no : i < 0 → ∀ x ∈ l, p x = false
  yes : 0 ≤ i → ∃ (k : Nat) (x : Int), i = k ∧ l[k]? = some x ∧ p x = true ∧ ∀ (j : Nat) (y : Int), j < k → l[j]? = some y → p y = false
/-- an element ahead of another one is less -/
theorem up_lt {l : List Int} (h : l.Pairwise (· < ·)) {i j : Nat} {x y : Int} (hij : i < j) (hi : l[i]? = some x) (hj : l[j]? = some y) : x < y := by
  obtain ⟨h1, rfl⟩ := List.getElem?_eq_some_iff.1 hi
  obtain ⟨h2, rfl⟩ := List.getElem?_eq_some_iff.1 hj
  exact List.pairwise_iff_getElem.1 h i j h1 h2 hij
theorem up_le {l : List Int} (h : l.Pairwise (· < ·)) {i : Nat} {x y : Int} (hi : l[i]? = some x) (hy : y ∈ l) (hn : ∀ j, j < i → l[j]? ≠ some y) : x ≤ y := by
  obtain ⟨j, hj⟩ := List.getElem?_of_mem hy
  by_cases h1 : j < i
  · exact absurd hj (hn j h1)
  by_cases h2 : j = i
  · subst h2; rw [hi] at hj; exact Int.le_of_eq (Option.some.inj hj)
  · exact Int.le_of_lt (up_lt h (by omega) hi hj)
/-- want among them -/
theorem ref_self {b w : Int} {t q : Nat} (_ht : t < 18446744073709551616) (h : w ∈ FL b t 64) {r : Nat} (hr : Lk t (w - b) q r) : w = b + (r : Int) := by
  obtain ⟨k, hk, rfl⟩ := FL_mem.1 h
  have := hr.self ⟨k, hk, by omega⟩
  omega
/-- the first of want's kind -/
theorem ref_kind {b w : Int} {t q : Nat} (p : Int → Bool) (hp : ∀ k : Nat, p (b + (k : Int)) = decide (k % 2 = q)) (hn : ¬ w ∈ FL b t 64) {i : Int} (ha : At (FL b t 64) p i) (h0 : 0 ≤ i) {r : Nat} (hr : Lk t (w - b) q r) : ∃ k : Nat, i = k ∧ (FL b t 64)[k]? = some (b + (r : Int)) := by
  obtain ⟨k, x, rfl, hx, hpx, hj⟩ := ha.yes h0
  obtain ⟨s, hs, rfl⟩ := FL_mem.1 (List.mem_of_getElem? hx)
  have hsq : s % 2 = q := by rw [hp] at hpx; simpa using hpx
  have hv : ¬ ∃ k, F t k ∧ (k : Int) = w - b := fun ⟨k, hk, e⟩ => hn (FL_mem.2 ⟨k, hk, by omega⟩)
  have hl : Lk t (w - b) q s := by
    refine ⟨hs, fun h => absurd h hv, fun _ _ => ⟨hsq, fun j hjf hjq => ?_⟩, fun _ h => absurd ⟨s, hs, hsq⟩ h⟩
    have := up_le (FL_up b t 64) hx (FL_mem.2 ⟨j, hjf, rfl⟩) (fun m hm e => by
      have := hj m _ hm e
      rw [hp] at this
      simp [hjq] at this)
    omega
  have := hl.uniq hr
  subst this
  exact ⟨k, rfl, hx⟩
/-- the first of all -/
theorem ref_least {b w : Int} {t q : Nat} (p : Int → Bool) (hp : ∀ k : Nat, p (b + (k : Int)) = decide (k % 2 = q)) (hn : ¬ w ∈ FL b t 64) {i : Int} (ha : At (FL b t 64) p i) (h0 : i < 0) (hne : 0 < (FL b t 64).length) {r : Nat} (hr : Lk t (w - b) q r) : (FL b t 64)[0]? = some (b + (r : Int)) := by
  obtain ⟨x, hx⟩ : ∃ x, (FL b t 64)[0]? = some x := ⟨_, List.getElem?_eq_getElem hne⟩
  obtain ⟨s, hs, rfl⟩ := FL_mem.1 (List.mem_of_getElem? hx)
  have hv : ¬ ∃ k, F t k ∧ (k : Int) = w - b := fun ⟨k, hk, e⟩ => hn (FL_mem.2 ⟨k, hk, by omega⟩)
  have hk : ¬ ∃ k, F t k ∧ k % 2 = q := fun ⟨k, hk, e⟩ => by
    have := ha.no h0 _ (FL_mem.2 ⟨k, hk, rfl⟩)
    rw [hp] at this
    simp [e] at this
  have hl : Lk t (w - b) q s := by
    refine ⟨hs, fun h => absurd h hv, fun _ h => absurd h hk, fun _ _ j hjf => ?_⟩
    have := up_le (FL_up b t 64) hx (FL_mem.2 ⟨j, hjf, rfl⟩) (fun m hm => absurd hm (by omega))
    omega
  rw [hx, hl.uniq hr]
end Go.Proofs.YtajhdpkiafaebaaDoor.pl
