/- The longest row of bytes that are within: what it is, and that Trim tells it. -/
import Derived.Test.YtdmlfnhlgnhkdaaSerTrimIn
namespace Go.Proofs.Ytdmlfnhlgnhkdaa.serm
open Go.Proofs.Ytdmlfnhlgnhkdaa.seri Go.Proofs.Ytdmlfnhlgnhkdaa.sert

/-- of n bytes those from b on, up to e, are the longest row within, the first of such -/
structure Best (n : Nat) (p : Nat → Bool) (b e : Nat) : Prop where
  le : b ≤ e
  en : e ≤ n
  all : ∀ i, b ≤ i → i < e → p i = true
  max : ∀ c g, c ≤ g → g ≤ n → (∀ i, c ≤ i → i < g → p i = true) → g - c ≤ e - b
  fst : ∀ c g, c < g → g ≤ n → (∀ i, c ≤ i → i < g → p i = true) → g - c = e - b → b ≤ c
theorem Best.one {n : Nat} {p : Nat → Bool} {b e b' e' : Nat} (h : Best n p b e) (h' : Best n p b' e') : e - b = e' - b' ∧ (b < e → b = b' ∧ e = e') := by
  have h1 := h.max b' e' h'.le h'.en h'.all
  have h2 := h'.max b e h.le h.en h.all
  have hle := h.le
  have hle' := h'.le
  refine ⟨by omega, fun hlt => ?_⟩
  have h3 := h.fst b' e' (by omega) h'.en h'.all (by omega)
  have h4 := h'.fst b e (by omega) h.en h.all (by omega)
  omega
/-- the byte's number -/
def num (a : Int) (i : Nat) : Int := (a + i) % 4294967296
def pin (a f s : Int) (i : Nat) : Bool := inn (num a i) f s
theorem pin_iff (a f s : Int) (i : Nat) : pin a f s i = true ↔ (wy f a + i) % 4294967296 < s := by
  unfold pin inn num wy
  rw [decide_eq_true_iff]
  have : ((a + i) % 4294967296 - f) % 4294967296 = ((a - f) % 4294967296 + i) % 4294967296 := by omega
  rw [this]
theorem num_bd (a : Int) (i : Nat) : 0 ≤ num a i ∧ num a i < 4294967296 := by unfold num; omega
/-- what a row is told as -/
def told (a : Int) (d : ByteArray) (f : Int) (b e : Nat) : Int × ByteArray := (if b < e then num a b else f, d.extract b e)
theorem ext_none (d : ByteArray) (b e : Nat) (h : ¬ b < e) : d.extract b e = emp := by
  apply ByteArray.ext
  simp [emp]; omega
theorem ext_all (d : ByteArray) : d.extract 0 d.size = d := by simp
theorem ext_emp (d : ByteArray) (h : d = emp) : d.size = 0 := by subst h; rfl
theorem em_of (d : ByteArray) (h : d.size = 0) : d = emp := by
  rw [← ext_all d]; exact ext_none d 0 d.size (by omega)

theorem best_none (n : Nat) (a f s : Int) (h : ∀ i, i < n → pin a f s i = false) : Best n (pin a f s) 0 0 where
  le := Nat.le_refl _
  en := Nat.zero_le _
  all := fun i _ hi => by omega
  max := fun c g hcg hg hall => by
    by_cases hh : c < g
    · have := hall c (Nat.le_refl _) hh
      rw [h c (by omega)] at this; exact absurd this (by decide)
    · omega
  fst := fun c g hcg hg hall _ => by omega
/-- Trim tells the longest row -/
theorem tr_best (a : Int) (d : ByteArray) (f s : Int) (a0 : 0 ≤ a) (a1 : a < 4294967296) (f0 : 0 ≤ f) (f1 : f < 4294967296) (s0 : 0 ≤ s) (s1 : s < 4294967296) (hd : d.size ≤ 5000) :
    ∃ b e, Best d.size (pin a f s) b e ∧ tr a d f s = told a d f b e := by
  have hp := wy_bd f a
  have hq : wy a f = if wy f a = 0 then 0 else 4294967296 - wy f a := by unfold wy; split <;> omega
  have hx0 : wy f f = 0 := by unfold wy; omega
  have hnum0 : num a 0 = a := by unfold num; omega
  have hnumq : ∀ k : Nat, (k : Int) = wy a f → num a k = f := fun k hk => by unfold num; rw [hk]; unfold wy; omega
  have hiff := pin_iff a f s
  generalize hpp : wy f a = p at *
  -- the two rows, by their ends
  obtain ⟨m, hm⟩ : ∃ m : Nat, m = if p < s then min d.size (s - p).toNat else 0 := ⟨_, rfl⟩
  have E1 : t1 a d f s = d.extract 0 m := by
    unfold t1 bg; rw [hpp]
    by_cases h : p < s
    · rw [if_pos h]; rw [if_pos h] at hm
      by_cases g : s - p < d.size
      · rw [if_pos g, hm, Nat.min_eq_right (by omega)]
      · rw [if_neg g, hm, Nat.min_eq_left (by omega), ext_all]
    · rw [if_neg h]; rw [if_neg h] at hm; rw [hm, ext_none d 0 0 (by omega)]
  obtain ⟨q, hqq⟩ : ∃ q : Nat, (q : Int) = wy a f := ⟨(wy a f).toNat, by have := wy_bd a f; omega⟩
  obtain ⟨r, hr⟩ : ∃ r : Nat, r = if q < d.size then min d.size (q + s.toNat) else q := ⟨_, rfl⟩
  have E2 : t2 a d f s = d.extract q r := by
    unfold t2 bg; rw [hx0]
    by_cases g : q < d.size
    · rw [if_pos g] at hr
      have eb : bh d (wy a f) = d.extract q d.size := by unfold bh; rw [if_neg (by omega), ← hqq]; simp
      have ez : (bh d (wy a f)).size = d.size - q := by rw [eb, ByteArray.size_extract]; omega
      by_cases h : (0 : Int) < s
      · rw [if_pos h, ez]
        by_cases k : s - 0 < ((d.size - q : Nat) : Int)
        · rw [if_pos k, eb, hr, Nat.min_eq_right (by omega)]
          apply ByteArray.ext
          simp only [ByteArray.data_extract, Array.extract_extract]
          congr 1 <;> omega
        · rw [if_neg k, eb, hr, Nat.min_eq_left (by omega)]
      · rw [if_neg h, ext_none d q r (by omega)]
    · rw [if_neg g] at hr
      have eb : bh d (wy a f) = emp := by unfold bh; rw [if_pos (by omega)]
      rw [eb, ext_none d q r (by omega)]
      have : emp.size = 0 := rfl
      split
      · split
        · rw [this] at *; omega
        · rfl
      · rfl
  have z1 : (t1 a d f s).size = m := by rw [E1, ByteArray.size_extract]; split at hm <;> omega
  have z2 : (t2 a d f s).size = r - q := by rw [E2, ByteArray.size_extract]; split at hr <;> omega
  have b1 : m ≤ d.size := by split at hm <;> omega
  have b2 : r ≤ d.size ∨ r = q := by split at hr <;> omega
  have c2 : q ≤ r := by split at hr <;> omega
  -- a row lies in one of both
  have key : ∀ c g, c < g → g ≤ d.size → (∀ i, c ≤ i → i < g → pin a f s i = true) → g ≤ m ∨ (q ≤ c ∧ g ≤ r) := by
    intro c g hcg hg hall
    by_cases hp0 : p = 0
    · left
      have h1 := (hiff (g - 1)).1 (hall (g - 1) (by omega) (by omega))
      split at hm <;> omega
    · rw [if_neg hp0] at hq
      by_cases hc : p + c < 4294967296
      · left
        have h1 := (hiff c).1 (hall c (by omega) (by omega))
        by_cases hgs : p + g ≤ s
        · split at hm <;> omega
        · exfalso
          have h2 := (hiff (s - p).toNat).1 (hall (s - p).toNat (by omega) (by omega))
          omega
      · right
        have h1 := (hiff (g - 1)).1 (hall (g - 1) (by omega) (by omega))
        split at hr <;> omega
  have al1 : ∀ i, 0 ≤ i → i < m → pin a f s i = true := fun i _ hi => (hiff i).2 (by split at hm <;> omega)
  have al2 : q < d.size → ∀ i, q ≤ i → i < r → pin a f s i = true := fun hqd i hqi hi => (hiff i).2 (by
    rw [if_pos hqd] at hr
    split at hq <;> omega)
  unfold tr
  by_cases hcond : t1 a d f s ≠ emp ∧ (t2 a d f s).size ≤ (t1 a d f s).size
  · rw [if_pos hcond]
    have hm0 : 0 < m := by
      rcases Nat.eq_zero_or_pos m with h | h
      · exact absurd (em_of _ (by rw [z1, h])) hcond.1
      · exact h
    refine ⟨0, m, ⟨Nat.zero_le _, b1, al1, ?_, fun _ _ _ _ _ _ => Nat.zero_le _⟩, ?_⟩
    · intro c g hcg hg hall
      have := hcond.2
      rw [z1, z2] at this
      by_cases hlt : c < g
      · rcases key c g hlt hg hall with h | h <;> omega
      · omega
    · unfold told; rw [if_pos hm0, hnum0, E1]
  · rw [if_neg hcond]
    have hcase : m = 0 ∨ m < r - q := by
      rcases Nat.eq_zero_or_pos m with h | h
      · exact Or.inl h
      · right
        have h1 : t1 a d f s ≠ emp := fun e => by have := ext_emp _ e; omega
        have h2 : ¬ (t2 a d f s).size ≤ (t1 a d f s).size := fun k => hcond ⟨h1, k⟩
        rw [z1, z2] at h2; omega
    by_cases hqr : q < r
    · have hqd : q < d.size := by split at hr <;> omega
      refine ⟨q, r, ⟨c2, by omega, al2 hqd, ?_, ?_⟩, ?_⟩
      · intro c g hcg hg hall
        by_cases hlt : c < g
        · rcases key c g hlt hg hall with h | h <;> omega
        · omega
      · intro c g hcg hg hall hlen
        rcases key c g hcg hg hall with h | h <;> omega
      · unfold told; rw [if_pos hqr, hnumq q hqq, E2]
    · have hm0 : m = 0 := by omega
      refine ⟨0, 0, best_none _ _ _ _ fun i hi => ?_, ?_⟩
      · cases hh : pin a f s i with
        | false => rfl
        | true =>
          rcases key i (i + 1) (by omega) (by omega) (fun j h1 h2 => by rwa [show j = i by omega]) with h | h <;> omega
      · unfold told; rw [if_neg (by omega), E2, ext_none d q r hqr, ext_none d 0 0 (by omega)]
theorem told_one {a : Int} {d : ByteArray} {f s : Int} {b e b' e' : Nat} (h : Best d.size (pin a f s) b e) (h' : Best d.size (pin a f s) b' e') : told a d f b e = told a d f b' e' := by
  obtain ⟨h1, h2⟩ := h.one h'
  by_cases hlt : b < e
  · obtain ⟨rfl, rfl⟩ := h2 hlt; rfl
  · have hlt' : ¬ b' < e' := by have := h.le; have := h'.le; omega
    unfold told; rw [if_neg hlt, if_neg hlt', ext_none d b e hlt, ext_none d b' e' hlt']
end Go.Proofs.Ytdmlfnhlgnhkdaa.serm
