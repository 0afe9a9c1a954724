/- What custref.Trimmed answers: the longest row, as it is told. -/
import Derived.Test.YtdmlfnhlgnhkdaaSerMath
import Derived.Deep.DeepCutAuto
namespace Go.Proofs.Ytdmlfnhlgnhkdaa.serr
open Go.ChangeShapes Go.WideShapes Go.ChangeAt Go.RowKit
open Go.Proofs.Ytdmlfnhlgnhkdaa.seri Go.Proofs.Ytdmlfnhlgnhkdaa.sert Go.Proofs.Ytdmlfnhlgnhkdaa.serm

/-- where the loop stands at byte k -/
structure St (n : Nat) (p : Nat → Bool) (k r b e : Nat) : Prop where
  best : Best k p b e
  rk : r ≤ k
  all : ∀ i, r ≤ i → i < k → p i = true
  first : r = 0 ∨ p (r - 1) = false
theorem St.zero (n : Nat) (p : Nat → Bool) : St n p 0 0 0 0 where
  best := ⟨Nat.le_refl _, Nat.le_refl _, fun i _ h => by omega, fun c g _ _ _ => by omega, fun c g _ _ _ _ => by omega⟩
  rk := Nat.le_refl _
  all := fun i _ h => by omega
  first := Or.inl rfl
theorem St.out {n : Nat} {p : Nat → Bool} {k r b e : Nat} (h : St n p k r b e) (hp : p k = false) : St n p (k + 1) (k + 1) b e where
  best := by
    refine ⟨h.best.le, by have := h.best.en; omega, h.best.all, ?_, ?_⟩
    · intro c g hcg hg hall
      by_cases hh : c < g
      · by_cases hk : g = k + 1
        · have := hall k (by omega) (by omega); rw [hp] at this; exact absurd this (by decide)
        · exact h.best.max c g hcg (by omega) hall
      · omega
    · intro c g hcg hg hall hl
      by_cases hk : g = k + 1
      · have := hall k (by omega) (by omega); rw [hp] at this; exact absurd this (by decide)
      · exact h.best.fst c g hcg (by omega) hall hl
  rk := Nat.le_refl _
  all := fun i _ h => by omega
  first := Or.inr hp
theorem St.row {n : Nat} {p : Nat → Bool} {k r b e : Nat} (h : St n p k r b e) (hp : p k = true) : (∀ i, r ≤ i → i < k + 1 → p i = true) ∧ (∀ c g, c < g → g ≤ k + 1 → (∀ i, c ≤ i → i < g → p i = true) → g ≤ k ∨ r ≤ c) := by
  refine ⟨fun i h1 h2 => ?_, fun c g hcg hg hall => ?_⟩
  · by_cases e : i = k
    · rw [e]; exact hp
    · exact h.all i h1 (by omega)
  · by_cases hk : g ≤ k
    · exact Or.inl hk
    · right
      rcases h.first with h0 | h0
      · omega
      · by_cases hc : r ≤ c
        · exact hc
        · have := hall (r - 1) (by omega) (by have := h.rk; omega); rw [h0] at this; exact absurd this (by decide)
theorem St.keep {n : Nat} {p : Nat → Bool} {k r b e : Nat} (h : St n p k r b e) (hp : p k = true) (hl : k + 1 - r ≤ e - b) : St n p (k + 1) r b e := by
  obtain ⟨h1, h2⟩ := h.row hp
  have hr := h.rk
  refine ⟨⟨h.best.le, by have := h.best.en; omega, h.best.all, ?_, ?_⟩, by omega, h1, h.first⟩
  · intro c g hcg hg hall
    by_cases hh : c < g
    · rcases h2 c g hh hg hall with h3 | h3
      · exact h.best.max c g hcg h3 hall
      · omega
    · omega
  · intro c g hcg hg hall hlen
    rcases h2 c g hcg hg hall with h3 | h3
    · exact h.best.fst c g hcg h3 hall hlen
    · -- as long as the best: that is no earlier
      have hb := h.best.le
      have hen := h.best.en
      by_cases hbr : b ≤ r
      · omega
      · exfalso; have := h.best.en; omega
theorem St.more {n : Nat} {p : Nat → Bool} {k r b e : Nat} (h : St n p k r b e) (hp : p k = true) (hl : ¬ k + 1 - r ≤ e - b) : St n p (k + 1) r r (k + 1) := by
  obtain ⟨h1, h2⟩ := h.row hp
  have hr := h.rk
  refine ⟨⟨by omega, Nat.le_refl _, h1, ?_, ?_⟩, by omega, h1, h.first⟩
  · intro c g hcg hg hall
    by_cases hh : c < g
    · rcases h2 c g hh hg hall with h3 | h3
      · have := h.best.max c g hcg h3 hall; omega
      · omega
    · omega
  · intro c g hcg hg hall hlen
    rcases h2 c g hcg hg hall with h3 | h3
    · have := h.best.max c g (by omega) h3 hall; omega
    · exact h3
theorem ext_snoc (d : ByteArray) (r k : Nat) (h : r ≤ k) : d.extract r k ++ d.extract k (k + 1) = d.extract r (k + 1) := by
  apply ByteArray.ext
  simp [h]
theorem ext_size (d : ByteArray) (r k : Nat) (hk : k ≤ d.size) : (d.extract r k).size = k - r := by rw [ByteArray.size_extract]; omega
theorem ext_ne (d : ByteArray) (r k : Nat) (h : r < k) (hk : k ≤ d.size) : ¬ d.extract r k = emp := fun e => by
  have := ext_emp _ e; rw [ext_size d r k hk] at this; omega
set_option maxHeartbeats 1000000 in
theorem trimmed_any (a : Int) (d : ByteArray) (f s : Int) (w : World) (a0 : 0 ≤ a) (a1 : a < 4294967296) (f0 : 0 ≤ f) (f1 : f < 4294967296) (s0 : 0 ≤ s) (s1 : s < 4294967296) (hd : d.size ≤ 5000) :
    Calls Try.prog 15 #[.int .u32 a, .string d, .int .u32 f, .int .u32 s] w fun e w' => e = .returned (.tuple #[.int .u32 (tr a d f s).1, .string (tr a d f s).2]) ∧ w' = w := by
  obtain ⟨b0, e0, HB, HT⟩ := tr_best a d f s a0 a1 f0 f1 s0 s1 hd
  rw [HT]
  have HB' : Hid (Best d.size (pin a f s) b0 e0) := HB
  clear HT HB
  obtain ⟨R1, HR1⟩ : ∃ x, Hid ((told a d f b0 e0).1 = x) := ⟨_, (rfl : _ = _)⟩
  obtain ⟨R2, HR2⟩ : ∃ x, Hid ((told a d f b0 e0).2 = x) := ⟨_, (rfl : _ = _)⟩
  rw [HR1.out, HR2.out]
  go_enter Try.func15, Try.ntmps15
  go_wp2_with fail
  go_loopw [10, 11, 12, 13, 20] (fun best fi row bgn i w' => ∃ (k r b e : Nat) (g : Int), k ≤ d.size ∧ Hid (St d.size (pin a f s) k r b e) ∧ best = .string (d.extract b e) ∧ fi = .int .u32 (told a d f b e).1 ∧ row = .string (d.extract r k) ∧ bgn = .int .u32 g ∧ Hid (r < k → g = num a r) ∧ i = .int .i64 k ∧ w' = w) (fun _ _ _ _ i _ => d.size - (intOf i).toNat)
  case atStart =>
    refine ⟨0, 0, 0, 0, f, Nat.zero_le _, St.zero _ _, ?_, ?_, ?_, rfl, fun h => absurd h (by omega), rfl, rfl⟩
    · rw [ext_none d 0 0 (by omega)]; rfl
    · unfold told; rw [if_neg (by omega)]
    · rw [ext_none d 0 0 (by omega)]; rfl
  case round =>
    obtain ⟨k, r, b, e, g, hk, hst, rfl, rfl, rfl, rfl, hg, rfl, rfl⟩ := hrel
    by_cases hlt : k < d.size
    · have hlt' : (k : Int) < d.size := by omega
      have hk1 : (k : Int) < 4294967296 := by omega
      have hk2 : (k : Int) % 4294967296 = k := by omega
      have hk3 : k + 1 ≤ d.size := by omega
      have hn := num_bd a k
      have sl : ∀ u, (Instr.slice 9 (.string d) (some (.int .i64 k)) (some (.int .i64 ((k : Int) + 1))) none).run Try.prog u = .ok (.string (d.extract k (k + 1))) u := fun u => by
        have := run_slice_string u 9 d .i64 .i64 (k : Int) ((k : Int) + 1) Try.underlying9 (by omega) (by omega) (by omega)
        simpa using this
      go_wp2_with fail
      refine (plus_any _ _ _ a0 a1 (by omega) hk1).mono ?_
      rintro e1 w1 ⟨rfl, rfl⟩
      rw [show (a + (k : Int)) % 4294967296 = num a k from rfl]
      go_wp2_with fail
      refine (inside_any _ _ _ _ hn.1 hn.2 f0 f1 s0 s1).mono ?_
      rintro e1 w1 ⟨rfl, rfl⟩
      rw [show inn (num a k) f s = pin a f s k from rfl]
      have hen := hst.out.best.en
      have hrk := hst.out.rk
      cases hp : pin a f s k
      · go_wp2_with fail
        go_roundw
        case rel =>
          refine ⟨k + 1, k + 1, b, e, g, by omega, hst.out.out hp, rfl, rfl, ?_, rfl, fun h => absurd h (by omega), by go_num, trivial⟩
          rw [ext_none d (k + 1) (k + 1) (by omega)]; rfl
        case measure => simp [intOf]; omega
      · have zb := ext_size d b e (by omega)
        have zr := ext_size d r (k + 1) (by omega)
        have HP : Hid (pin a f s k = true) := hp
        clear hp
        have hsn := ext_snoc d r k hrk
        obtain ⟨g', hg', HC⟩ : ∃ g' : Int, Hid (g' = num a r) ∧ ((r = k ∧ g' = num a k) ∨ (r < k ∧ g' = g)) := by
          by_cases h : r < k
          · exact ⟨g, hg.out h, Or.inr ⟨h, rfl⟩⟩
          · have : r = k := by omega
            exact ⟨num a k, by show _ = _; rw [this], Or.inl ⟨this, rfl⟩⟩
        have hH : Hid (k ≤ d.size) := hk
        have hL : Hid (k < d.size) := hlt
        obtain ⟨X, HX⟩ : ∃ X, Hid (d.extract r (k + 1) = X) := ⟨_, (rfl : _ = _)⟩
        rw [HX.out] at hsn zr
        by_cases hm : k + 1 - r ≤ e - b
        · have HS : Hid _ := hst.out.keep HP.out hm
          have hl : ¬ (d.extract b e).size < X.size := by omega
          obtain ⟨Y, HY⟩ : ∃ Y, Hid (d.extract b e = Y) := ⟨_, (rfl : _ = _)⟩
          rw [HY.out] at hl ⊢
          have hm' : ¬ (Y.size : Int) < (X.size : Int) := by omega
          clear zb zr hm hen hk hk3
          rcases HC with ⟨hc, rfl⟩ | ⟨hc, rfl⟩
          · subst hc
            rw [ext_none d r r (by omega)] at hsn ⊢
            unfold emp at hsn ⊢
            clear hrk
            go_wp2_with fail
            go_roundw
            case rel => exact ⟨r + 1, r, b, e, _, by have := hL.out; omega, HS, by rw [HY.out], rfl, by rw [HX.out], rfl, fun _ => by first | rfl | exact hg'.out, by go_num, trivial⟩
            case measure => simp [intOf]; have := hL.out; omega
          · have hne := ne_list (ext_ne d r k hc hH.out)
            have hne' := ne_list' (ext_ne d r k hc hH.out)
            clear hrk hc
            go_wp2_with fail
            go_roundw
            case rel => exact ⟨k + 1, r, b, e, _, by have := hL.out; omega, HS, by rw [HY.out], rfl, by rw [HX.out], rfl, fun _ => by first | rfl | exact hg'.out, by go_num, trivial⟩
            case measure => simp [intOf]; have := hL.out; omega
        · have HS : Hid _ := hst.out.more HP.out hm
          have hl : (d.extract b e).size < X.size := by omega
          have htl : Hid ((told a d f r (k + 1)).1 = g') := by
            show _ = _
            unfold told; rw [hg'.out]; exact if_pos (by omega)
          obtain ⟨Y, HY⟩ : ∃ Y, Hid (d.extract b e = Y) := ⟨_, (rfl : _ = _)⟩
          rw [HY.out] at hl ⊢
          have hm' : (Y.size : Int) < (X.size : Int) := by omega
          clear zb zr hm hen hk hk3
          rcases HC with ⟨hc, rfl⟩ | ⟨hc, rfl⟩
          · subst hc
            rw [ext_none d r r (by omega)] at hsn ⊢
            unfold emp at hsn ⊢
            clear hrk
            go_wp2_with fail
            go_roundw
            case rel => exact ⟨r + 1, r, r, r + 1, _, by have := hL.out; omega, HS, by rw [HX.out], by rw [htl.out], by rw [HX.out], rfl, fun _ => by first | rfl | exact hg'.out, by go_num, trivial⟩
            case measure => simp [intOf]; have := hL.out; omega
          · have hne := ne_list (ext_ne d r k hc hH.out)
            have hne' := ne_list' (ext_ne d r k hc hH.out)
            clear hrk hc
            go_wp2_with fail
            go_roundw
            case rel => exact ⟨k + 1, r, r, k + 1, _, by have := hL.out; omega, HS, by rw [HX.out], by rw [htl.out], by rw [HX.out], rfl, fun _ => by first | rfl | exact hg'.out, by go_num, trivial⟩
            case measure => simp [intOf]; have := hL.out; omega
    · have hge : ¬ (k : Int) < d.size := by omega
      have hkd : k = d.size := by omega
      have B := hst.out.best
      rw [hkd] at B
      have T := told_one HB'.out B
      have T1 : Hid (R1 = (told a d f b e).1) := by show _ = _; rw [← HR1.out, T]
      have T2 : Hid (R2 = d.extract b e) := by show _ = _; rw [← HR2.out, T]; rfl
      clear T B hkd
      go_wp2_with fail
      go_ret2
      exact ⟨by rw [T1.out, T2.out]; rfl, rfl⟩
end Go.Proofs.Ytdmlfnhlgnhkdaa.serr
