/- Plain mathematics: what Feed makes of a pool that is right is right; what it tells as whole is whole. -/
import Derived.Test.YtlbpapngcgnepaaFragKeep
namespace Go.Proofs.Ytlbpapngcgnepaa.frk
open Go.Proofs.Ytlbpapngcgnepaa Go.Proofs.Ytlbpapngcgnepaa.ipb Go.Proofs.Ytlbpapngcgnepaa.frb Go.Proofs.Ytlbpapngcgnepaa.frp Go.Proofs.Ytlbpapngcgnepaa.pl Go.Proofs.Ytlbpapngcgnepaa.frx Go.Proofs.Ytlbpapngcgnepaa.frh Go.Proofs.Ytlbpapngcgnepaa.frf2 Go.Proofs.Ytlbpapngcgnepaa.frha Go.Proofs.Ytlbpapngcgnepaa.frpu Go.Proofs.Ytlbpapngcgnepaa.frw Go.Proofs.Ytlbpapngcgnepaa.frj Go.Proofs.Ytlbpapngcgnepaa.frt Go.Proofs.Ytlbpapngcgnepaa.frfe Go.Proofs.Ytlbpapngcgnepaa.frc Go.Proofs.Ytlbpapngcgnepaa.frs

/-- heaps of other names -/
def Df (a b : Hp) : Prop := a.h.nm ≠ b.h.nm
theorem same_iff (a b : Hd) : sameH a b = true ↔ a.nm = b.nm := by
  simp only [sameH, Hd.nm, Bool.and_eq_true, beq_iff_eq, Nm.mk.injEq]
theorem eq_iff (a b : Nm) : a.eq b = true ↔ a = b := by
  obtain ⟨a1, a2, a3, a4⟩ := a
  obtain ⟨b1, b2, b3, b4⟩ := b
  simp only [Nm.eq, Bool.and_eq_true, beq_iff_eq, Nm.mk.injEq]
theorem from_iff : ∀ (L P : List Hp), okFrom P L = true ↔ (∀ x ∈ L, x.ok = true) ∧ (∀ y ∈ P, ∀ x ∈ L, Df y x) ∧ L.Pairwise Df
  | [], P => by simp [okFrom]
  | x :: r, P => by
    simp only [okFrom, Bool.and_eq_true, Bool.not_eq_true', List.any_eq_false, from_iff r, List.pairwise_cons]
    constructor
    · rintro ⟨⟨h1, h2⟩, h3, h4, h5⟩
      refine ⟨fun y hy => ?_, fun y hy z hz => ?_, fun y hy => h4 x (by simp) y hy, h5⟩
      · rcases List.mem_cons.1 hy with rfl | hy
        · exact h2
        · exact h3 y hy
      · rcases List.mem_cons.1 hz with rfl | hz
        · exact fun e => h1 y hy ((same_iff _ _).2 e)
        · exact h4 y (by simp [hy]) z hz
    · rintro ⟨h1, h2, h3, h4⟩
      refine ⟨⟨fun y hy e => h2 y hy x (by simp) ((same_iff _ _).1 e), h1 x (by simp)⟩, fun y hy => h1 y (by simp [hy]), fun y hy z hz => ?_, h4⟩
      rcases List.mem_append.1 hy with hy | hy
      · exact h2 y hy z (by simp [hz])
      · simp at hy; subst hy; exact h3 z hz
/-- a pool that is right -/
structure Rp (L : List Hp) : Prop where
  n : L.length ≤ 16
  ok : ∀ x ∈ L, x.ok = true ∧ x.ps.length ≤ 64
  df : L.Pairwise Df
theorem perr_iff (L : List Hp) : perr L = 0 ↔ Rp L := by
  unfold perr
  constructor
  · intro h
    split at h
    · omega
    · rename_i hb
      split at h
      · rename_i hk
        simp only [bigP, Bool.or_eq_true, decide_eq_true_eq, not_or, List.any_eq_true, not_exists, not_and] at hb
        obtain ⟨a, _, c⟩ := (from_iff L []).1 hk
        exact ⟨by omega, fun x hx => ⟨a x hx, by have := hb.2 x hx; omega⟩, c⟩
      · omega
  · rintro ⟨h1, h2, h3⟩
    have hb : ¬ bigP L = true := by
      simp only [bigP, Bool.or_eq_true, decide_eq_true_eq, not_or, List.any_eq_true, not_exists, not_and]
      exact ⟨by omega, fun x hx => by have := (h2 x hx).2; omega⟩
    rw [if_neg hb, if_pos ((from_iff L []).2 ⟨fun x hx => (h2 x hx).1, fun y hy => by simp at hy, h3⟩)]
theorem Rp.sub {L M : List Hp} (h : Rp L) (s : M.Sublist L) : Rp M :=
  ⟨Nat.le_trans s.length_le h.n, fun x hx => h.ok x (s.subset hx), h.df.sublist s⟩
theorem hd_nm (h : Hd) (p : Pk) : (hdOf h p).nm = h.nm := by unfold hdOf; split <;> rfl
theorem pair_set {L : List Hp} {x y : Hp} (hn : y.h.nm = x.h.nm) : ∀ (i : Nat), L[i]? = some x → L.Pairwise Df → (L.set i y).Pairwise Df := by
  induction L with
  | nil => intro i h; simp at h
  | cons a r ih =>
    intro i h hp
    obtain ⟨p1, p2⟩ := List.pairwise_cons.1 hp
    cases i with
    | zero =>
      simp at h; subst h
      rw [List.set_cons_zero]
      exact List.pairwise_cons.2 ⟨fun b hb => by unfold Df; rw [hn]; exact p1 b hb, p2⟩
    | succ i =>
      simp at h
      rw [List.set_cons_succ]
      refine List.pairwise_cons.2 ⟨fun b hb => ?_, ih i (by simpa using h) p2⟩
      rcases List.mem_or_eq_of_mem_set hb with hb | rfl
      · exact p1 b hb
      · unfold Df; rw [hn]; exact p1 x (List.mem_of_getElem? h)
theorem Rp.set {L : List Hp} (h : Rp L) {i : Nat} {x y : Hp} (hx : L[i]? = some x) (hn : y.h.nm = x.h.nm) (hy : y.ok = true ∧ y.ps.length ≤ 64) : Rp (L.set i y) :=
  ⟨by rw [List.length_set]; exact h.n, fun z hz => by
    rcases List.mem_or_eq_of_mem_set hz with hz | rfl
    · exact h.ok z hz
    · exact hy, pair_set hn i hx h.df⟩
theorem fnd_no (n : Nm) : ∀ (l : List Hd) (i : Nat), ¬ 0 ≤ fnd n l i → ∀ y ∈ l, y.nm ≠ n
  | [], _, _, y, hy => by simp at hy
  | a :: r, i, h, y, hy => by
    simp only [fnd] at h
    by_cases ha : a.nm.eq n = true
    · rw [if_pos ha] at h; omega
    · rw [if_neg ha] at h
      rcases List.mem_cons.1 hy with rfl | hy
      · exact fun e => ha ((eq_iff _ _).2 e)
      · exact fnd_no n r (i + 1) h y hy
theorem take_keeps {L : List Hp} {p : Pk} (h : Rp L) (hq : (ptOf p).ok = true) : Rp (takeL L p).L := by
  unfold takeL
  split
  · rename_i hp he
    unfold forAt forL at he ⊢
    by_cases hf : 0 ≤ fnd (pnm p) (L.map (·.h)) 0
    · rw [if_pos hf, if_pos hf] at he
      rw [if_pos hf, if_pos hf]
      generalize (fnd (pnm p) (L.map (·.h)) 0).toNat = i at *
      have hm := h.ok hp (List.mem_of_getElem? he)
      unfold takeAt
      split
      · exact h
      · split
        · exact h.sub (wo_sub _ _)
        · rename_i hr
          split
          · exact h.sub (wo_sub _ _)
          · exact h.set he (hd_nm _ _) (put_ok (hb_of hm.1 hm.2) hq (Classical.not_not.1 hr))
    · rw [if_neg hf, if_neg hf] at he
      rw [if_neg hf, if_neg hf]
      have hno := fnd_no _ _ _ hf
      have hs : (if L.length = 16 then L.drop 1 else L).Sublist L := by
        split
        · exact List.drop_sublist _ _
        · exact List.Sublist.refl _
      have hl : (if L.length = 16 then L.drop 1 else L).length ≤ 15 := by
        have := h.n
        split
        · rw [List.length_drop]; omega
        · omega
      generalize (if L.length = 16 then L.drop 1 else L) = M at *
      have hM := h.sub hs
      rw [Int.toNat_natCast] at he ⊢
      rw [List.getElem?_append_right (Nat.le_refl _), Nat.sub_self, List.getElem?_cons_zero] at he
      have ehp := (Option.some.inj he).symm
      subst ehp
      have ew : wo (M ++ [newH p]) M.length = M := by
        unfold wo
        rw [List.take_left', List.drop_eq_nil_of_le (by simp), List.append_nil]
        rfl
      unfold takeAt
      split
      · rename_i hh; simp [newH] at hh
      · split
        · show Rp (wo _ _); rw [ew]; exact hM
        · rename_i hr
          split
          · show Rp (wo _ _); rw [ew]; exact hM
          · have hb : Hb (newH p) := ⟨by simp [newH], fun q hh => by simp [newH] at hh, by simp [newH], Or.inl (by simp [newH, hdz]; rfl)⟩
            have hk := put_ok (p := p) hb hq (Classical.not_not.1 hr)
            show Rp ((M ++ [newH p]).set M.length _)
            rw [List.set_append_right _ _ (Nat.le_refl _), Nat.sub_self, List.set_cons_zero]
            refine ⟨by rw [List.length_append, List.length_singleton]; omega, fun x hx => ?_, List.pairwise_append.2 ⟨hM.df, by simp, fun a ha b hb => ?_⟩⟩
            · rcases List.mem_append.1 hx with hx | hx
              · exact hM.ok x hx
              · simp at hx; subst hx; exact hk
            · simp at hb; subst hb
              unfold Df
              show a.h.nm ≠ (hdOf (newH p).h p).nm
              rw [hd_nm]
              exact hno a.h (List.mem_map_of_mem (hs.subset ha))
  · exact h
/-- what Feed makes of a pool that is right -/
theorem feed_keeps {L : List Hp} (p : Pk) (h : perr L = 0) (hp : p.err = 0 → p.Ok) : perr (feed L p).L = 0 := by
  unfold feed
  rw [if_neg (by omega)]
  split
  · exact h
  · rename_i he
    split
    · exact h
    · split
      · exact h
      · rename_i h5
        split
        · exact h
        · rename_i hd
          refine (perr_iff _).2 (take_keeps ((perr_iff _).1 h) ?_)
          have := hp (Classical.not_not.1 he)
          have hst := this.st0
          have a1 : 0 ≤ 8 * p.st := by omega
          have a2 : 8 * p.st % 8 = 0 := by omega
          have a3 : 8 * p.st + (p.d.size : Int) ≤ 65515 := by omega
          have a4 : dok p.d (!p.mo) = true := by simpa using hd
          unfold Pt.ok ptOf Pt.e
          simp [a1, a3, a4]
/-- a packet that Feed tells as whole -/
theorem feed_whole (L : List Hp) (p : Pk) (h : (feed L p).ok = true) : (feed L p).q.mo = false ∧ (feed L p).q.st = 0 := by
  unfold feed at h ⊢
  by_cases h1 : perr L ≠ 0
  · rw [if_pos h1] at h; simp at h
  rw [if_neg h1] at h ⊢
  by_cases h2 : p.err ≠ 0
  · rw [if_pos h2] at h; simp at h
  rw [if_neg h2] at h ⊢
  by_cases h3 : p.mo = false ∧ p.st = 0
  · rw [if_pos h3]; exact h3
  rw [if_neg h3] at h ⊢
  by_cases h4 : 65515 < 8 * p.st + p.d.size
  · rw [if_pos h4] at h; simp at h
  rw [if_neg h4] at h ⊢
  by_cases h5 : dok p.d (!p.mo) = false
  · rw [if_pos h5] at h; simp at h
  rw [if_neg h5] at h ⊢
  unfold takeL at h ⊢
  split at h
  · rename_i hp he
    show (takeAt _ _ _ _).q.mo = false ∧ (takeAt _ _ _ _).q.st = 0
    unfold takeAt at h ⊢
    by_cases g1 : hp.ps.any (ptb (ptOf p)) = true
    · rw [if_pos g1] at h; simp at h
    rw [if_neg g1] at h ⊢
    by_cases g2 : rfs hp.ps (ptOf p) ≠ 0
    · rw [if_pos g2] at h; simp at h
    rw [if_neg g2] at h ⊢
    by_cases g3 : whole (putIn hp.ps (ptOf p)) = true
    · rw [if_pos g3]; exact ⟨rfl, rfl⟩
    rw [if_neg g3] at h; simp at h
  · simp at h
end Go.Proofs.Ytlbpapngcgnepaa.frk
