/- Plain mathematics of feeding a packet's pieces: when the heap is whole, that the pool is right, and what Feed tells. -/
import Derived.Test.YtlbpapngcgnepaaFragBackMath
namespace Go.Proofs.Ytlbpapngcgnepaa.frbm
open Go.Proofs.Ytlbpapngcgnepaa Go.Proofs.Ytlbpapngcgnepaa.ipb Go.Proofs.Ytlbpapngcgnepaa.frb Go.Proofs.Ytlbpapngcgnepaa.frp Go.Proofs.Ytlbpapngcgnepaa.pl Go.Proofs.Ytlbpapngcgnepaa.frx Go.Proofs.Ytlbpapngcgnepaa.frh Go.Proofs.Ytlbpapngcgnepaa.frf2 Go.Proofs.Ytlbpapngcgnepaa.frha Go.Proofs.Ytlbpapngcgnepaa.frpu Go.Proofs.Ytlbpapngcgnepaa.frw Go.Proofs.Ytlbpapngcgnepaa.frj Go.Proofs.Ytlbpapngcgnepaa.frt Go.Proofs.Ytlbpapngcgnepaa.frfe Go.Proofs.Ytlbpapngcgnepaa.frm

section
variable {p : Pk} {z : Nat} (h : Env p z)
include h
/-- where the next one begins -/
theorem e_next (c : Nat) (hc : c + 1 < npc z p.d.size) : (pt p z c).e = (((c + 1) * z : Nat) : Int) := by
  have := hc
  rw [npc_lt h.z0] at this
  rw [pt_e h c (by omega), succ_mul]
  rw [succ_mul] at this
  omega
theorem a_eq (i c : Nat) (e : (pt p z i).a = ((c * z : Nat) : Int)) : i = c := by
  rw [pt_a h] at e
  have : i * z = c * z := by omega
  exact Nat.eq_of_mul_eq_mul_right h.z0 this
theorem whole_from : ∀ (I : List Nat) (c : Nat), c < npc z p.d.size → (∀ x ∈ I, x < npc z p.d.size) → I ≠ [] → cpl ((c * z : Nat) : Int) (I.map (pt p z)) = true → lastLa (I.map (pt p z)) = true → I = List.range' c (npc z p.d.size - c)
  | [], _, _, _, hne, _, _ => absurd rfl hne
  | i :: r, c, hc, hb, _, hcp, hla => by
    simp only [List.map_cons, cpl, Bool.and_eq_true, decide_eq_true_eq] at hcp
    obtain ⟨ha, hr⟩ := hcp
    have hi := a_eq h i c ha
    subst hi
    cases r with
    | nil =>
      have hl : (pt p z i).la = true := by simpa [lastLa] using hla
      have := (pt_la h i hc).1 hl
      have e : npc z p.d.size - i = 1 := by omega
      rw [e]; rfl
    | cons j s =>
      by_cases hlast : i + 1 < npc z p.d.size
      · have hl' : lastLa ((j :: s).map (pt p z)) = true := by
          have e : lastLa ((i :: j :: s).map (pt p z)) = lastLa ((j :: s).map (pt p z)) := by simp [lastLa]
          rw [← e]; exact hla
        rw [e_next h i hlast] at hr
        have := whole_from (j :: s) (i + 1) hlast (fun x hx => hb x (List.mem_cons_of_mem _ hx)) (by simp) hr hl'
        rw [this]
        have e : npc z p.d.size - i = (npc z p.d.size - (i + 1)) + 1 := by omega
        rw [e, List.range'_succ]
      · have hj := hb j (by simp)
        have hjn := lt_n h j hj
        simp only [List.map_cons, cpl, Bool.and_eq_true, decide_eq_true_eq] at hr
        have e1 := hr.1
        rw [pt_a h, pt_e h i hc] at e1
        have hn : ¬ i * z + z < p.d.size := by rw [← succ_mul, ← npc_lt h.z0]; omega
        omega
theorem range_whole : ∀ (n c : Nat), c + n = npc z p.d.size → 0 < n → cpl ((c * z : Nat) : Int) ((List.range' c n).map (pt p z)) = true ∧ lastLa ((List.range' c n).map (pt p z)) = true
  | 0, _, _, hn => absurd hn (by omega)
  | n + 1, c, hc, _ => by
    rw [List.range'_succ, List.map_cons]
    simp only [cpl, Bool.and_eq_true, decide_eq_true_eq]
    cases n with
    | zero =>
      refine ⟨⟨pt_a h c, rfl⟩, ?_⟩
      have := (pt_la h c (by omega)).2 (by omega)
      simpa [lastLa] using this
    | succ m =>
      obtain ⟨a, b⟩ := range_whole (m + 1) (c + 1) (by omega) (by omega)
      rw [e_next h c (by omega)]
      refine ⟨⟨pt_a h c, a⟩, ?_⟩
      rw [List.range'_succ, List.map_cons] at b ⊢
      have e : ∀ (x y : Pt) (l : List Pt), lastLa (x :: y :: l) = lastLa (y :: l) := fun x y l => by simp [lastLa]
      rw [e]; exact b
theorem whole_iff {I : List Nat} (hI : Ix p z I) : whole (I.map (pt p z)) = true ↔ I = List.range (npc z p.d.size) := by
  have hN := h.N2
  unfold whole
  rw [Bool.and_eq_true]
  constructor
  · rintro ⟨h1, h2⟩
    have hne : I ≠ [] := by
      rintro rfl
      simp [lastLa] at h2
    have := whole_from h I 0 (by omega) hI.b hne (by simpa using h1) h2
    rw [this, Nat.sub_zero, List.range_eq_range']
  · rintro rfl
    have := range_whole h (npc z p.d.size) 0 (by omega) (by omega)
    rw [List.range_eq_range']
    simpa using this
/-- the heap's head -/
def hdI (p : Pk) (I : List Nat) : Hd := if 0 ∈ I then ⟨p.fr, p.to, p.pr, p.id, p.tos, p.li, p.o⟩ else ⟨p.fr, p.to, p.pr, p.id, 0, 0, ⟨#[]⟩⟩
/-- the pool -/
def pool (p : Pk) (z : Nat) (I : List Nat) : List Hp := match I with
  | [] => []
  | i :: r => [⟨hdI p (i :: r), (i :: r).map (pt p z)⟩]
theorem folls_of : ∀ (I : List Nat) (b : Nat), (b :: I).Pairwise (· < ·) → (∀ x ∈ b :: I, x < npc z p.d.size) → folls (pt p z b) (I.map (pt p z)) = true
  | [], _, _, _ => rfl
  | j :: s, b, hs, hb => by
    obtain ⟨h1, h2⟩ := List.pairwise_cons.1 hs
    have hbj := h1 j (by simp)
    have hbN := hb b (by simp)
    have hjN := hb j (by simp)
    have hla : (pt p z b).la = false := by
      cases hx : (pt p z b).la
      · rfl
      · have := (pt_la h b hbN).1 hx; omega
    simp only [List.map_cons, folls, fol, Bool.and_eq_true, decide_eq_true_eq, Bool.not_eq_true']
    exact ⟨⟨pt_ok h j hjN, hla, e_le h b j hbN hbj⟩, folls_of s j h2 fun x hx => hb x (List.mem_cons_of_mem _ hx)⟩
theorem pool_right {I : List Nat} (hI : Ix p z I) : perr (pool p z I) = 0 := by
  have hl := len_le (npc z p.d.size) I 0 hI.s fun x hx => ⟨Nat.zero_le _, hI.b x hx⟩
  have := h.N64
  cases I with
  | nil => rfl
  | cons i r =>
    have hbig : bigP (pool p z (i :: r)) = false := by
      simp only [pool, bigP, List.length_singleton, List.any_cons, List.any_nil, Bool.or_false, List.length_map]
      simp
      simp at hl
      omega
    have hok : okFrom [] (pool p z (i :: r)) = true := by
      simp only [pool, okFrom, List.any_nil, Bool.not_false, Bool.true_and, Bool.and_true, Hp.ok, List.map_cons, psok, Bool.and_eq_true, Bool.or_eq_true, decide_eq_true_eq]
      refine ⟨⟨pt_ok h i (hI.b i (by simp)), folls_of h r i hI.s hI.b⟩, ?_⟩
      by_cases hz : i = 0
      · left; rw [pt_a h, hz]; simp
      · right
        have hn : ¬ 0 ∈ i :: r := by
          intro h0
          rcases List.mem_cons.1 h0 with e | e
          · omega
          · have := (List.pairwise_cons.1 hI.s).1 0 e; omega
        simp [hdI, hn, hdz]
        rfl
    unfold perr
    rw [if_neg (by rw [hbig]; decide), if_pos hok]
omit h in
/-- the heap that a piece is for -/
theorem for_pool (I : List Nat) (k : Nat) : forL (pool p z I) (pc p z k) = [⟨hdI p I, I.map (pt p z)⟩] ∧ forAt (pool p z I) (pc p z k) = 0 := by
  cases I with
  | nil =>
    have e : fnd (pnm (pc p z k)) ((pool p z []).map (·.h)) 0 = -1 := rfl
    unfold forL forAt
    rw [e]
    exact ⟨rfl, rfl⟩
  | cons i r =>
    have hn : (hdI p (i :: r)).nm.eq (pnm (pc p z k)) = true := by
      have e1 : (hdI p (i :: r)).nm = pnm (pc p z k) := by
        unfold hdI; split <;> rfl
      rw [e1]; simp [Nm.eq]
    have e : fnd (pnm (pc p z k)) ((pool p z (i :: r)).map (·.h)) 0 = 0 := by
      show fnd (pnm (pc p z k)) [hdI p (i :: r)] 0 = 0
      unfold fnd
      rw [if_pos hn]; rfl
    unfold forL forAt
    rw [e]
    exact ⟨rfl, rfl⟩
theorem hd_put (I : List Nat) (k : Nat) : hdOf (hdI p I) (pc p z k) = hdI p (insI k I) := by
  have ha : 8 * (pc p z k).st = ((k * z : Nat) : Int) := pt_a h k
  have z0 := h.z0
  have hm := ins_mem k I 0
  unfold hdOf
  rw [ha]
  by_cases hk : k = 0
  · subst hk
    have h0 : 0 ∈ insI 0 I := hm.2 (Or.inl rfl)
    rw [if_pos (by simp)]
    unfold hdI
    rw [if_pos h0]
    split <;> rfl
  · have hne : ¬ ((k * z : Nat) : Int) = 0 := by
      have : 0 < k * z := Nat.mul_pos (by omega) z0
      omega
    rw [if_neg hne]
    unfold hdI
    by_cases h0 : 0 ∈ I
    · rw [if_pos h0, if_pos (hm.2 (Or.inr h0))]
    · rw [if_neg h0, if_neg (fun e => (hm.1 e).elim (fun e => hk e.symm) h0)]
theorem joined_all : jp (hdI p (List.range (npc z p.d.size))) ((List.range (npc z p.d.size)).map (pt p z)) = p := by
  have hN := h.N2
  have h0 : 0 ∈ List.range (npc z p.d.size) := List.mem_range.2 (by omega)
  have hd : dj ((List.range (npc z p.d.size)).map (pt p z)) = p.d.data.toList := by
    rw [← jn_pcs p z h.z0]
    unfold dj jn pcs
    rw [List.flatMap_map, List.flatMap_map]
    rfl
  unfold jp hdI
  rw [if_pos h0, hd]
  have h1 := h.mo
  have h2 := h.st
  have h3 := h.wh
  obtain ⟨tos, id, wh, mo, st, li, pr, fr, to', o, d⟩ := p
  simp only at h1 h2 h3
  subst h1 h2 h3
  rfl
/-- what Feed tells of a piece -/
theorem feed_piece {I : List Nat} (hI : Ix p z I) {k : Nat} (hk : k < npc z p.d.size) :
    feed (pool p z I) (pc p z k) = if k ∈ I then ⟨pool p z I, zeroP, false, 0⟩ else if insI k I = List.range (npc z p.d.size) then ⟨[], p, true, 0⟩ else ⟨pool p z (insI k I), zeroP, false, 0⟩ := by
  have hl := lt_n h k hk
  have z0 := h.z0
  have z8 := h.z8
  have hN := h.N2
  have n1 := h.n1
  have e8 := mul8 h k
  have hst : 8 * (pc p z k).st = ((k * z : Nat) : Int) := pt_a h k
  have hd := pt_d h k hk
  have hds : (pc p z k).d.size = min (k * z + z) p.d.size - k * z := hd
  have hmo : (pc p z k).mo = decide (k * z + z < p.d.size) := by
    show (p.mo || decide (k * z + z < p.d.size)) = _
    rw [h.mo, Bool.false_or]
  have hw : ¬ ((pc p z k).mo = false ∧ (pc p z k).st = 0) := by
    rintro ⟨m0, s0⟩
    rw [hmo] at m0
    rw [s0] at hst
    have hk0 : k = 0 := by
      rcases Nat.eq_zero_or_pos k with e | e
      · exact e
      · have : 0 < k * z := Nat.mul_pos e z0
        omega
    subst hk0
    have : 1 < npc z p.d.size := by omega
    rw [npc_lt h.z0] at this
    simp at m0
    omega
  have hfar : ¬ 65515 < 8 * (pc p z k).st + ((pc p z k).d.size : Int) := by rw [hst, hds]; omega
  have hdok : ¬ dok (pc p z k).d (!(pc p z k).mo) = false := by
    have := pt_ok h k hk
    simp only [Pt.ok, Bool.and_eq_true] at this
    have e : dok (pc p z k).d (!(pc p z k).mo) = true := this.2.2.2
    rw [e]; decide
  obtain ⟨f1, f2⟩ := for_pool (p := p) (z := z) I k
  unfold feed
  rw [if_neg (by rw [pool_right h hI]; decide), if_neg (by rw [h.ok k hk]; decide), if_neg hw, if_neg hfar, if_neg hdok]
  unfold takeL
  rw [f1, f2]
  show takeAt [⟨hdI p I, I.map (pt p z)⟩] 0 ⟨hdI p I, I.map (pt p z)⟩ (pc p z k) = _
  unfold takeAt
  have ep : ptOf (pc p z k) = pt p z k := rfl
  rw [ep]
  by_cases hm : k ∈ I
  · rw [if_pos ((has_iff h I k).2 hm), if_pos hm]
    cases I with
    | nil => simp at hm
    | cons i r => rfl
  · rw [if_neg (fun e => hm ((has_iff h I k).1 e)), if_neg (by rw [rfs_zero h hI hk hm]; decide), if_neg hm, put_ins h]
    by_cases hr : insI k I = List.range (npc z p.d.size)
    · rw [if_pos ((whole_iff h (hI.ins hk hm)).2 hr), if_pos hr]
      show Tk.mk [] (jp (hdOf (hdI p I) (pc p z k)) ((insI k I).map (pt p z))) true 0 = _
      rw [hd_put h, hr, joined_all h]
    · rw [if_neg (fun e => hr ((whole_iff h (hI.ins hk hm)).1 e)), if_neg hr]
      show Tk.mk [⟨hdOf (hdI p I) (pc p z k), (insI k I).map (pt p z)⟩] zeroP false 0 = _
      rw [hd_put h]
      have := ins_ne k I
      generalize insI k I = J at *
      cases J with
      | nil => exact absurd rfl this
      | cons i r => rfl
end
end Go.Proofs.Ytlbpapngcgnepaa.frbm
