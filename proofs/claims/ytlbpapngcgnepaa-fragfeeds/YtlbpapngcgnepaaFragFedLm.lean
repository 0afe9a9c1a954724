/- Plain mathematics of custref.Fed from where it has its heap on: what frag.take tells there, by the ways that Fed goes. -/
import Derived.Test.YtlbpapngcgnepaaFragKeep2
import Derived.Test.YtlbpapngcgnepaaFragFedMath
namespace Go.Proofs.Ytlbpapngcgnepaa.fdl
open Go.Proofs.Ytlbpapngcgnepaa Go.Proofs.Ytlbpapngcgnepaa.ipb Go.Proofs.Ytlbpapngcgnepaa.frb Go.Proofs.Ytlbpapngcgnepaa.frp Go.Proofs.Ytlbpapngcgnepaa.pl Go.Proofs.Ytlbpapngcgnepaa.frx Go.Proofs.Ytlbpapngcgnepaa.frh Go.Proofs.Ytlbpapngcgnepaa.frf2 Go.Proofs.Ytlbpapngcgnepaa.frha Go.Proofs.Ytlbpapngcgnepaa.frpu Go.Proofs.Ytlbpapngcgnepaa.frw Go.Proofs.Ytlbpapngcgnepaa.frj Go.Proofs.Ytlbpapngcgnepaa.frt Go.Proofs.Ytlbpapngcgnepaa.frfe Go.Proofs.Ytlbpapngcgnepaa.frc Go.Proofs.Ytlbpapngcgnepaa.frs Go.Proofs.Ytlbpapngcgnepaa.frk
open Go.Proofs.Ytlbpapngcgnepaa.ipm (size_list)

theorem fnd_at (n : Nm) : ∀ (l : List Hd) (i : Nat), 0 ≤ fnd n l i → ∃ k y, fnd n l i = ((i + k : Nat) : Int) ∧ l[k]? = some y ∧ y.nm = n
  | [], i, h => by simp [fnd] at h
  | y :: r, i, h => by
    simp only [fnd] at h ⊢
    by_cases hy : y.nm.eq n = true
    · rw [if_pos hy]; exact ⟨0, y, by simp, rfl, (eq_iff _ _).1 hy⟩
    · rw [if_neg hy] at h ⊢
      obtain ⟨k, z, h1, h2, h3⟩ := fnd_at n r (i + 1) h
      exact ⟨k + 1, z, by rw [h1]; congr 1; omega, by simpa using h2, h3⟩
/-- a packet's part is right -/
theorem pt_ok {p : Pk} (hp : p.Ok) (h5 : ¬ 65515 < 8 * p.st + p.d.size) (hd : dok p.d (!p.mo) = true) : (ptOf p).ok = true := by
  have hst := hp.st0
  have a1 : 0 ≤ 8 * p.st := by omega
  have a2 : 8 * p.st % 8 = 0 := by omega
  have a3 : 8 * p.st + (p.d.size : Int) ≤ 65515 := by omega
  unfold Pt.ok ptOf Pt.e
  simp [a1, a3, hd]
/-- the ways from the heap at i on -/
structure Fx (L1 : List Hp) (i : Nat) (xh : Hd) (m : Nat) (ps0 : List Pt) (p : Pk) (T : Tk) (ps : List Pt) (qa : Int) (qd : ByteArray) (ql : Bool) : Prop where
  m64 : m ≤ 64
  sm : ∀ o ∈ ps0 ++ [ptOf p], Sm o
  S : ps0.any (cl (ptOf p)) = false → ∀ l' : List Pt, l'.Perm (ps0 ++ [ptOf p]) → l'.Pairwise (fun a b => a.a ≤ b.a) → l' = ps
  q : ps[m]? = some ⟨qa, qd, ql⟩
  E0 : ps0.any (ptb (ptOf p)) = true → T = ⟨L1, zeroP, false, 0⟩
  E8 : ps0.any (ptb (ptOf p)) = false → ps0.any (cl (ptOf p)) = true → T = ⟨wo L1 i, zeroP, false, 8⟩
  E6 : ps0.any (ptb (ptOf p)) = false → ps0.any (cl (ptOf p)) = false → 64 ≤ m → T = ⟨wo L1 i, zeroP, false, 6⟩
  E : ps0.any (ptb (ptOf p)) = false → ps0.any (cl (ptOf p)) = false → m < 64 → ∀ S : ByteArray, S.data.toList = fdm.dl [] ps →
    T = if (ql && ((S.size : Int) == qa + qd.size)) = true then ⟨wo L1 i, ⟨(hdOf xh p).tos, p.id, false, false, 0, (hdOf xh p).li, p.pr, p.fr, p.to, (hdOf xh p).o, S⟩, true, 0⟩ else ⟨L1.set i ⟨hdOf xh p, ps⟩, zeroP, false, 0⟩
theorem fx {L1 : List Hp} {i : Nat} {xh : Hd} {m : Nat} {ps0 : List Pt} {p : Pk} {T : Tk} (hT : T = takeAt L1 i ⟨xh, ps0⟩ p) (hb : Hb ⟨xh, ps0⟩) (hq : (ptOf p).ok = true) (hn : xh.nm = pnm p) (hm : ps0.length = m) : ∃ ps qa qd ql, Fx L1 i xh m ps0 p T ps qa qd ql := by
  obtain ⟨h64, hok, hpw, _⟩ := hb
  replace h64 : ps0.length ≤ 64 := h64
  replace hok : ∀ q ∈ ps0, q.ok = true := hok
  replace hpw : ps0.Pairwise F := hpw
  have hl := put_len ps0 (ptOf p)
  obtain ⟨⟨qa, qd, ql⟩, hqq⟩ : ∃ o, (putIn ps0 (ptOf p))[m]? = some o := ⟨_, List.getElem?_eq_getElem (by omega)⟩
  unfold takeAt at hT
  simp only at hT
  refine ⟨putIn ps0 (ptOf p), qa, qd, ql, by omega, ?_, ?_, hqq, ?_, ?_, ?_, ?_⟩
  · intro o ho
    rcases List.mem_append.1 ho with ho | ho
    · exact pt_sm (hok o ho)
    · simp at ho; subst ho; exact pt_sm hq
  · intro hc l' hp hs
    refine fdm.sorted_put hok hq (fun o ho => ?_) hpw hp hs
    rw [List.any_eq_false] at hc
    simpa using hc o ho
  · intro h; rw [hT, if_pos h]
  · intro h1 h2
    have hr : rfs ps0 (ptOf p) = 8 := by unfold rfs; rw [if_pos h2]
    rw [hT, if_neg (by rw [h1]; simp), hr, if_pos (by decide)]
  · intro h1 h2 h3
    have hr : rfs ps0 (ptOf p) = 6 := by unfold rfs; rw [if_neg (by rw [h2]; simp), if_pos (by omega)]
    rw [hT, if_neg (by rw [h1]; simp), hr, if_pos (by decide)]
  · intro h1 h2 h3 S hS
    have hr : rfs ps0 (ptOf p) = 0 := by unfold rfs; rw [if_neg (by rw [h2]; simp), if_neg (by omega)]
    rw [hT, if_neg (by rw [h1]; simp), hr, if_neg (by decide)]
    have hcl : ∀ o ∈ ps0, cl (ptOf p) o = false := fun o ho => by
      rw [List.any_eq_false] at h2
      simpa using h2 o ho
    have hok2 : ∀ o ∈ putIn ps0 (ptOf p), o.ok = true := fun o ho => by
      rcases put_mem _ _ _ ho with rfl | ho
      · exact hq
      · exact hok o ho
    have hpw2 := put_pair hq ps0 hok hcl hpw
    obtain ⟨d1, d2⟩ := fdm.dl_spec (putIn ps0 (ptOf p)) [] hok2 hpw2 (fun o ho => by have := (ok_le (hok2 o ho)).1; simpa using this) (put_ne _ _)
    rw [← hS] at d1 d2
    simp only [List.length_nil, List.nil_append] at d1 d2
    rw [size_list] at d1 d2
    have hz : (putIn ps0 (ptOf p)).length - 1 = m := by omega
    have e1 : lastLa (putIn ps0 (ptOf p)) = ql := by unfold lastLa; rw [hz, hqq]
    have e2 : fdm.le_ (putIn ps0 (ptOf p)) = qa + qd.size := by unfold fdm.le_; rw [hz, hqq]; rfl
    rw [e2] at d1 d2
    have nm := hd_nm xh p
    rw [hn] at nm
    simp only [Hd.nm, pnm, Nm.mk.injEq] at nm
    obtain ⟨n1, n2, n3, n4⟩ := nm
    unfold whole
    rw [e1]
    by_cases hc : cpl 0 (putIn ps0 (ptOf p)) = true
    · obtain ⟨c1, c2⟩ := d1 hc
      rw [hc, c2]
      have hS2 : (⟨(dj (putIn ps0 (ptOf p))).toArray⟩ : ByteArray) = S := by rw [← c1]
      unfold jp
      rw [n1, n2, n3, n4, hS2]
      simp
    · have hc' : cpl 0 (putIn ps0 (ptOf p)) = false := by simpa using hc
      have c2 := d2 hc'
      have c3 : ((S.size : Int) == qa + qd.size) = false := by simp; omega
      rw [hc', c3]
      simp
/-- the packet's heap, and what take tells there -/
theorem ctx {L : List Hp} {p : Pk} (hr : perr L = 0) : ∃ (i : Nat) (x : Hp), forAt L p = (i : Int) ∧ (forL L p)[i]? = some x ∧ takeL L p = takeAt (forL L p) i x p ∧ Hb x ∧ x.h.nm = pnm p := by
  have R := (perr_iff L).1 hr
  unfold takeL forAt forL
  by_cases hf : 0 ≤ fnd (pnm p) (L.map (·.h)) 0
  · rw [if_pos hf, if_pos hf]
    obtain ⟨k, y, h1, h2, h3⟩ := fnd_at _ _ _ hf
    rw [Nat.zero_add] at h1
    rw [List.getElem?_map, Option.map_eq_some_iff] at h2
    obtain ⟨x, hx, rfl⟩ := h2
    have := R.ok x (List.mem_of_getElem? hx)
    refine ⟨k, x, h1, hx, ?_, hb_of this.1 this.2, h3⟩
    rw [h1, Int.toNat_natCast, hx]
  · rw [if_neg hf, if_neg hf]
    generalize (if L.length = 16 then L.drop 1 else L) = M
    have e : (M ++ [newH p])[M.length]? = some (newH p) := by simp
    refine ⟨M.length, newH p, rfl, e, ?_, ⟨by simp [newH], fun q hh => by simp [newH] at hh, by simp [newH], Or.inl (by simp [newH, hdz]; rfl)⟩, rfl⟩
    rw [Int.toNat_natCast, e]
end Go.Proofs.Ytlbpapngcgnepaa.fdl
