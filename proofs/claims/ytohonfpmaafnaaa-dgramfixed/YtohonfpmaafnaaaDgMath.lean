/- Plain mathematics of letters and notes: what is written is read again; under addresses that sum up alike; with one bit that is other it is not; fixed word by word it is. -/
import Derived.Test.YtohonfpmaafnaaaDgBase
namespace Go.Proofs.Ytohonfpmaafnaaa.dgm
open Go.Proofs.Ytohonfpmaafnaaa.EM Go.Proofs.Ytohonfpmaafnaaa.ethb Go.Proofs.Ytohonfpmaafnaaa.SM Go.Proofs.Ytohonfpmaafnaaa.ipb Go.Proofs.Ytohonfpmaafnaaa.ipm Go.Proofs.Ytohonfpmaafnaaa.onem Go.Proofs.Ytohonfpmaafnaaa.dgb

theorem norm_dvd (x : Int) (h : 0 < x) (hd : x % 65535 = 0) : norm x = 65535 := by unfold norm; rw [if_neg (by omega)]; omega
theorem norm_mod (x : Int) : norm x % 65535 = x % 65535 := by unfold norm; split <;> omega
/-- an address' two words -/
def aw (a : Int) : Int := a / 65536 + a % 65536
theorem pw_adr (a : Int) (h0 : 0 ≤ a) (h1 : a ≤ 4294967295) (r : List UInt8) : pw (adr a ++ r) = aw a + pw r := by
  unfold adr aw
  simp only [List.cons_append, List.nil_append]
  rw [pw_two, pw_two, word_of _ (by omega) (by omega), word_of _ (by omega) (by omega)]; omega
theorem pw_und (f t n : Int) (f0 : 0 ≤ f) (f1 : f ≤ 4294967295) (t0 : 0 ≤ t) (t1 : t ≤ 4294967295) (n0 : 0 ≤ n) (n1 : n ≤ 65535) (r : List UInt8) : pw (und f t 17 n ++ r) = aw f + aw t + 17 + n + pw r := by
  unfold und
  rw [List.append_assoc, pw_adr f f0 f1, List.append_assoc, pw_adr t t0 t1, Int.emod_eq_of_lt n0 (by omega)]
  simp only [List.cons_append, List.nil_append]
  rw [pw_two, pw_two, word_of _ n0 n1]
  have e : ((b8 17).toNat : Int) = 17 := by rw [b8_at]; rfl
  have z : ((0 : UInt8).toNat : Int) = 0 := rfl
  rw [e, z]; omega
theorem pw_h1 (l : Lt) (h : l.Ok) (r : List UInt8) : pw (l.h1 ++ r) = l.fr + l.to + (8 + l.d.size : Nat) + pw r := by
  have := h.f0; have := h.f1; have := h.t0; have := h.t1; have := h.d1
  unfold Lt.h1
  simp only [List.cons_append, List.nil_append]
  rw [pw_two, pw_two, pw_two, word_of _ (by omega) (by omega), word_of _ (by omega) (by omega), word_of _ (by omega) (by omega)]; omega
theorem aw_bd (a : Int) (h0 : 0 ≤ a) : 0 ≤ aw a := by unfold aw; omega
/-- the sum of all but CHECK -/
def tot (l : Lt) (f t : Int) : Int := aw f + aw t + 17 + (8 + l.d.size : Nat) + (l.fr + l.to + (8 + l.d.size : Nat) + pw l.d.data.toList)
theorem c0_tot (l : Lt) (h : l.Ok) (f t : Int) (f0 : 0 ≤ f) (f1 : f ≤ 4294967295) (t0 : 0 ≤ t) (t1 : t ≤ 4294967295) : l.c0 f t = 65535 - norm (tot l f t) := by
  have := h.d1
  unfold Lt.c0
  rw [wsum_norm _ _ (by omega) (by omega), pw_und f t _ f0 f1 t0 t1 (by omega) (by omega), pw_h1 l h, pw_two]
  have z : ((0 : UInt8).toNat : Int) = 0 := rfl
  rw [z]; unfold tot; congr 2; omega
theorem tot_pos (l : Lt) (h : l.Ok) (f t : Int) (f0 : 0 ≤ f) (t0 : 0 ≤ t) : 25 ≤ tot l f t := by
  have := h.f0; have := h.t0; have := aw_bd f f0; have := aw_bd t t0; have := pw_nonneg l.d.data.toList
  unfold tot; omega
/-- words of a text that begins so -/
theorem wd_list (a b : UInt8) (l : List UInt8) (s : ByteArray) (k : Nat) (h : s.data.toList.drop k = a :: b :: l) : wd s k = 256 * (a.toNat : Int) + (b.toNat : Int) := by
  have h0 : s.data.toList[k]? = some a := by
    have : (s.data.toList.drop k)[0]? = some a := by rw [h]; rfl
    simpa using this
  have h1 : s.data.toList[k + 1]? = some b := by
    have : (s.data.toList.drop k)[1]? = some b := by rw [h]; rfl
    simpa using this
  unfold wd bt
  rw [List.getD_eq_getElem?_getD, h0, List.getD_eq_getElem?_getD, h1]; rfl
/-- the bytes of a letter with whatever CHECK -/
def ltx (l : Lt) (c : Int) : ByteArray := ⟨(l.h1 ++ (hi8 c :: lo8 c :: l.d.data.toList)).toArray⟩
theorem ltx_list (l : Lt) (c : Int) : (ltx l c).data.toList = [hi8 l.fr, lo8 l.fr, hi8 l.to, lo8 l.to, hi8 (8 + l.d.size : Nat), lo8 (8 + l.d.size : Nat), hi8 c, lo8 c] ++ l.d.data.toList := by simp [ltx, Lt.h1]
theorem ltx_size (l : Lt) (c : Int) : (ltx l c).size = 8 + l.d.size := by
  rw [← size_list, ltx_list]; simp; omega
theorem ltx_ln (l : Lt) (h : l.Ok) (c : Int) : ln (ltx l c) = 8 + l.d.size := by
  have := h.d1
  unfold ln
  rw [wd_list _ _ _ (ltx l c) 4 (by rw [ltx_list]; rfl), word_of _ (by omega) (by omega)]; omega
theorem ltx_ck (l : Lt) (c : Int) (h0 : 0 ≤ c) (h1 : c ≤ 65535) : wd (ltx l c) 6 = c := by
  rw [wd_list _ _ _ (ltx l c) 6 (by rw [ltx_list]; rfl), word_of _ h0 h1]
theorem ltx_rdl (l : Lt) (h : l.Ok) (c : Int) : rdl (ltx l c) = l := by
  have := h.f0; have := h.f1; have := h.t0; have := h.t1; have := h.d1
  have e0 : wd (ltx l c) 0 = l.fr := by rw [wd_list _ _ _ (ltx l c) 0 (by rw [ltx_list]; rfl), word_of _ (by omega) (by omega)]
  have e2 : wd (ltx l c) 2 = l.to := by rw [wd_list _ _ _ (ltx l c) 2 (by rw [ltx_list]; rfl), word_of _ (by omega) (by omega)]
  have ed : (ltx l c).extract 8 (8 + l.d.size) = l.d := by
    apply bytes_ext
    rw [ext_list, List.take_of_length_le (by rw [size_list, ltx_size]; omega), ltx_list]
    simp
  unfold rdl
  rw [e0, e2, ltx_ln l h, ed]
/-- a letter with a CHECK that makes the sum right is read -/
theorem ltx_read (l : Lt) (h : l.Ok) (c f t : Int) (c0 : 0 ≤ c) (c1 : c ≤ 65535) (f0 : 0 ≤ f) (f1 : f ≤ 4294967295) (t0 : 0 ≤ t) (t1 : t ≤ 4294967295) (hr : norm (tot l f t + c) = 65535) : rle (ltx l c) f t = 0 ∧ rl (ltx l c) f t = l := by
  have hd := h.d1
  have e : rle (ltx l c) f t = 0 := by
    unfold rle
    rw [ltx_size, ltx_ln l h, if_neg (by omega), if_neg (by omega), if_neg (by omega), if_neg]
    rintro ⟨_, hn⟩
    apply hn
    rw [List.take_of_length_le (by rw [size_list, ltx_size]; omega), wsum_norm _ _ (by omega) (by omega), pw_und f t _ f0 f1 t0 t1 (by omega) (by omega)]
    have e1 : pw (ltx l c).data.toList = l.fr + l.to + (8 + l.d.size : Nat) + (c + pw l.d.data.toList) := by
      have : (ltx l c).data.toList = l.h1 ++ (hi8 c :: lo8 c :: l.d.data.toList) := by simp [ltx]
      rw [this, pw_h1 l h, pw_two, word_of _ c0 c1]
    rw [e1, ← hr]; unfold tot; congr 1; omega
  exact ⟨e, by unfold rl; rw [if_pos e]; exact ltx_rdl l h c⟩
theorem txt_ltx (l : Lt) (f t : Int) : (⟨(l.txt f t).toArray⟩ : ByteArray) = ltx l (l.ck f t) := rfl
theorem ck_right (l : Lt) (h : l.Ok) (f t : Int) (f0 : 0 ≤ f) (f1 : f ≤ 4294967295) (t0 : 0 ≤ t) (t1 : t ≤ 4294967295) : norm (tot l f t + l.ck f t) = 65535 := by
  have e := c0_tot l h f t f0 f1 t0 t1
  have p := tot_pos l h f t f0 t0
  have m := norm_mod (tot l f t)
  have b := norm_bd (tot l f t)
  unfold Lt.ck
  rw [e]
  generalize norm (tot l f t) = x at *
  apply norm_dvd <;> split <;> omega
theorem tot_swap (l : Lt) (f t : Int) : tot l t f = tot l f t := by unfold tot; omega
/-- read as it was written; from and to swapped, too -/
theorem back (l : Lt) (h : l.Ok) (f t : Int) (f0 : 0 ≤ f) (f1 : f ≤ 4294967295) (t0 : 0 ≤ t) (t1 : t ≤ 4294967295) :
    (rle ⟨(l.txt f t).toArray⟩ f t = 0 ∧ rl ⟨(l.txt f t).toArray⟩ f t = l) ∧ (rle ⟨(l.txt f t).toArray⟩ t f = 0 ∧ rl ⟨(l.txt f t).toArray⟩ t f = l) := by
  have cb := l.ck_bd f t
  have r := ck_right l h f t f0 f1 t0 t1
  rw [txt_ltx]
  exact ⟨ltx_read l h _ f t (by omega) cb.2 f0 f1 t0 t1 r, ltx_read l h _ t f (by omega) cb.2 t0 t1 f0 f1 (by rw [tot_swap]; exact r)⟩

/-- notes -/
theorem nt_sum (n : Nt) (h : n.Ok) : wsum 0 n.txt = 65535 := by
  have := h.k0; have := h.k1; have := h.c0; have := h.c1
  have hb := n.ck_bd
  have e : n.ck = 65535 - norm (0 + (256 * ((b8 n.ki).toNat : Int) + ((b8 n.co).toNat : Int) + (256 * ((0 : UInt8).toNat : Int) + ((0 : UInt8).toNat : Int) + pw n.tl))) := by
    unfold Nt.ck; rw [wsum_norm _ _ (by omega) (by omega), pw_two, pw_two]
  unfold Nt.txt
  rw [wsum_norm _ _ (by omega) (by omega), pw_two, pw_two, word_of _ hb.1 hb.2]
  have z : ((0 : UInt8).toNat : Int) = 0 := rfl
  rw [z] at e
  have p := pw_nonneg n.tl
  have q := byte_bd (b8 n.ki); have q' := byte_bd (b8 n.co)
  have hx : 0 ≤ 256 * ((b8 n.ki).toNat : Int) + ((b8 n.co).toNat : Int) := by omega
  generalize 256 * ((b8 n.ki).toNat : Int) + ((b8 n.co).toNat : Int) = x at *
  rw [e]
  unfold norm
  split <;> split <;> omega
theorem nt_size (n : Nt) : (⟨n.txt.toArray⟩ : ByteArray).size = 8 + n.d.size := by rw [← size_list]; exact n.txt_len
theorem nback (n : Nt) (h : n.Ok) : rne ⟨n.txt.toArray⟩ = 0 ∧ rn ⟨n.txt.toArray⟩ = n := by
  have k0 := h.k0; have k1 := h.k1; have c0 := h.c0; have c1 := h.c1; have d1 := h.d1
  have e : rne ⟨n.txt.toArray⟩ = 0 := by
    unfold rne
    rw [nt_size, if_neg (by omega), if_neg (by omega), if_neg]
    simpa using nt_sum n h
  refine ⟨e, ?_⟩
  unfold rn
  rw [if_pos e]
  have e0 : bt ⟨n.txt.toArray⟩ 0 = n.ki := by rw [btl]; simp only [Nt.txt, List.getD_cons_zero, b8_at]; omega
  have e1 : bt ⟨n.txt.toArray⟩ 1 = n.co := by rw [btl]; simp only [Nt.txt, List.getD_cons_succ, List.getD_cons_zero, b8_at]; omega
  have ed : (⟨n.txt.toArray⟩ : ByteArray).extract 8 (8 + n.d.size) = n.d := by
    apply bytes_ext
    rw [ext_list, List.take_of_length_le (by rw [size_list, nt_size]; omega)]
    simp [Nt.txt, Nt.tl]
  unfold rdn
  rw [e0, e1, nt_size, ed]
  rfl

/-- one bit of a note is other: it is not right -/
theorem nt_turned (n : Nt) (h : n.Ok) (i r : Nat) (hr : r < 8) (hi : i < n.txt.length) : rne ⟨(n.txt.set i (turn n.txt[i] r)).toArray⟩ = 5 := by
  have d1 := h.d1
  have z : (⟨(n.txt.set i (turn n.txt[i] r)).toArray⟩ : ByteArray).size = 8 + n.d.size := by rw [← size_list]; show (n.txt.set i _).length = _; rw [List.length_set, n.txt_len]
  unfold rne
  rw [z, if_neg (by omega), if_neg (by omega), if_pos]
  have := sum_ne n.txt i r hi hr
  rw [nt_sum n h] at this
  exact fun hh => this hh.symm
/-- one bit of a letter is other, none of how long it is: it is not right, but where its CHECK is 0 then -/
theorem lt_turned (l : Lt) (h : l.Ok) (f t : Int) (f0 : 0 ≤ f) (f1 : f ≤ 4294967295) (t0 : 0 ≤ t) (t1 : t ≤ 4294967295) (i r : Nat) (hr : r < 8) (hi : i < (l.txt f t).length) (h4 : i ≠ 4) (h5 : i ≠ 5)
    (hc : wd ⟨((l.txt f t).set i (turn (l.txt f t)[i] r)).toArray⟩ 6 ≠ 0) : rle ⟨((l.txt f t).set i (turn (l.txt f t)[i] r)).toArray⟩ f t = 5 := by
  have d1 := h.d1
  obtain ⟨x, hx⟩ : ∃ x, x = turn (l.txt f t)[i] r := ⟨_, rfl⟩
  rw [← hx] at hc ⊢
  have z : (⟨((l.txt f t).set i x).toArray⟩ : ByteArray).size = 8 + l.d.size := by rw [← size_list]; show ((l.txt f t).set i _).length = _; rw [List.length_set, l.txt_len]
  have el : ln ⟨((l.txt f t).set i x).toArray⟩ = 8 + l.d.size := by
    have := ltx_ln l h (l.ck f t)
    rw [← txt_ltx] at this
    unfold ln wd at this ⊢
    rw [btl, btl] at this ⊢
    rw [List.getD_eq_getElem?_getD, List.getD_eq_getElem?_getD, List.getElem?_set_ne h4, List.getElem?_set_ne h5, ← List.getD_eq_getElem?_getD, ← List.getD_eq_getElem?_getD]
    exact this
  have hs : wsum 0 (und f t 17 (8 + l.d.size : Nat) ++ l.txt f t) = 65535 := by
    have cb := l.ck_bd f t
    rw [wsum_norm _ _ (by omega) (by omega), pw_und f t _ f0 f1 t0 t1 (by omega) (by omega)]
    unfold Lt.txt
    rw [pw_h1 l h, pw_two, word_of _ (by omega) cb.2, ← ck_right l h f t f0 f1 t0 t1]
    unfold tot; congr 1; omega
  unfold rle
  rw [z, el, if_neg (by omega), if_neg (by omega), if_neg (by omega), if_pos]
  refine ⟨hc, ?_⟩
  have et : (⟨((l.txt f t).set i x).toArray⟩ : ByteArray).data.toList.take (8 + l.d.size) = (l.txt f t).set i x := by
    rw [List.take_of_length_le (by rw [size_list, z]; exact Nat.le_refl _)]
  rw [et]
  have hil : 12 + i < (und f t 17 (8 + l.d.size : Nat) ++ l.txt f t).length := by rw [List.length_append, und_len]; omega
  have gi : (und f t 17 (8 + l.d.size : Nat) ++ l.txt f t)[12 + i] = (l.txt f t)[i] := by
    rw [List.getElem_append_right (by rw [und_len]; omega)]
    congr 1
    rw [und_len]; omega
  have := sum_ne _ (12 + i) r hil hr
  rw [hs, gi, ← hx, List.set_append_right _ _ (by rw [und_len]; omega), und_len, Nat.add_sub_cancel_left] at this
  exact fun hh => this hh.symm

/-- what Fix comes to -/
def fixed (c o n : Int) : Int := 65535 - ea (ea (65535 - c) (65535 - o)) n
theorem fixed_norm (c o n : Int) (h0 : 0 ≤ c) (h1 : c ≤ 65535) (h2 : 0 ≤ o) (h3 : o ≤ 65535) (h4 : 0 ≤ n) (h5 : n ≤ 65535) : fixed c o n = 65535 - norm ((65535 - c) + (65535 - o) + n) := by
  unfold fixed
  have nb := norm_bd ((65535 - c) + (65535 - o))
  rw [ea_norm (65535 - c) _ (by omega) (by omega) (by omega) (by omega), ea_norm _ _ nb.1 nb.2 h4 h5, norm_add _ _ (by omega) h4]
theorem fixed_bd (c o n : Int) (h0 : 0 ≤ c) (h1 : c ≤ 65535) (h2 : 0 ≤ o) (h3 : o ≤ 65535) (h4 : 0 ≤ n) (h5 : n ≤ 65535) : 0 ≤ fixed c o n ∧ fixed c o n ≤ 65535 := by
  rw [fixed_norm c o n h0 h1 h2 h3 h4 h5]
  have := norm_bd ((65535 - c) + (65535 - o) + n); omega
/-- the check that is fixed -/
def fck (l : Lt) (f t g p : Int) : Int :=
  fixed (fixed (fixed (l.ck f t) (f / 65536) (g / 65536)) (f % 65536) (g % 65536)) l.fr p
theorem fck_bd (l : Lt) (h : l.Ok) (f t g p : Int) (f0 : 0 ≤ f) (f1 : f ≤ 4294967295) (g0 : 0 ≤ g) (g1 : g ≤ 4294967295) (p0 : 0 ≤ p) (p1 : p ≤ 65535) : 0 ≤ fck l f t g p ∧ fck l f t g p ≤ 65535 := by
  have cb := l.ck_bd f t
  have := h.f0; have := h.f1
  have b1 := fixed_bd (l.ck f t) (f / 65536) (g / 65536) (by omega) (by omega) (by omega) (by omega) (by omega) (by omega)
  have b2 := fixed_bd (fixed (l.ck f t) (f / 65536) (g / 65536)) (f % 65536) (g % 65536) b1.1 b1.2 (by omega) (by omega) (by omega) (by omega)
  exact fixed_bd _ l.fr p b2.1 b2.2 (by omega) (by omega) p0 p1
theorem fixes (l : Lt) (h : l.Ok) (f t g p : Int) (f0 : 0 ≤ f) (f1 : f ≤ 4294967295) (t0 : 0 ≤ t) (t1 : t ≤ 4294967295) (g0 : 0 ≤ g) (g1 : g ≤ 4294967295) (p0 : 0 ≤ p) (p1 : p ≤ 65535) :
    norm (tot { l with fr := p } g t + (if fck l f t g p = 0 then 65535 else fck l f t g p)) = 65535 := by
  have cb := l.ck_bd f t
  have lf0 := h.f0; have lf1 := h.f1; have lt0 := h.t0
  have hok : Lt.Ok { l with fr := p } := ⟨p0, p1, h.t0, h.t1, h.d1⟩
  have hp := tot_pos { l with fr := p } hok g t g0 t0
  have hp0 := tot_pos l h f t f0 t0
  have hr := ck_right l h f t f0 f1 t0 t1
  have fb := fck_bd l h f t g p f0 f1 g0 g1 p0 p1
  have b1 := fixed_bd (l.ck f t) (f / 65536) (g / 65536) (by omega) (by omega) (by omega) (by omega) (by omega) (by omega)
  have b2 := fixed_bd (fixed (l.ck f t) (f / 65536) (g / 65536)) (f % 65536) (g % 65536) b1.1 b1.2 (by omega) (by omega) (by omega) (by omega)
  have et : tot { l with fr := p } g t = tot l f t - f / 65536 - f % 65536 - l.fr + g / 65536 + g % 65536 + p := by
    simp only [tot, aw]; omega
  have m0 : (tot l f t + l.ck f t) % 65535 = 0 := by
    have := norm_mod (tot l f t + l.ck f t)
    rw [hr] at this; omega
  have m1 : (fixed (l.ck f t) (f / 65536) (g / 65536) + ((65535 - l.ck f t) + (65535 - f / 65536) + g / 65536)) % 65535 = 0 := by
    rw [fixed_norm _ _ _ (by omega) (by omega) (by omega) (by omega) (by omega) (by omega)]
    have := norm_mod ((65535 - l.ck f t) + (65535 - f / 65536) + g / 65536)
    omega
  have m2 : (fixed (fixed (l.ck f t) (f / 65536) (g / 65536)) (f % 65536) (g % 65536) + ((65535 - fixed (l.ck f t) (f / 65536) (g / 65536)) + (65535 - f % 65536) + g % 65536)) % 65535 = 0 := by
    rw [fixed_norm (fixed (l.ck f t) (f / 65536) (g / 65536)) _ _ (by omega) (by omega) (by omega) (by omega) (by omega) (by omega)]
    have := norm_mod ((65535 - fixed (l.ck f t) (f / 65536) (g / 65536)) + (65535 - f % 65536) + g % 65536)
    omega
  have m3 : (fck l f t g p + ((65535 - fixed (fixed (l.ck f t) (f / 65536) (g / 65536)) (f % 65536) (g % 65536)) + (65535 - l.fr) + p)) % 65535 = 0 := by
    unfold fck
    rw [fixed_norm (fixed (fixed (l.ck f t) (f / 65536) (g / 65536)) (f % 65536) (g % 65536)) _ _ (by omega) (by omega) (by omega) (by omega) (by omega) (by omega)]
    have := norm_mod ((65535 - fixed (fixed (l.ck f t) (f / 65536) (g / 65536)) (f % 65536) (g % 65536)) + (65535 - l.fr) + p)
    omega
  apply norm_dvd
  · split <;> omega
  · rw [et]
    generalize fixed (fixed (l.ck f t) (f / 65536) (g / 65536)) (f % 65536) (g % 65536) = c2 at *
    generalize fixed (l.ck f t) (f / 65536) (g / 65536) = c1 at *
    generalize fck l f t g p = c3 at *
    generalize l.ck f t = c at *
    generalize tot l f t = T at *
    split <;> omega
end Go.Proofs.Ytohonfpmaafnaaa.dgm
