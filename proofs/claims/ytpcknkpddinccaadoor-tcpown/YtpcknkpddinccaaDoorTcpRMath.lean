/- Plain mathematics of segments: what is written is read again; what is read can be written, in as many bytes at most; with one bit that is other it is not read. -/
import Derived.Test.YtpcknkpddinccaaDoorTcpRBase
namespace Go.Proofs.YtpcknkpddinccaaDoor.tcrm
open Go.Proofs.YtpcknkpddinccaaDoor.EM Go.Proofs.YtpcknkpddinccaaDoor.ethb Go.Proofs.YtpcknkpddinccaaDoor.SM Go.Proofs.YtpcknkpddinccaaDoor.ipb Go.Proofs.YtpcknkpddinccaaDoor.ipm Go.Proofs.YtpcknkpddinccaaDoor.onem Go.Proofs.YtpcknkpddinccaaDoor.tcb Go.Proofs.YtpcknkpddinccaaDoor.tct Go.Proofs.YtpcknkpddinccaaDoor.dgb Go.Proofs.YtpcknkpddinccaaDoor.tcrb

theorem b8_nat (x : Int) (h0 : 0 ≤ x) (h1 : x ≤ 255) : (b8 x).toNat = x.toNat := by have := b8_at x; omega
theorem az_rep (n : Nat) : az (List.replicate n 0) = true := by simp [az]
theorem rdo_rep (n : Nat) : rdo (List.replicate n 0) = some [] := by
  cases n with
  | zero => exact rdo_nil
  | succ n => rw [List.replicate_succ, rdo_zero, if_pos (az_rep n)]
theorem opt_ext {a b : Opt} (h : a.ki = b.ki) (h' : a.d.data.toList = b.d.data.toList) : a = b := by
  obtain ⟨k, d⟩ := a; obtain ⟨k', d'⟩ := b
  simp only at h h'
  rw [h, bytes_ext h']
/-- options are read as they were written, bytes 0 behind them -/
theorem rdo_otx (n : Nat) : ∀ (os : List Opt), (∀ o ∈ os, ook o = true) → rdo (otx os ++ List.replicate n 0) = some os
  | [], _ => by show rdo ([] ++ _) = _; rw [List.nil_append, rdo_rep]
  | o :: r, h => by
    have ih := rdo_otx n r (fun x hx => h x (List.mem_cons_of_mem _ hx))
    have ho := h o List.mem_cons_self
    have e : otx (o :: r) = ot o ++ otx r := rfl
    rw [e, List.append_assoc]
    simp only [ook, Bool.or_eq_true, Bool.and_eq_true, decide_eq_true_eq] at ho
    unfold ot
    by_cases k1 : o.ki = 1
    · rw [if_pos k1]
      have d0 : o.d.data.toList = [] := List.eq_nil_of_length_eq_zero (by rw [size_list]; omega)
      show rdo (1 :: (otx r ++ List.replicate n 0)) = _
      rw [rdo_one, ih]
      simp only [Option.map_some, Option.some.injEq, List.cons.injEq, and_true]
      exact opt_ext k1.symm d0.symm
    · rw [if_neg k1]
      obtain ⟨k2, k3, k4⟩ : 2 ≤ o.ki ∧ o.ki ≤ 255 ∧ o.d.size ≤ 38 := by omega
      have n0 : b8 o.ki ≠ 0 := fun e => by have := b8_nat o.ki (by omega) k3; rw [e] at this; simp at this; omega
      have n1 : b8 o.ki ≠ 1 := fun e => by have := b8_nat o.ki (by omega) k3; rw [e] at this; simp at this; omega
      have hl := size_list o.d
      have c : (b8 ((o.d.size : Int) + 2)).toNat = o.d.size + 2 := by rw [b8_nat _ (by omega) (by omega)]; omega
      simp only [List.cons_append]
      rw [rdo_more _ _ _ n0 n1, c, if_pos ⟨by omega, by rw [List.length_append]; omega⟩, Nat.add_sub_cancel, ← hl, List.drop_left, List.take_left, ih]
      simp only [Option.map_some, Option.some.injEq, List.cons.injEq, and_true]
      refine opt_ext ?_ rfl
      have := b8_nat o.ki (by omega) k3
      show ((b8 o.ki).toNat : Int) = o.ki
      omega
/-- what options are read can be written, in as many bytes at most -/
theorem rdo_ok : ∀ (n : Nat) (l : List UInt8) (os : List Opt), l.length ≤ n → l.length ≤ 40 → rdo l = some os → (∀ o ∈ os, ook o = true) ∧ oln os ≤ l.length
  | 0, l, os, hn, _, h => by
    have : l = [] := List.eq_nil_of_length_eq_zero (by omega)
    subst this
    rw [rdo_nil] at h
    obtain rfl := Option.some.inj h
    exact ⟨fun o ho => by simp at ho, Nat.le_refl _⟩
  | n + 1, l, os, hn, h40, h => by
    match l, hn, h40, h with
    | [], _, _, h =>
      rw [rdo_nil] at h
      obtain rfl := Option.some.inj h
      exact ⟨fun o ho => by simp at ho, Nat.le_refl _⟩
    | b :: r, hn, h40, h =>
      simp only [List.length_cons] at hn h40
      by_cases b0 : b = 0
      · subst b0
        rw [rdo_zero] at h
        split at h
        · obtain rfl := Option.some.inj h
          exact ⟨fun o ho => by simp at ho, by simp [oln, otx]⟩
        · cases h
      by_cases b1 : b = 1
      · subst b1
        rw [rdo_one] at h
        obtain ⟨q, hq, rfl⟩ := Option.map_eq_some_iff.1 h
        obtain ⟨i1, i2⟩ := rdo_ok n r q (by omega) (by omega) hq
        refine ⟨fun o ho => ?_, ?_⟩
        · rcases List.mem_cons.1 ho with rfl | ho
          · rfl
          · exact i1 o ho
        · have e : oln ((⟨1, ⟨#[]⟩⟩ : Opt) :: q) = 1 + oln q := by simp [oln, otx, ot]; omega
          rw [e, List.length_cons]; omega
      match r, hn, h40, h with
      | [], _, _, h => rw [rdo_short b b0 b1] at h; cases h
      | c :: q, hn, h40, h =>
        simp only [List.length_cons] at hn h40
        rw [rdo_more b c q b0 b1] at h
        split at h
        · rename_i g
          obtain ⟨p, hp, rfl⟩ := Option.map_eq_some_iff.1 h
          obtain ⟨i1, i2⟩ := rdo_ok n _ p (by rw [List.length_drop]; omega) (by rw [List.length_drop]; omega) hp
          rw [List.length_drop] at i2
          have bb := b.toNat_lt
          have bz : b.toNat ≠ 0 := fun e => b0 (UInt8.toNat_inj.1 e)
          have bo : b.toNat ≠ 1 := fun e => b1 (UInt8.toNat_inj.1 e)
          have ds : (⟨(q.take (c.toNat - 2)).toArray⟩ : ByteArray).size = c.toNat - 2 := by
            show (List.toArray _).size = _
            rw [List.size_toArray, List.length_take]; omega
          refine ⟨fun o ho => ?_, ?_⟩
          · rcases List.mem_cons.1 ho with rfl | ho
            · simp only [ook, Bool.or_eq_true, Bool.and_eq_true, decide_eq_true_eq, ds]
              right; omega
            · exact i1 o ho
          · have e : oln ((⟨(b.toNat : Int), ⟨(q.take (c.toNat - 2)).toArray⟩⟩ : Opt) :: p) = c.toNat + oln p := by
              have : oln ((⟨(b.toNat : Int), ⟨(q.take (c.toNat - 2)).toArray⟩⟩ : Opt) :: p) = (ot ⟨(b.toNat : Int), ⟨(q.take (c.toNat - 2)).toArray⟩⟩).length + oln p := by simp [oln, otx]
              rw [this, ot_len]
              simp only [ds]
              rw [if_neg (by omega)]; omega
            rw [e]; simp only [List.length_cons]; omega
        · cases h
section
variable {h : Sh} {os : List Opt} (k : SOk h os) (ha : h.Adr) (c : Int)
theorem num (k : SOk h os) : (0 ≤ h.fr ∧ h.fr ≤ 65535) ∧ (0 ≤ h.to ∧ h.to ≤ 65535) ∧ (0 ≤ h.wi ∧ h.wi ≤ 65535) ∧ (0 ≤ h.ur ∧ h.ur ≤ 65535) ∧ (0 ≤ h.fl ∧ h.fl ≤ 255) := by
  have := k.arg; unfold sarg at this; omega
/-- a segment's bytes with whatever CHECK -/
def sg (h : Sh) (os : List Opt) (c : Int) : ByteArray := ⟨(sgx h os c).toArray⟩
theorem sg_list (h : Sh) (os : List Opt) (c : Int) : (sg h os c).data.toList = sgx h os c := rfl
theorem sg_form (h : Sh) (os : List Opt) (c : Int) : (sg h os c).data.toList = [hi8 h.fr, lo8 h.fr, hi8 h.to, lo8 h.to, hi8 (h.sq / 65536), lo8 (h.sq / 65536), hi8 (h.sq % 65536), lo8 (h.sq % 65536), hi8 (h.ak / 65536), lo8 (h.ak / 65536), hi8 (h.ak % 65536), lo8 (h.ak % 65536),
    b8 (4 * (hdl os : Int)), b8 h.fl, hi8 h.wi, lo8 h.wi, hi8 c, lo8 c, hi8 h.ur, lo8 h.ur] ++ stl h os := by rw [sg_list]; simp [sgx, sh1, adr]
theorem sg_size (h : Sh) (os : List Opt) (c : Int) : (sg h os c).size = hdl os + h.d.size := by rw [← size_list, sg_list, sgx_len]
include k in
theorem hdl_bd : 20 ≤ hdl os ∧ hdl os ≤ 60 ∧ hdl os % 4 = 0 := by have := k.o1; unfold hdl; omega
include k in
theorem sg_b12 : bt (sg h os c) 12 = 4 * (hdl os : Int) := by
  have := hdl_bd k
  unfold bt
  rw [sg_form]
  simp only [List.cons_append, List.getD_cons_succ, List.getD_cons_zero, b8_at]; omega
include k in
theorem sg_hl : hl (sg h os c) = hdl os := by
  have := hdl_bd k
  unfold hl
  rw [sg_b12 k c]; omega
include k in
theorem sg_rdo : rdo ((sg h os c).extract 20 (hdl os)).data.toList = some os := by
  have hb := hdl_bd k
  have e : ((sg h os c).extract 20 (hdl os)).data.toList = otx os ++ pad os := by
    rw [ext_list, sg_form]
    have l1 : (otx os ++ pad os).length = hdl os - 20 := by rw [op_len]; unfold hdl; omega
    rw [List.drop_take]
    simp only [List.cons_append, List.nil_append, List.drop_succ_cons, List.drop_zero]
    unfold stl
    rw [← List.append_assoc, ← l1, List.take_left]
  rw [e]
  unfold pad
  exact rdo_otx _ os (List.all_eq_true.1 k.opt)
include k ha in
theorem sg_rdh : rdh (sg h os c) = h := by
  obtain ⟨hf, ht, hw, hu, hg⟩ := num k
  have hb := hdl_bd k
  have e0 : wd (sg h os c) 0 = h.fr := by unfold wd bt; rw [sg_form]; simp only [List.cons_append, List.getD_cons_zero, List.getD_cons_succ]; exact word_of _ hf.1 hf.2
  have e2 : wd (sg h os c) 2 = h.to := by unfold wd bt; rw [sg_form]; simp only [List.cons_append, List.getD_cons_zero, List.getD_cons_succ]; exact word_of _ ht.1 ht.2
  have e4 : 65536 * wd (sg h os c) 4 + wd (sg h os c) 6 = h.sq := by unfold wd bt; rw [sg_form]; simp only [List.cons_append, List.getD_cons_zero, List.getD_cons_succ]; exact adr_of _ ha.s0 ha.s1
  have e8 : 65536 * wd (sg h os c) 8 + wd (sg h os c) 10 = h.ak := by unfold wd bt; rw [sg_form]; simp only [List.cons_append, List.getD_cons_zero, List.getD_cons_succ]; exact adr_of _ ha.a0 ha.a1
  have e13 : bt (sg h os c) 13 = h.fl := by unfold bt; rw [sg_form]; simp only [List.cons_append, List.getD_cons_zero, List.getD_cons_succ, b8_at]; omega
  have e14 : wd (sg h os c) 14 = h.wi := by unfold wd bt; rw [sg_form]; simp only [List.cons_append, List.getD_cons_zero, List.getD_cons_succ]; exact word_of _ hw.1 hw.2
  have e18 : wd (sg h os c) 18 = h.ur := by unfold wd bt; rw [sg_form]; simp only [List.cons_append, List.getD_cons_zero, List.getD_cons_succ]; exact word_of _ hu.1 hu.2
  have ed : (sg h os c).extract (hdl os) (sg h os c).size = h.d := by
    apply bytes_ext
    rw [ext_list, List.take_of_length_le (by rw [size_list]; exact Nat.le_refl _), sg_form]
    have l1 : (otx os ++ pad os).length = hdl os - 20 := by rw [op_len]; unfold hdl; omega
    obtain ⟨m, hm⟩ : ∃ m, hdl os = m + 20 := ⟨hdl os - 20, by omega⟩
    rw [hm]
    simp only [List.cons_append, List.nil_append, List.drop_succ_cons]
    unfold stl
    rw [← List.append_assoc, show m = (otx os ++ pad os).length by omega, List.drop_left]
  unfold rdh
  rw [sg_hl k c, e0, e2, e4, e8, e13, e14, e18, ed]
/-- with CHECK all of it is right -/
theorem sck_right (h : Sh) (os : List Opt) (f t : Int) : wsum 0 (und f t 6 (hdl os + h.d.size : Nat) ++ stxt h os f t) = 65535 := by
  have hb := sck_bd h os f t
  have e : sck h os f t = 65535 - norm (0 + (pw (und f t 6 (hdl os + h.d.size : Nat)) + (pw (sh1 h os) + (256 * ((hi8 0).toNat : Int) + ((lo8 0).toNat : Int) + pw (hi8 h.ur :: lo8 h.ur :: stl h os))))) := by
    unfold sck sgx
    rw [wsum_norm _ _ (by omega) (by omega), pw_append _ _ (by rw [und_len]), pw_append _ _ (by rw [sh1_len]), pw_two]
  unfold stxt sgx
  rw [wsum_norm _ _ (by omega) (by omega), pw_append _ _ (by rw [und_len]), pw_append _ _ (by rw [sh1_len]), pw_two, word_of _ hb.1 hb.2]
  rw [word_of 0 (by omega) (by omega)] at e
  have p1 := pw_nonneg (und f t 6 (hdl os + h.d.size : Nat))
  have p2 := pw_nonneg (sh1 h os)
  have p3 := pw_nonneg (hi8 h.ur :: lo8 h.ur :: stl h os)
  generalize pw (und f t 6 (hdl os + h.d.size : Nat)) = x at *
  generalize pw (sh1 h os) = y at *
  generalize pw (hi8 h.ur :: lo8 h.ur :: stl h os) = z at *
  generalize sck h os f t = q at *
  unfold norm at e ⊢
  split at e <;> split <;> omega
include k ha in
/-- a segment is read as it was written -/
theorem back (f t : Int) : rse ⟨(stxt h os f t).toArray⟩ f t = 0 ∧ rgh ⟨(stxt h os f t).toArray⟩ f t = h ∧ rgo ⟨(stxt h os f t).toArray⟩ f t = os := by
  have hb := hdl_bd k
  have d1 := k.d1
  have e : rse (sg h os (sck h os f t)) f t = 0 := by
    unfold rse
    rw [sg_size, sg_hl k, sg_b12 k, sg_rdo k]
    have r := sck_right h os f t
    rw [if_neg (by omega), if_neg (by omega), if_neg (by omega), if_neg (by omega), if_neg (by simp), if_neg]
    rw [sg_list]
    intro hn
    exact hn r
  show rse (sg h os (sck h os f t)) f t = 0 ∧ rgh (sg h os (sck h os f t)) f t = h ∧ rgo (sg h os (sck h os f t)) f t = os
  refine ⟨e, ?_, ?_⟩
  · unfold rgh; rw [if_pos e, sg_rdh k ha]
  · unfold rgo; rw [if_pos e]; unfold rds; rw [sg_hl k, sg_rdo k]; rfl
end
/-- what is read can be written, in as many bytes at most -/
theorem read_ok (s : ByteArray) (f t : Int) (he : rse s f t = 0) : SOk (rdh s) (rds s) ∧ (rdh s).Adr ∧ hdl (rds s) + (rdh s).d.size ≤ s.size := by
  unfold rse at he
  split at he
  · omega
  split at he
  · omega
  split at he
  · omega
  split at he
  · omega
  split at he
  · omega
  rename_i c0 c1 c2 c3 c4
  have b := bt_bd s 12
  have h60 : hl s ≤ 60 := by unfold hl; omega
  have h4 : hl s % 4 = 0 := by unfold hl; omega
  obtain ⟨os, hos⟩ := Option.ne_none_iff_exists'.1 c4
  have ers : rds s = os := by unfold rds; rw [hos]; rfl
  have hlen : (s.extract 20 (hl s)).data.toList.length = hl s - 20 := by rw [size_list, ByteArray.size_extract]; omega
  obtain ⟨o1, o2⟩ := rdo_ok _ _ os (Nat.le_refl _) (by omega) hos
  rw [hlen] at o2
  have ds : (rdh s).d.size = s.size - hl s := by show (s.extract (hl s) s.size).size = _; rw [ByteArray.size_extract]; omega
  have w0 := wd_bd s 0; have w2 := wd_bd s 2; have w4 := wd_bd s 4; have w6 := wd_bd s 6; have w8 := wd_bd s 8; have w10 := wd_bd s 10; have w14 := wd_bd s 14; have w18 := wd_bd s 18
  have b13 := bt_bd s 13
  rw [ers]
  refine ⟨⟨?_, List.all_eq_true.2 o1, by omega, by omega⟩, ⟨?_, ?_, ?_, ?_⟩, ?_⟩
  · unfold sarg
    show ¬ (wd s 0 < 0 ∨ 65535 < wd s 0 ∨ wd s 2 < 0 ∨ 65535 < wd s 2 ∨ wd s 14 < 0 ∨ 65535 < wd s 14 ∨ wd s 18 < 0 ∨ 65535 < wd s 18 ∨ bt s 13 < 0 ∨ 255 < bt s 13)
    omega
  · show 0 ≤ 65536 * wd s 4 + wd s 6; omega
  · show 65536 * wd s 4 + wd s 6 ≤ 4294967295; omega
  · show 0 ≤ 65536 * wd s 8 + wd s 10; omega
  · show 65536 * wd s 8 + wd s 10 ≤ 4294967295; omega
  · rw [ds]; unfold hdl; omega
/-- with one bit that is other it is not read -/
theorem turned (h : Sh) (os : List Opt) (f t : Int) (i r : Nat) (hr : r < 8) (hi : i < (stxt h os f t).length) : rse ⟨((stxt h os f t).set i (turn (stxt h os f t)[i] r)).toArray⟩ f t ≠ 0 := by
  intro he
  have hs := sck_right h os f t
  have hl : (stxt h os f t).length = hdl os + h.d.size := sgx_len h os _
  obtain ⟨x, hx⟩ : ∃ x, x = turn (stxt h os f t)[i] r := ⟨_, rfl⟩
  rw [← hx] at he
  have z : (⟨((stxt h os f t).set i x).toArray⟩ : ByteArray).size = hdl os + h.d.size := by rw [← size_list]; show ((stxt h os f t).set i _).length = _; rw [List.length_set, hl]
  have hw : wsum 0 (und f t 6 (hdl os + h.d.size : Nat) ++ (stxt h os f t).set i x) = 65535 := by
    unfold rse at he
    split at he
    · omega
    split at he
    · omega
    split at he
    · omega
    split at he
    · omega
    split at he
    · omega
    split at he
    · omega
    rename_i hn
    rw [z] at hn
    simpa using hn
  have hil : 12 + i < (und f t 6 (hdl os + h.d.size : Nat) ++ stxt h os f t).length := by rw [List.length_append, und_len]; omega
  have gi : (und f t 6 (hdl os + h.d.size : Nat) ++ stxt h os f t)[12 + i] = (stxt h os f t)[i] := by
    rw [List.getElem_append_right (by rw [und_len]; omega)]
    congr 1
    rw [und_len]; omega
  have := sum_ne _ (12 + i) r hil hr
  rw [hs, gi, ← hx, List.set_append_right _ _ (by rw [und_len]; omega), und_len, Nat.add_sub_cancel_left, hw] at this
  exact this rfl
end Go.Proofs.YtpcknkpddinccaaDoor.tcrm
