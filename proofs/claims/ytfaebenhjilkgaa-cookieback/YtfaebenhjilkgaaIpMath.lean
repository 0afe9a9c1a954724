/- Plain mathematics of packets: what is written is read again, whatever stands behind it; what is read is written so. -/
import Derived.Test.YtfaebenhjilkgaaIpBase
namespace Go.Proofs.Ytfaebenhjilkgaa.ipm
open Go.Proofs.Ytfaebenhjilkgaa.EM Go.Proofs.Ytfaebenhjilkgaa.ethb Go.Proofs.Ytfaebenhjilkgaa.SM Go.Proofs.Ytfaebenhjilkgaa.ipb

theorem bytes_ext {a b : ByteArray} (h : a.data.toList = b.data.toList) : a = b := by
  cases a; cases b; simp_all
theorem ext_list (s : ByteArray) (a b : Nat) : (s.extract a b).data.toList = (s.data.toList.take b).drop a := by
  simp [ByteArray.data_extract, List.drop_take]
theorem size_list (s : ByteArray) : s.data.toList.length = s.size := by simp
theorem btl (l : List UInt8) (k : Nat) : bt ⟨l.toArray⟩ k = ((l.getD k 0).toNat : Int) := by unfold bt; rfl
theorem hi8_toNat (n : Int) (h0 : 0 ≤ n) (h1 : n ≤ 65535) : ((hi8 n).toNat : Int) = n / 256 := hi8_at n h0 h1
theorem word_of (n : Int) (h0 : 0 ≤ n) (h1 : n ≤ 65535) : 256 * ((hi8 n).toNat : Int) + ((lo8 n).toNat : Int) = n := by
  rw [hi8_at n h0 h1, lo8_at]; omega
theorem pw_two (x y : UInt8) (r : List UInt8) : pw (x :: y :: r) = 256 * (x.toNat : Int) + (y.toNat : Int) + pw r := by simp [pw]
theorem h1_len (p : Pk) : p.h1.length = 10 := by simp [Pk.h1]
theorem h2_len (p : Pk) : p.h2.length = 8 + p.o.size := by simp [Pk.h2, adr]; omega
theorem txt_len (p : Pk) : p.txt.length = 20 + p.o.size + p.d.size := by simp [Pk.txt, h1_len, h2_len]; omega
/-- with CHECK the head is right -/
theorem right_of (p : Pk) : wsum 0 (p.h1 ++ (hi8 p.ck :: lo8 p.ck :: p.h2)) = 65535 := by
  have hb := p.ck_bd
  have hl : p.h1.length % 2 = 0 := by rw [h1_len]
  have e : p.ck = 65535 - norm (0 + (pw p.h1 + (256 * ((0 : UInt8).toNat : Int) + ((0 : UInt8).toNat : Int) + pw p.h2))) := by
    unfold Pk.ck; rw [wsum_norm _ _ (by omega) (by omega), pw_append _ _ hl, pw_two]
  rw [wsum_norm _ _ (by omega) (by omega), pw_append _ _ hl, pw_two, word_of _ hb.1 hb.2]
  have z : ((0 : UInt8).toNat : Int) = 0 := rfl
  rw [z] at e
  have h1 := pw_nonneg p.h1
  have h2 := pw_nonneg p.h2
  unfold norm at e ⊢
  split at e <;> split <;> omega
theorem adr_of (a : Int) (h0 : 0 ≤ a) (h1 : a ≤ 4294967295) :
    65536 * (256 * ((hi8 (a / 65536)).toNat : Int) + ((lo8 (a / 65536)).toNat : Int)) + (256 * ((hi8 (a % 65536)).toNat : Int) + ((lo8 (a % 65536)).toNat : Int)) = a := by
  rw [word_of _ (by omega) (by omega), word_of _ (by omega) (by omega)]; omega

section
variable {p : Pk} (h : p.Ok) (x : List UInt8)
/-- a packet's bytes, and others behind them -/
def wt (p : Pk) (x : List UInt8) : ByteArray := ⟨(p.txt ++ x).toArray⟩
theorem wt_list (p : Pk) (x : List UInt8) : (wt p x).data.toList = p.h1 ++ (hi8 p.ck :: lo8 p.ck :: (p.h2 ++ (p.d.data.toList ++ x))) := by simp [wt, Pk.txt]
theorem wt_size (p : Pk) (x : List UInt8) : (wt p x).size = 20 + p.o.size + p.d.size + x.length := by
  rw [← size_list, wt_list]; simp [h1_len, h2_len]; omega
include h in
theorem wt_hn : hn (wt p x) = 20 + p.o.size := by
  have := h.o1; have := h.o4
  have e : bt (wt p x) 0 = 69 + (p.o.size / 4 : Nat) := by
    unfold bt; rw [wt_list]; simp only [Pk.h1, List.cons_append, List.getD_cons_zero, b8_at]; omega
  unfold hn; rw [e]; omega
include h in
theorem wt_b0 : bt (wt p x) 0 = 69 + (p.o.size / 4 : Nat) := by
  have := h.o1; have := h.o4
  unfold bt; rw [wt_list]; simp only [Pk.h1, List.cons_append, List.getD_cons_zero, b8_at]; omega
include h in
theorem wt_an : an (wt p x) = 20 + p.o.size + p.d.size := by
  have := h.all
  have e : wd (wt p x) 2 = (20 + p.o.size + p.d.size : Nat) := by
    unfold wd bt; rw [wt_list]; simp only [Pk.h1, List.cons_append, List.getD_cons_zero, List.getD_cons_succ]
    exact word_of _ (by omega) (by omega)
  unfold an; rw [e]; omega
include h in
theorem wt_fl : wd (wt p x) 6 = p.fl := by
  have := h.fl_bd
  unfold wd bt; rw [wt_list]; simp only [Pk.h1, List.cons_append, List.getD_cons_zero, List.getD_cons_succ]
  exact word_of _ (by omega) (by omega)
include h in
theorem fl_wh : decide (p.fl / 16384 % 2 = 1) = p.wh := by
  have := h.st0; have := h.st1
  unfold Pk.fl
  cases hw : p.wh
  · cases hm : p.mo <;> simp <;> omega
  · have := h.form hw
    rw [this.1, this.2]; simp
include h in
theorem fl_mo : decide (p.fl / 8192 % 2 = 1) = p.mo := by
  have := h.st0; have := h.st1
  unfold Pk.fl
  cases hw : p.wh
  · cases hm : p.mo <;> simp <;> omega
  · have := h.form hw
    rw [this.1, this.2]; simp
include h in
theorem fl_st : p.fl % 8192 = p.st := by
  have := h.st0; have := h.st1
  unfold Pk.fl
  cases hw : p.wh
  · cases hm : p.mo <;> simp <;> omega
  · have := h.form hw
    rw [this.1, this.2]; simp
theorem head_list (p : Pk) (x : List UInt8) : (wt p x).data.toList.take (20 + p.o.size) = p.h1 ++ (hi8 p.ck :: lo8 p.ck :: p.h2) := by
  rw [wt_list]
  rw [show p.h1 ++ (hi8 p.ck :: lo8 p.ck :: (p.h2 ++ (p.d.data.toList ++ x))) = (p.h1 ++ (hi8 p.ck :: lo8 p.ck :: p.h2)) ++ (p.d.data.toList ++ x) by simp]
  have e' : 20 + p.o.size = (p.h1 ++ (hi8 p.ck :: lo8 p.ck :: p.h2)).length := by simp [h1_len, h2_len]; omega
  rw [e', List.take_left]
include h in
theorem wt_rdp (ha : p.Adr) : rdp (wt p x) = p := by
  have := h.tos0; have := h.tos1; have := h.li0; have := h.li1; have := h.pr0; have := h.pr1; have hi0 := h.id0; have hi1 := h.id1
  have e1 : bt (wt p x) 1 = p.tos := by unfold bt; rw [wt_list]; simp only [Pk.h1, List.cons_append, List.getD_cons_zero, List.getD_cons_succ, b8_at]; omega
  have e8 : bt (wt p x) 8 = p.li := by unfold bt; rw [wt_list]; simp only [Pk.h1, List.cons_append, List.getD_cons_zero, List.getD_cons_succ, b8_at]; omega
  have e9 : bt (wt p x) 9 = p.pr := by unfold bt; rw [wt_list]; simp only [Pk.h1, List.cons_append, List.getD_cons_zero, List.getD_cons_succ, b8_at]; omega
  have e4 : wd (wt p x) 4 = p.id := by
    unfold wd bt; rw [wt_list]; simp only [Pk.h1, List.cons_append, List.getD_cons_zero, List.getD_cons_succ]
    exact word_of _ hi0 hi1
  have ef : 65536 * wd (wt p x) 12 + wd (wt p x) 14 = p.fr := by
    unfold wd bt; rw [wt_list]; simp only [Pk.h1, Pk.h2, adr, List.cons_append, List.nil_append, List.getD_cons_zero, List.getD_cons_succ]
    exact adr_of _ ha.f0 ha.f1
  have et : 65536 * wd (wt p x) 16 + wd (wt p x) 18 = p.to := by
    unfold wd bt; rw [wt_list]; simp only [Pk.h1, Pk.h2, adr, List.cons_append, List.nil_append, List.getD_cons_zero, List.getD_cons_succ]
    exact adr_of _ ha.t0 ha.t1
  have eo : (wt p x).extract 20 (20 + p.o.size) = p.o := by
    apply bytes_ext
    rw [ext_list, head_list]
    simp only [Pk.h1, Pk.h2, adr, List.cons_append, List.nil_append, List.drop_succ_cons, List.drop_zero]
  have ed : (wt p x).extract (20 + p.o.size) (20 + p.o.size + p.d.size) = p.d := by
    apply bytes_ext
    rw [ext_list, wt_list]
    have hl : p.o.data.toList.length = p.o.size := by simp
    have hd : p.d.data.toList.length = p.d.size := by simp
    have e : 20 + p.o.size = p.h1.length + (p.h2.length + 2) := by rw [h1_len, h2_len]; omega
    rw [show p.h1 ++ (hi8 p.ck :: lo8 p.ck :: (p.h2 ++ (p.d.data.toList ++ x))) = (p.h1 ++ (hi8 p.ck :: lo8 p.ck :: p.h2)) ++ (p.d.data.toList ++ x) by simp]
    have e' : 20 + p.o.size = (p.h1 ++ (hi8 p.ck :: lo8 p.ck :: p.h2)).length := by rw [e]; simp
    rw [e', List.drop_take, List.drop_left]
    rw [Nat.add_sub_cancel_left, ← hd, List.take_left]
  unfold rdp
  rw [wt_hn h, wt_an h, wt_fl h, e1, e8, e9, e4, ef, et, eo, ed, fl_wh h, fl_mo h, fl_st h]
include h in
theorem wt_ire (ha : p.Adr) : ire (wt p x) = 0 := by
  have := h.o1; have := h.fl_bd; have := h.all
  unfold ire
  rw [wt_rdp h x ha, wt_hn h, wt_an h, wt_b0 h, wt_fl h, wt_size, h.err, head_list, right_of]
  rw [if_neg (by omega), if_neg (by omega), if_neg (by omega), if_neg (by simp), if_neg (by simp)]
end

/-- what is known where a text is read -/
structure Red (s : ByteArray) : Prop where
  z : 20 ≤ s.size
  h0 : 20 ≤ hn s
  h1 : hn s ≤ 60
  h4 : hn s % 4 = 0
  ha : hn s ≤ an s
  a : an s ≤ s.size
  b0 : 69 ≤ bt s 0
  b1 : bt s 0 ≤ 79
  f : wd s 6 < 32768
  ok : (rdp s).Ok
  sum : wsum 0 (s.data.toList.take (hn s)) = 65535
theorem red {s : ByteArray} (h : ire s = 0) : Red s := by
  unfold ire at h
  split at h
  · omega
  split at h
  · omega
  split at h
  · omega
  split at h
  · omega
  split at h
  · omega
  rename_i h1 h2 h3 h4 h5
  have hb := bt_bd s 0
  have e : hn s = 4 * ((bt s 0).toNat % 16) := rfl
  exact ⟨by omega, by omega, by omega, by omega, by omega, by omega, by omega, by omega, by omega, Pk.ok (by simpa using h4), by simpa using h5⟩
theorem rdp_adr (s : ByteArray) : (rdp s).Adr := by
  have := wd_bd s 12; have := wd_bd s 14; have := wd_bd s 16; have := wd_bd s 18
  refine ⟨?_, ?_, ?_, ?_⟩ <;> (simp only [rdp]; omega)
theorem ire_bd (s : ByteArray) : ire s = 0 ∨ ire s = 3 ∨ ire s = 4 ∨ ire s = 5 := by
  unfold ire; (repeat' split) <;> simp
theorem byte_eq {x y : UInt8} (h : (x.toNat : Int) = (y.toNat : Int)) : x = y := UInt8.toNat_inj.1 (by omega)
theorem hi8_of (x y : UInt8) : hi8 (256 * (x.toNat : Int) + (y.toNat : Int)) = x := by
  have := byte_bd x; have := byte_bd y
  exact byte_eq (by rw [hi8_at _ (by omega) (by omega)]; omega)
theorem lo8_of (x y : UInt8) : lo8 (256 * (x.toNat : Int) + (y.toNat : Int)) = y := by
  have := byte_bd x; have := byte_bd y
  exact byte_eq (by rw [lo8_at]; omega)
theorem b8_of (x : UInt8) : b8 (x.toNat : Int) = x := by
  have := byte_bd x
  exact byte_eq (by rw [b8_at]; omega)
theorem adr_two (x y z u : UInt8) : adr (65536 * (256 * (x.toNat : Int) + (y.toNat : Int)) + (256 * (z.toNat : Int) + (u.toNat : Int))) = [x, y, z, u] := by
  have := byte_bd x; have := byte_bd y; have := byte_bd z; have := byte_bd u
  have e1 : (65536 * (256 * (x.toNat : Int) + (y.toNat : Int)) + (256 * (z.toNat : Int) + (u.toNat : Int))) / 65536 = 256 * (x.toNat : Int) + (y.toNat : Int) := by omega
  have e2 : (65536 * (256 * (x.toNat : Int) + (y.toNat : Int)) + (256 * (z.toNat : Int) + (u.toNat : Int))) % 65536 = 256 * (z.toNat : Int) + (u.toNat : Int) := by omega
  unfold adr; rw [e1, e2, hi8_of, lo8_of, hi8_of, lo8_of]
theorem cons_of {n : Nat} (l : List UInt8) (h : n + 1 ≤ l.length) : ∃ x r, l = x :: r ∧ n ≤ r.length := by
  cases l with
  | nil => simp at h
  | cons x r => exact ⟨x, r, rfl, by simpa using h⟩
theorem list20 (l : List UInt8) (h : 20 ≤ l.length) : ∃ b0 b1 b2 b3 b4 b5 b6 b7 b8 b9 c0 c1 d0 d1 d2 d3 d4 d5 d6 d7 r, l = b0 :: b1 :: b2 :: b3 :: b4 :: b5 :: b6 :: b7 :: b8 :: b9 :: c0 :: c1 :: d0 :: d1 :: d2 :: d3 :: d4 :: d5 :: d6 :: d7 :: r := by
  obtain ⟨b0, l0, rfl, h0⟩ := cons_of (n := 19) l h
  obtain ⟨b1, l1, rfl, h1⟩ := cons_of (n := 18) l0 h0
  obtain ⟨b2, l2, rfl, h2⟩ := cons_of (n := 17) l1 h1
  obtain ⟨b3, l3, rfl, h3⟩ := cons_of (n := 16) l2 h2
  obtain ⟨b4, l4, rfl, h4⟩ := cons_of (n := 15) l3 h3
  obtain ⟨b5, l5, rfl, h5⟩ := cons_of (n := 14) l4 h4
  obtain ⟨b6, l6, rfl, h6⟩ := cons_of (n := 13) l5 h5
  obtain ⟨b7, l7, rfl, h7⟩ := cons_of (n := 12) l6 h6
  obtain ⟨b8, l8, rfl, h8⟩ := cons_of (n := 11) l7 h7
  obtain ⟨b9, l9, rfl, h9⟩ := cons_of (n := 10) l8 h8
  obtain ⟨c0, l10, rfl, h10⟩ := cons_of (n := 9) l9 h9
  obtain ⟨c1, l11, rfl, h11⟩ := cons_of (n := 8) l10 h10
  obtain ⟨d0, l12, rfl, h12⟩ := cons_of (n := 7) l11 h11
  obtain ⟨d1, l13, rfl, h13⟩ := cons_of (n := 6) l12 h12
  obtain ⟨d2, l14, rfl, h14⟩ := cons_of (n := 5) l13 h13
  obtain ⟨d3, l15, rfl, h15⟩ := cons_of (n := 4) l14 h14
  obtain ⟨d4, l16, rfl, h16⟩ := cons_of (n := 3) l15 h15
  obtain ⟨d5, l17, rfl, h17⟩ := cons_of (n := 2) l16 h16
  obtain ⟨d6, l18, rfl, h18⟩ := cons_of (n := 1) l17 h17
  obtain ⟨d7, l19, rfl, h19⟩ := cons_of (n := 0) l18 h18
  exact ⟨b0, b1, b2, b3, b4, b5, b6, b7, b8, b9, c0, c1, d0, d1, d2, d3, d4, d5, d6, d7, l19, rfl⟩
theorem fl_of (s : ByteArray) (h : wd s 6 < 32768) : (rdp s).fl = wd s 6 := by
  have := wd_bd s 6
  simp only [Pk.fl, rdp, decide_eq_true_eq]
  split <;> split <;> omega
/-- what is read is written so, but for CHECK -/
theorem wr_rd {s : ByteArray} (h : ire s = 0) : (rdp s).txt.take 10 = s.data.toList.take 10 ∧ (rdp s).txt.drop 12 = (s.data.toList.take (an s)).drop 12 ∧ (rdp s).txt.length = an s := by
  have R := red h
  have z := R.z; have h0 := R.h0; have h1 := R.h1; have h4 := R.h4; have ha := R.ha; have a := R.a; have hb0 := R.b0; have hb1 := R.b1; have f := R.f
  have hl : (rdp s).txt.length = an s := by
    rw [txt_len]; simp only [rdp, ByteArray.size_extract]; omega
  have eo : (rdp s).o.data.toList = (s.data.toList.take (hn s)).drop 20 := by simp only [rdp]; exact ext_list _ _ _
  have ed : (rdp s).d.data.toList = (s.data.toList.take (an s)).drop (hn s) := by simp only [rdp]; exact ext_list _ _ _
  have os : (rdp s).o.size = hn s - 20 := by simp only [rdp, ByteArray.size_extract]; omega
  have e1 : (rdp s).h1 = s.data.toList.take 10 := by
    have ef := fl_of s f
    have ea : ((20 + (rdp s).o.size + (rdp s).d.size : Nat) : Int) = wd s 2 := by
      rw [txt_len] at hl; rw [hl]; unfold an; have := wd_bd s 2; omega
    have e0 : (69 + ((rdp s).o.size / 4 : Nat) : Int) = bt s 0 := by rw [os]; have : hn s = 4 * ((bt s 0).toNat % 16) := rfl; omega
    unfold Pk.h1
    rw [ef, ea, e0]
    obtain ⟨b0, b1, b2, b3, b4, b5, b6, b7, b8', b9, c0, c1, d0, d1, d2, d3, d4, d5, d6, d7, r, e⟩ := list20 s.data.toList (by rw [size_list]; exact z)
    simp only [rdp, wd, bt, e, List.getD_cons_zero, List.getD_cons_succ, hi8_of, lo8_of, b8_of, List.take_succ_cons, List.take_zero]
  have e2 : (rdp s).h2 = (s.data.toList.take (hn s)).drop 12 := by
    unfold Pk.h2
    rw [eo]
    obtain ⟨b0, b1, b2, b3, b4, b5, b6, b7, b8', b9, c0, c1, d0, d1, d2, d3, d4, d5, d6, d7, r, e⟩ := list20 s.data.toList (by rw [size_list]; exact z)
    obtain ⟨m, em⟩ : ∃ m, hn s = m + 20 := ⟨hn s - 20, by omega⟩
    simp only [rdp, wd, bt]
    rw [em, e]
    simp only [List.getD_cons_zero, List.getD_cons_succ, adr_two, List.take_succ_cons, List.drop_succ_cons, List.drop_zero, List.cons_append, List.nil_append]
  refine ⟨?_, ?_, hl⟩
  · unfold Pk.txt
    rw [e1, List.take_append_of_le_length (by rw [List.length_take, size_list]; omega), List.take_take]
    simp
  · unfold Pk.txt
    have l10 : (rdp s).h1.length = 10 := h1_len _
    rw [show (rdp s).h1 ++ (hi8 (rdp s).ck :: lo8 (rdp s).ck :: ((rdp s).h2 ++ (rdp s).d.data.toList)) = ((rdp s).h1 ++ [hi8 (rdp s).ck, lo8 (rdp s).ck]) ++ ((rdp s).h2 ++ (rdp s).d.data.toList) by simp]
    rw [List.drop_append_of_le_length (by simp [l10]), List.drop_of_length_le (by simp [l10]), List.nil_append, e2, ed]
    have e3 : s.data.toList.take (hn s) = (s.data.toList.take (an s)).take (hn s) := by rw [List.take_take, Nat.min_eq_left ha]
    rw [e3]
    obtain ⟨L, hL⟩ : ∃ L, L = s.data.toList.take (an s) := ⟨_, rfl⟩
    rw [← hL]
    have hLl : hn s ≤ L.length := by rw [hL, List.length_take, size_list]; omega
    conv => rhs; rw [← List.take_append_drop (hn s) L]
    rw [List.drop_append_of_le_length (by rw [List.length_take]; omega)]
end Go.Proofs.Ytfaebenhjilkgaa.ipm
