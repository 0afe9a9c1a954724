/- Plain mathematics: a packet's bytes of which one bit is other. -/
import Derived.Test.YtedbjhpajpakpaaDoorIpMath
import Derived.Test.YtedbjhpajpakpaaDoorOneMath
namespace Go.Proofs.YtedbjhpajpakpaaDoor.iptm
open Go.Proofs.YtedbjhpajpakpaaDoor.EM Go.Proofs.YtedbjhpajpakpaaDoor.ethb Go.Proofs.YtedbjhpajpakpaaDoor.SM Go.Proofs.YtedbjhpajpakpaaDoor.ipb Go.Proofs.YtedbjhpajpakpaaDoor.ipm Go.Proofs.YtedbjhpajpakpaaDoor.onem

/-- a packet's bytes, the byte at i other -/
def flip (p : Pk) (i : Nat) (x : UInt8) : List UInt8 := p.txt.set i x
def headL (p : Pk) : List UInt8 := p.h1 ++ (hi8 p.ck :: lo8 p.ck :: p.h2)
theorem head_len (p : Pk) : (headL p).length = 20 + p.o.size := by simp [headL, h1_len, h2_len]; omega
theorem txt_eq (p : Pk) : p.txt = headL p ++ p.d.data.toList := by simp [Pk.txt, headL]
theorem flip_head (p : Pk) (i : Nat) (y : UInt8) (hi : i < 20 + p.o.size) : (flip p i y).take (20 + p.o.size) = (headL p).set i y := by
  have l : ((headL p).set i y).length = 20 + p.o.size := by rw [List.length_set, head_len]
  unfold flip
  rw [txt_eq, List.set_append_left _ _ (by rw [head_len]; exact hi), List.take_append_of_le_length (by omega), List.take_of_length_le (by omega)]
/-- of Data no bit is looked at -/
theorem data_turned (p : Pk) (h : p.Ok) (ha : p.Adr) (i : Nat) (x : UInt8) (hi : 20 + p.o.size ≤ i) :
    ire ⟨(flip p i x).toArray⟩ = 0 ∧ rdp ⟨(flip p i x).toArray⟩ = { p with d := ⟨((flip p i x).drop (20 + p.o.size)).toArray⟩ } := by
  have e : flip p i x = headL p ++ p.d.data.toList.set (i - (20 + p.o.size)) x := by
    unfold flip
    rw [txt_eq, List.set_append_right _ _ (by rw [head_len]; exact hi), head_len]
  have ed : (flip p i x).drop (20 + p.o.size) = p.d.data.toList.set (i - (20 + p.o.size)) x := by
    rw [e, List.drop_left' (head_len p)]
  rw [ed]
  obtain ⟨q, hq⟩ : ∃ q : Pk, q = { p with d := ⟨(p.d.data.toList.set (i - (20 + p.o.size)) x).toArray⟩ } := ⟨_, rfl⟩
  have zd : q.d.size = p.d.size := by
    rw [hq]
    show (p.d.data.toList.set (i - (20 + p.o.size)) x).toArray.size = _
    rw [List.size_toArray, List.length_set]
    exact size_list p.d
  have q1 : q.h1 = p.h1 := by
    have o : q.o = p.o := by rw [hq]
    have f : q.fl = p.fl := by rw [hq]; rfl
    have a1 : q.tos = p.tos := by rw [hq]
    have a2 : q.id = p.id := by rw [hq]
    have a3 : q.li = p.li := by rw [hq]
    have a4 : q.pr = p.pr := by rw [hq]
    unfold Pk.h1
    rw [o, f, a1, a2, a3, a4, zd]
  have q2 : q.h2 = p.h2 := by rw [hq]; rfl
  have qc : q.ck = p.ck := by unfold Pk.ck; rw [q1, q2]
  have qt : q.txt = flip p i x := by
    rw [e]; unfold Pk.txt headL
    rw [q1, q2, qc]
    have : q.d.data.toList = p.d.data.toList.set (i - (20 + p.o.size)) x := by rw [hq]
    rw [this]; simp
  have qo : q.Ok := by
    have h' := h.all
    subst hq
    exact ⟨h.tos0, h.tos1, h.li0, h.li1, h.pr0, h.pr1, h.id0, h.id1, h.st0, h.st1, h.o1, h.o4, h.form, by rw [zd]; exact h'⟩
  have qa : q.Adr := by subst hq; exact ⟨ha.f0, ha.f1, ha.t0, ha.t1⟩
  have ew : ipm.wt q [] = ⟨(flip p i x).toArray⟩ := by unfold ipm.wt; rw [List.append_nil, qt]
  rw [← hq, ← ew]
  exact ⟨wt_ire qo [] qa, wt_rdp qo [] qa⟩
/-- of the head each bit is -/
theorem head_turned (p : Pk) (h : p.Ok) (i r : Nat) (hr : r < 8) (hi : i < 20 + p.o.size) (h0 : i = 0 → 4 ≤ r) (hx : i < p.txt.length) :
    ¬ ire ⟨(flip p i (turn p.txt[i] r)).toArray⟩ = 0 := by
  intro hc
  have R := red hc
  have o1 := h.o1
  have ew : ipm.wt p [] = ⟨p.txt.toArray⟩ := by simp [ipm.wt]
  have b0 := wt_b0 h []
  rw [ew, btl] at b0
  have g0 := R.b0
  have g1 := R.b1
  rw [btl] at g0 g1
  by_cases hz : i = 0
  · subst hz
    have hr4 := h0 rfl
    have e : (flip p 0 (turn p.txt[0] r)).getD 0 0 = turn p.txt[0] r := by
      unfold flip
      rw [List.getD_eq_getElem?_getD, List.getElem?_set_self hx]; rfl
    have e' : p.txt.getD 0 0 = p.txt[0] := by rw [List.getD_eq_getElem?_getD, List.getElem?_eq_getElem hx]; rfl
    rw [e, turn_toNat _ _ hr] at g0 g1
    rw [e'] at b0
    have xs := xor_step ⟨p.txt[0].toNat, p.txt[0].toNat_lt⟩ ⟨r, hr⟩
    simp only at xs
    have p16 : 16 ≤ 2 ^ r := Nat.pow_le_pow_right (n := 2) (by omega) hr4
    omega
  · have e : (flip p i (turn p.txt[i] r)).getD 0 0 = p.txt.getD 0 0 := by
      unfold flip
      rw [List.getD_eq_getElem?_getD, List.getD_eq_getElem?_getD, List.getElem?_set_ne hz]
    have hn1 : hn ⟨(flip p i (turn p.txt[i] r)).toArray⟩ = 20 + p.o.size := by
      have := wt_hn h []
      rw [ew] at this
      unfold hn at this ⊢
      rw [btl] at this ⊢
      rw [e]; exact this
    have s0 := R.sum
    rw [hn1] at s0
    have s1 : (⟨(flip p i (turn p.txt[i] r)).toArray⟩ : ByteArray).data.toList.take (20 + p.o.size) = (headL p).set i (turn p.txt[i] r) := by
      exact flip_head p i _ hi
    have hil : i < (headL p).length := by rw [head_len]; exact hi
    have gi : p.txt[i] = (headL p)[i] := by
      have : p.txt[i]? = (headL p)[i]? := by rw [txt_eq, List.getElem?_append_left hil]
      rw [List.getElem?_eq_getElem hx, List.getElem?_eq_getElem hil] at this
      exact Option.some.inj this
    rw [s1, gi] at s0
    have := sum_ne (headL p) i r hil hr
    rw [s0] at this
    exact this (right_of p)
end Go.Proofs.YtedbjhpajpakpaaDoor.iptm
