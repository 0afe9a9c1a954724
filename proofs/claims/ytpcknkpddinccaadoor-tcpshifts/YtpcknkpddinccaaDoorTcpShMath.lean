/- Plain mathematics of segments that are moved: by so much, and then by more, is by both; back is as before; what could be written still can. -/
import Derived.Test.YtpcknkpddinccaaDoorTcpTxt
namespace Go.Proofs.YtpcknkpddinccaaDoor.tcsm
open Go.Proofs.YtpcknkpddinccaaDoor.EM Go.Proofs.YtpcknkpddinccaaDoor.ethb Go.Proofs.YtpcknkpddinccaaDoor.SM Go.Proofs.YtpcknkpddinccaaDoor.ipb Go.Proofs.YtpcknkpddinccaaDoor.ipm Go.Proofs.YtpcknkpddinccaaDoor.tcb Go.Proofs.YtpcknkpddinccaaDoor.tct

theorem long_adr (x : Int) (h0 : 0 ≤ x) (h1 : x ≤ 4294967295) : long (hi8 (x / 65536)) (lo8 (x / 65536)) (hi8 (x % 65536)) (lo8 (x % 65536)) = x := adr_of x h0 h1
theorem long_bd (a b c d : UInt8) : 0 ≤ long a b c d ∧ long a b c d ≤ 4294967295 := by
  have := byte_bd a; have := byte_bd b; have := byte_bd c; have := byte_bd d
  unfold long; omega
theorem lmv_lmv (x y : Int) : ∀ (n : Nat) (l : List UInt8), l.length = 4 * n → lmv y (lmv x l) = lmv ((x + y) % 4294967296) l
  | 0, l, h => by
    have : l = [] := List.eq_nil_of_length_eq_zero (by omega)
    subst this; rfl
  | n + 1, l, h => by
    match l, h with
    | a :: b :: c :: d :: r, h =>
      simp only [List.length_cons] at h
      have ih := lmv_lmv x y n r (by omega)
      have e := long_adr ((long a b c d + x) % 4294967296) (by omega) (by omega)
      have hb := long_bd a b c d
      show lmv y (adr ((long a b c d + x) % 4294967296) ++ lmv x r) = adr ((long a b c d + (x + y) % 4294967296) % 4294967296) ++ lmv ((x + y) % 4294967296) r
      simp only [adr, List.cons_append, List.nil_append, lmv, e, ih]
      rw [show (((long a b c d + x) % 4294967296 + y) % 4294967296) = (long a b c d + (x + y) % 4294967296) % 4294967296 by omega]
theorem adr_long (a b c d : UInt8) : adr (long a b c d) = [a, b, c, d] := by
  have ha := byte_bd a; have hb := byte_bd b; have hc := byte_bd c; have hd := byte_bd d
  have q : long a b c d / 65536 = 256 * (a.toNat : Int) + (b.toNat : Int) := by unfold long; omega
  have r : long a b c d % 65536 = 256 * (c.toNat : Int) + (d.toNat : Int) := by unfold long; omega
  have key : ∀ x y : UInt8, hi8 (256 * (x.toNat : Int) + (y.toNat : Int)) = x ∧ lo8 (256 * (x.toNat : Int) + (y.toNat : Int)) = y := fun x y => by
    have hx := byte_bd x; have hy := byte_bd y
    constructor
    · apply UInt8.toNat_inj.1
      have := hi8_at (256 * (x.toNat : Int) + (y.toNat : Int)) (by omega) (by omega)
      omega
    · apply UInt8.toNat_inj.1
      have := lo8_at (256 * (x.toNat : Int) + (y.toNat : Int))
      omega
  unfold adr
  rw [q, r, (key a b).1, (key a b).2, (key c d).1, (key c d).2]
theorem lmv_zero : ∀ (n : Nat) (l : List UInt8), l.length = 4 * n → lmv 0 l = l
  | 0, l, h => by
    have : l = [] := List.eq_nil_of_length_eq_zero (by omega)
    subst this; rfl
  | n + 1, l, h => by
    match l, h with
    | a :: b :: c :: d :: r, h =>
      simp only [List.length_cons] at h
      have ih := lmv_zero n r (by omega)
      have hb := long_bd a b c d
      show adr ((long a b c d + 0) % 4294967296) ++ lmv 0 r = _
      rw [ih, show (long a b c d + 0) % 4294967296 = long a b c d by omega, adr_long]
      rfl
theorem mvo_ki (b : Int) (o : Opt) : (mvo b o).ki = o.ki := by
  unfold mvo; split
  · rename_i h; exact h.1.symm
  · rfl
theorem mvo_size (b : Int) (o : Opt) : (mvo b o).d.size = o.d.size := by
  unfold mvo; split
  · rename_i h
    have hl := size_list o.d
    show (List.toArray _).size = _
    rw [List.size_toArray, lmv_len b (o.d.size / 4) _ (by omega), hl]
  · rfl
theorem mvo_mvo (b d : Int) (o : Opt) : mvo d (mvo b o) = mvo ((b + d) % 4294967296) o := by
  by_cases h : o.ki = 5 ∧ o.d.size % 8 = 0
  · have e1 : mvo b o = ⟨5, ⟨(lmv b o.d.data.toList).toArray⟩⟩ := by unfold mvo; rw [if_pos h]
    have sz := mvo_size b o
    rw [e1] at sz ⊢
    have e2 : mvo ((b + d) % 4294967296) o = ⟨5, ⟨(lmv ((b + d) % 4294967296) o.d.data.toList).toArray⟩⟩ := by unfold mvo; rw [if_pos h]
    rw [e2]
    unfold mvo
    rw [if_pos ⟨rfl, by show (⟨(lmv b o.d.data.toList).toArray⟩ : ByteArray).size % 8 = 0; have : (⟨(lmv b o.d.data.toList).toArray⟩ : ByteArray).size = o.d.size := sz; omega⟩]
    have hl := size_list o.d
    show (⟨5, ⟨(lmv d (lmv b o.d.data.toList)).toArray⟩⟩ : Opt) = _
    rw [lmv_lmv b d (o.d.size / 4) _ (by omega)]
  · have e1 : ∀ x, mvo x o = o := fun x => by unfold mvo; rw [if_neg h]
    rw [e1, e1, e1]
theorem mvo_zero (o : Opt) : mvo 0 o = o := by
  unfold mvo
  split
  · rename_i h
    have hl := size_list o.d
    rw [lmv_zero (o.d.size / 4) _ (by omega)]
    obtain ⟨k, d⟩ := o
    obtain ⟨rfl, _⟩ := h
    rfl
  · rfl
theorem noAck_mvh (h : Sh) (a b : Int) : noAck (mvh h a b) ↔ noAck h := Iff.rfl
theorem mvh_no (g : Sh) (n : noAck g) (x y : Int) : mvh g x y = { g with sq := (g.sq + x) % 4294967296 } := by unfold mvh; rw [if_pos n]
theorem mvh_yes (g : Sh) (n : ¬ noAck g) (x y : Int) : mvh g x y = { g with sq := (g.sq + x) % 4294967296, ak := (g.ak + y) % 4294967296 } := by unfold mvh; rw [if_neg n]
theorem mvh_mvh (h : Sh) (a b c d : Int) : mvh (mvh h a b) c d = mvh h ((a + c) % 4294967296) ((b + d) % 4294967296) := by
  by_cases n : noAck h
  · have n2 : noAck (mvh h a b) := n
    rw [mvh_no _ n2, mvh_no h n, mvh_no h n]
    simp only [Sh.mk.injEq, true_and, and_true]
    omega
  · have n2 : ¬ noAck (mvh h a b) := n
    rw [mvh_yes _ n2, mvh_yes h n, mvh_yes h n]
    simp only [Sh.mk.injEq, true_and, and_true]
    constructor <;> omega
theorem mvs_mvs (h : Sh) (os : List Opt) (a b d : Int) : mvs (mvh h a b) (mvs h os b) d = mvs h os ((b + d) % 4294967296) := by
  by_cases n : noAck h
  · have n2 : noAck (mvh h a b) := n
    unfold mvs
    rw [if_pos n2, if_pos n, if_pos n]
  · have n2 : ¬ noAck (mvh h a b) := n
    unfold mvs
    rw [if_neg n2, if_neg n, if_neg n, List.map_map]
    apply List.map_congr_left
    intro o _
    exact mvo_mvo b d o
theorem mvh_zero (h : Sh) (ha : h.Adr) : mvh h 0 0 = h := by
  have := ha.s0; have := ha.s1; have := ha.a0; have := ha.a1
  have e1 : (h.sq + 0) % 4294967296 = h.sq := by omega
  have e2 : (h.ak + 0) % 4294967296 = h.ak := by omega
  unfold mvh
  rw [e1, e2]
  simp
theorem mvs_zero (h : Sh) (os : List Opt) : mvs h os 0 = os := by
  unfold mvs
  split
  · rfl
  · conv => rhs; rw [← List.map_id os]
    apply List.map_congr_left
    intro o _
    exact mvo_zero o
theorem mvh_adr (h : Sh) (ha : h.Adr) (a b : Int) : (mvh h a b).Adr := by
  have := ha.a0; have := ha.a1
  refine ⟨?_, ?_, ?_, ?_⟩
  · show 0 ≤ (h.sq + a) % 4294967296; omega
  · show (h.sq + a) % 4294967296 ≤ 4294967295; omega
  · show 0 ≤ (if noAck h then h.ak else (h.ak + b) % 4294967296); split <;> omega
  · show (if noAck h then h.ak else (h.ak + b) % 4294967296) ≤ 4294967295; split <;> omega
theorem mvs_len (h : Sh) (os : List Opt) (b : Int) : (mvs h os b).length = os.length := by unfold mvs; split <;> simp
theorem mvs_size (h : Sh) (os : List Opt) (b : Int) (m : Nat) (hz : ∀ o ∈ os, o.d.size ≤ m) : ∀ o ∈ mvs h os b, o.d.size ≤ m := by
  unfold mvs
  split
  · exact hz
  · intro o ho
    obtain ⟨p, hp, rfl⟩ := List.mem_map.1 ho
    rw [mvo_size]; exact hz p hp
theorem mvh_d (h : Sh) (a b : Int) : (mvh h a b).d = h.d := rfl
theorem ook_mvo (b : Int) (o : Opt) : ook (mvo b o) = ook o := by unfold ook; rw [mvo_ki, mvo_size]
theorem oln_mvo (b : Int) (os : List Opt) : oln (os.map (mvo b)) = oln os := by
  induction os with
  | nil => rfl
  | cons o r ih =>
    have e : ∀ (x : Opt) (l : List Opt), oln (x :: l) = (ot x).length + oln l := fun x l => by simp [oln, otx]
    rw [List.map_cons, e, e, ih, ot_len, ot_len, mvo_ki, mvo_size]
theorem serr_mv (h : Sh) (os : List Opt) (a b : Int) : serr (mvh h a b) (mvs h os b) = serr h os := by
  have e1 : (mvs h os b).all ook = os.all ook := by
    unfold mvs; split
    · rfl
    · rw [List.all_map]; congr 1; funext o; exact ook_mvo b o
  have e2 : oln (mvs h os b) = oln os := by
    unfold mvs; split
    · rfl
    · exact oln_mvo b os
  have e3 : sarg (mvh h a b) ↔ sarg h := Iff.rfl
  unfold serr
  rw [e1, e2, mvh_d]
  by_cases hh : sarg h
  · rw [if_pos hh, if_pos (e3.2 hh)]
  · rw [if_neg hh, if_neg (fun x => hh (e3.1 x))]
end Go.Proofs.YtpcknkpddinccaaDoor.tcsm
