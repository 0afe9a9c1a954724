/- A text's pieces between colons: plain mathematics; when they are the six pairs of digits of an address. -/
import Derived.Test.YtolhmmnaohadcaaDoorEthBackMath
import Derived.Lib.SplitLaws
namespace Go.Proofs.YtolhmmnaohadcaaDoor.ethsp
open Go.Proofs.YtolhmmnaohadcaaDoor.EM Go.Proofs.YtolhmmnaohadcaaDoor.EH Go.Proofs.YtolhmmnaohadcaaDoor.ethp Go.Proofs.YtolhmmnaohadcaaDoor.ethm Go.Proofs.YtolhmmnaohadcaaDoor.ethc

/-- the pieces between colons -/
def sp (l : List UInt8) : List (List UInt8) := Lib.splitK [58] 0 (Lib.count l [58]) l
theorem sp_nil : sp [] = [[]] := by
  unfold sp; rw [Lib.count_miss (by simp [Lib.index])]; rfl
theorem sp_colon (l : List UInt8) : sp (58 :: l) = [] :: sp l := by
  unfold sp
  rw [Lib.count_cons_eq, Nat.add_comm]
  have hix : Lib.index (58 :: l) [58] = 0 := by rw [Lib.index]; simp [List.isPrefixOf]
  rw [Lib.splitK, hix]
  simp
theorem sp_ne (b : UInt8) (l : List UInt8) (h : b ≠ 58) : ∃ p r, sp l = p :: r ∧ sp (b :: l) = (b :: p) :: r := by
  unfold sp
  rw [Lib.count_cons_ne b 58 l h]
  have hp : ([58] : List UInt8).isPrefixOf (b :: l) = false := by simp [List.isPrefixOf, Ne.symm h]
  have hix : Lib.index (b :: l) [58] = if Lib.index l [58] == -1 then -1 else Lib.index l [58] + 1 := by rw [Lib.index, hp]; simp
  by_cases hm : Lib.index l [58] = -1
  · rw [Lib.count_miss hm]
    exact ⟨l, [], rfl, rfl⟩
  · have hge := Lib.index_ge l [58]
    obtain ⟨j, hj⟩ : ∃ j : Nat, Lib.index l [58] = j := ⟨(Lib.index l [58]).toNat, by omega⟩
    have hix' : Lib.index (b :: l) [58] = ((j + 1 : Nat) : Int) := by rw [hix, if_neg (fun e => hm (beq_iff_eq.1 e)), hj]; omega
    rw [Lib.count_hit (by simp) hj, Nat.add_comm, Lib.splitK, Lib.splitK, hj, hix']
    have e1 : ((j : Int) == -1) = false := by simp
    have e2 : (((j + 1 : Nat) : Int) == -1) = false := by simp; omega
    rw [e1, e2]
    refine ⟨_, _, rfl, ?_⟩
    simp
/-- pieces joined by colons -/
def jn : List (List UInt8) → List UInt8
  | [] => []
  | [p] => p
  | p :: q :: r => p ++ 58 :: jn (q :: r)
theorem sp_ex (l : List UInt8) : ∃ p r, sp l = p :: r := by
  cases l with
  | nil => exact ⟨_, _, sp_nil⟩
  | cons b l =>
    by_cases h : b = 58
    · subst h; exact ⟨_, _, sp_colon l⟩
    · obtain ⟨p, r, _, e⟩ := sp_ne b l h; exact ⟨_, _, e⟩
theorem jn_sp : ∀ l : List UInt8, jn (sp l) = l
  | [] => by rw [sp_nil]; rfl
  | b :: l => by
    by_cases h : b = 58
    · subst h
      rw [sp_colon]
      obtain ⟨p, r, e⟩ := sp_ex l
      have ih := jn_sp l
      rw [e] at ih ⊢
      show [] ++ 58 :: jn (p :: r) = _
      rw [ih]; rfl
    · obtain ⟨p, r, e1, e2⟩ := sp_ne b l h
      have ih := jn_sp l
      rw [e1] at ih
      rw [e2, ← ih]
      cases r with
      | nil => rfl
      | cons q r => rfl
/-- a piece is two digits -/
def okp (p : List UInt8) : Prop := p.length = 2 ∧ 0 ≤ dx (p.getD 0 0) ∧ 0 ≤ dx (p.getD 1 0)
theorem ne_colon (c : UInt8) (h : 0 ≤ dx c) : c ≠ 58 := by
  intro e; subst e; revert h; decide +kernel
theorem sp_two (a b : UInt8) (l : List UInt8) (ha : a ≠ 58) (hb : b ≠ 58) : sp (a :: b :: 58 :: l) = [a, b] :: sp l := by
  obtain ⟨p, r, e1, e2⟩ := sp_ne b (58 :: l) hb
  rw [sp_colon] at e1
  injection e1 with e3 e4
  subst e3 e4
  obtain ⟨p', r', e5, e6⟩ := sp_ne a (b :: 58 :: l) ha
  rw [e2] at e5
  injection e5 with e7 e8
  subst e7 e8
  exact e6
theorem sp_last (a b : UInt8) (ha : a ≠ 58) (hb : b ≠ 58) : sp [a, b] = [[a, b]] := by
  obtain ⟨p, r, e1, e2⟩ := sp_ne b [] hb
  rw [sp_nil] at e1
  injection e1 with e3 e4
  subst e3 e4
  obtain ⟨p', r', e5, e6⟩ := sp_ne a [b] ha
  rw [e2] at e5
  injection e5 with e7 e8
  subst e7 e8
  exact e6
theorem two_of (p : List UInt8) (h : p.length = 2) : p = [p.getD 0 0, p.getD 1 0] := by
  match p, h with
  | [a, b], _ => rfl
theorem six_of (P : List (List UInt8)) (h : P.length = 6) : P = [P.getD 0 [], P.getD 1 [], P.getD 2 [], P.getD 3 [], P.getD 4 [], P.getD 5 []] := by
  match P, h with
  | [a, b, c, d, e, f], _ => rfl
/-- all pieces are two digits, and there are six -/
def tok (P : List (List UInt8)) : Prop := P.length = 6 ∧ ∀ j, j < 6 → okp (P.getD j [])
/-- the number that a piece says -/
def vP (P : List (List UInt8)) (j : Nat) : Int := 16 * dx ((P.getD j []).getD 0 0) + dx ((P.getD j []).getD 1 0)
/-- the address' cells, as far as k of the pieces are taken -/
def pt (P : List (List UInt8)) (k : Nat) : Array Value := ((List.range 6).map fun j => Value.int .u8 (if j < k then vP P j else 0)).toArray
theorem pt_step (P : List (List UInt8)) (k : Nat) (h : k < 6) : (pt P k).setIfInBounds k (.int .u8 (vP P k)) = pt P (k + 1) := by
  have hk : k = 0 ∨ k = 1 ∨ k = 2 ∨ k = 3 ∨ k = 4 ∨ k = 5 := by omega
  rcases hk with rfl | rfl | rfl | rfl | rfl | rfl <;> simp [pt, List.range_succ]
theorem pt_one (P : List (List UInt8)) (k : Nat) : (pt P k).all (·.oneCell') = true := by simp [pt, Value.oneCell', List.range_succ]
theorem pt_size (P : List (List UInt8)) (k : Nat) : (pt P k).size = 6 := by simp [pt]
theorem pt_zero (P : List (List UInt8)) : pt P 0 = #[.int .u8 0, .int .u8 0, .int .u8 0, .int .u8 0, .int .u8 0, .int .u8 0] := by simp [pt, List.range_succ]
theorem tok_of (s : ByteArray) (hs : s.size = 17) (h : aok s) : tok (sp s.data.toList) := by
  have hl : s.data.toList.length = 17 := by simpa using hs
  have c1 := colon s 1 (h 1 (by omega)) (by omega)
  have c2 := colon s 2 (h 2 (by omega)) (by omega)
  have c3 := colon s 3 (h 3 (by omega)) (by omega)
  have c4 := colon s 4 (h 4 (by omega)) (by omega)
  have c5 := colon s 5 (h 5 (by omega)) (by omega)
  have o0 := h 0 (by omega)
  have o1 := h 1 (by omega)
  have o2 := h 2 (by omega)
  have o3 := h 3 (by omega)
  have o4 := h 4 (by omega)
  have o5 := h 5 (by omega)
  have e : s.data.toList = [by8 s 0, by8 s 1, 58, by8 s 3, by8 s 4, 58, by8 s 6, by8 s 7, 58, by8 s 9, by8 s 10, 58, by8 s 12, by8 s 13, 58, by8 s 15, by8 s 16] := by
    refine (split17 s.data.toList hl).trans ?_
    have g1 : s.data.toList.getD 2 0 = 58 := c1
    have g2 : s.data.toList.getD 5 0 = 58 := c2
    have g3 : s.data.toList.getD 8 0 = 58 := c3
    have g4 : s.data.toList.getD 11 0 = 58 := c4
    have g5 : s.data.toList.getD 14 0 = 58 := c5
    rw [g1, g2, g3, g4, g5]
    rfl
  have f : sp s.data.toList = [[by8 s 0, by8 s 1], [by8 s 3, by8 s 4], [by8 s 6, by8 s 7], [by8 s 9, by8 s 10], [by8 s 12, by8 s 13], [by8 s 15, by8 s 16]] := by
    rw [e, sp_two _ _ _ (ne_colon _ o0.2.1) (ne_colon _ o0.2.2), sp_two _ _ _ (ne_colon _ o1.2.1) (ne_colon _ o1.2.2), sp_two _ _ _ (ne_colon _ o2.2.1) (ne_colon _ o2.2.2),
      sp_two _ _ _ (ne_colon _ o3.2.1) (ne_colon _ o3.2.2), sp_two _ _ _ (ne_colon _ o4.2.1) (ne_colon _ o4.2.2), sp_last _ _ (ne_colon _ o5.2.1) (ne_colon _ o5.2.2)]
  rw [f]
  exact ⟨rfl, six ⟨rfl, o0.2⟩ ⟨rfl, o1.2⟩ ⟨rfl, o2.2⟩ ⟨rfl, o3.2⟩ ⟨rfl, o4.2⟩ ⟨rfl, o5.2⟩⟩
theorem of_tok (s : ByteArray) (h : tok (sp s.data.toList)) : s.size = 17 ∧ aok s ∧ pt (sp s.data.toList) 6 = pa s 6 := by
  obtain ⟨P, hP⟩ : ∃ P, P = sp s.data.toList := ⟨_, rfl⟩
  rw [← hP] at h ⊢
  obtain ⟨h6, ho⟩ := h
  have o0 := ho 0 (by omega)
  have o1 := ho 1 (by omega)
  have o2 := ho 2 (by omega)
  have o3 := ho 3 (by omega)
  have o4 := ho 4 (by omega)
  have o5 := ho 5 (by omega)
  have e := six_of P h6
  rw [two_of _ o0.1, two_of _ o1.1, two_of _ o2.1, two_of _ o3.1, two_of _ o4.1, two_of _ o5.1] at e
  have j := jn_sp s.data.toList
  rw [← hP, e] at j
  have es : s = ⟨([(P.getD 0 []).getD 0 0, (P.getD 0 []).getD 1 0, 58, (P.getD 1 []).getD 0 0, (P.getD 1 []).getD 1 0, 58, (P.getD 2 []).getD 0 0, (P.getD 2 []).getD 1 0, 58, (P.getD 3 []).getD 0 0, (P.getD 3 []).getD 1 0, 58, (P.getD 4 []).getD 0 0, (P.getD 4 []).getD 1 0, 58, (P.getD 5 []).getD 0 0, (P.getD 5 []).getD 1 0] : List UInt8).toArray⟩ := bytes_ext (j.symm.trans rfl)
  have r := parse17 _ _ _ _ _ _ _ _ _ _ _ _ s es o0.2.1 o0.2.2 o1.2.1 o1.2.2 o2.2.1 o2.2.2 o3.2.1 o3.2.2 o4.2.1 o4.2.2 o5.2.1 o5.2.2
  refine ⟨by rw [es]; rfl, r.1, ?_⟩
  rw [r.2]
  simp [pt, List.range_succ, vP]
end Go.Proofs.YtolhmmnaohadcaaDoor.ethsp
