/- A text's pieces between dots: plain mathematics; when they are the four numbers of an address, as they are shown. -/
import Derived.Lib.SplitLaws
import Derived.Lib.ItoaNum
import Derived.Lib.Atoi
import Derived.Lib.ItoaMem
namespace Go.Proofs.YtedbjhpajpakpaaDoor.dotm
open Go.Lib (decDigits)

/-- the pieces between dots -/
def sp (l : List UInt8) : List (List UInt8) := Lib.splitK [46] 0 (Lib.count l [46]) l
theorem sp_nil : sp [] = [[]] := by
  unfold sp; rw [Lib.count_miss (by simp [Lib.index])]; rfl
theorem sp_dot (l : List UInt8) : sp (46 :: l) = [] :: sp l := by
  unfold sp
  rw [Lib.count_cons_eq, Nat.add_comm]
  have hix : Lib.index (46 :: l) [46] = 0 := by rw [Lib.index]; simp [List.isPrefixOf]
  rw [Lib.splitK, hix]
  simp
theorem sp_ne (b : UInt8) (l : List UInt8) (h : b ≠ 46) : ∃ p r, sp l = p :: r ∧ sp (b :: l) = (b :: p) :: r := by
  unfold sp
  rw [Lib.count_cons_ne b 46 l h]
  have hp : ([46] : List UInt8).isPrefixOf (b :: l) = false := by simp [List.isPrefixOf, Ne.symm h]
  have hix : Lib.index (b :: l) [46] = if Lib.index l [46] == -1 then -1 else Lib.index l [46] + 1 := by rw [Lib.index, hp]; simp
  by_cases hm : Lib.index l [46] = -1
  · rw [Lib.count_miss hm]
    exact ⟨l, [], rfl, rfl⟩
  · have hge := Lib.index_ge l [46]
    obtain ⟨j, hj⟩ : ∃ j : Nat, Lib.index l [46] = j := ⟨(Lib.index l [46]).toNat, by omega⟩
    have hix' : Lib.index (b :: l) [46] = ((j + 1 : Nat) : Int) := by rw [hix, if_neg (fun e => hm (beq_iff_eq.1 e)), hj]; omega
    rw [Lib.count_hit (by simp) hj, Nat.add_comm, Lib.splitK, Lib.splitK, hj, hix']
    have e1 : ((j : Int) == -1) = false := by simp
    have e2 : (((j + 1 : Nat) : Int) == -1) = false := by simp; omega
    rw [e1, e2]
    refine ⟨_, _, rfl, ?_⟩
    simp
/-- pieces joined by dots -/
def jn : List (List UInt8) → List UInt8
  | [] => []
  | [p] => p
  | p :: q :: r => p ++ 46 :: jn (q :: r)
theorem sp_ex (l : List UInt8) : ∃ p r, sp l = p :: r := by
  cases l with
  | nil => exact ⟨_, _, sp_nil⟩
  | cons b l =>
    by_cases h : b = 46
    · subst h; exact ⟨_, _, sp_dot l⟩
    · obtain ⟨p, r, _, e⟩ := sp_ne b l h; exact ⟨_, _, e⟩
theorem jn_sp : ∀ l : List UInt8, jn (sp l) = l
  | [] => by rw [sp_nil]; rfl
  | b :: l => by
    by_cases h : b = 46
    · subst h
      rw [sp_dot]
      obtain ⟨p, r, e⟩ := sp_ex l
      have ih := jn_sp l
      rw [e] at ih ⊢
      show [] ++ 46 :: jn (p :: r) = _
      rw [ih]; rfl
    · obtain ⟨p, r, e1, e2⟩ := sp_ne b l h
      have ih := jn_sp l
      rw [e1] at ih
      rw [e2, ← ih]
      cases r with
      | nil => rfl
      | cons q r => rfl
theorem sp_app : ∀ (p l : List UInt8), (∀ x ∈ p, x ≠ 46) → sp (p ++ 46 :: l) = p :: sp l
  | [], l, _ => sp_dot l
  | b :: p, l, h => by
    obtain ⟨p', r', e1, e2⟩ := sp_ne b (p ++ 46 :: l) (h b (by simp))
    rw [sp_app p l (fun x hx => h x (by simp [hx]))] at e1
    injection e1 with e3 e4
    subst e3 e4
    exact e2
theorem sp_one : ∀ (p : List UInt8), (∀ x ∈ p, x ≠ 46) → sp p = [p]
  | [], _ => sp_nil
  | b :: p, h => by
    obtain ⟨p', r', e1, e2⟩ := sp_ne b p (h b (by simp))
    rw [sp_one p (fun x hx => h x (by simp [hx]))] at e1
    injection e1 with e3 e4
    subst e3 e4
    exact e2
theorem jn_mem_len : ∀ (P : List (List UInt8)) (p : List UInt8), p ∈ P → p.length ≤ (jn P).length
  | [q], p, h => by simp at h; subst h; exact Nat.le_refl _
  | q :: r :: R, p, h => by
    rcases List.mem_cons.1 h with e | h
    · subst e; simp [jn]
    · have := jn_mem_len (r :: R) p h
      simp [jn]; omega
theorem piece_len (l p : List UInt8) (h : p ∈ sp l) : p.length ≤ l.length := by
  have := jn_mem_len (sp l) p h
  rwa [jn_sp] at this

theorem dec_one (n : Nat) (h : n < 10) : decDigits n = [UInt8.ofNat (48 + n)] := Lib.decDigits_one h
theorem dec_two (n : Nat) (h : ¬ n < 10) (h' : n < 100) : decDigits n = [UInt8.ofNat (48 + n / 10), UInt8.ofNat (48 + n % 10)] := Lib.decDigits_two h h'
theorem dec_three (n : Nat) (h : ¬ n < 100) (h' : n < 1000) : decDigits n = [UInt8.ofNat (48 + n / 10 / 10), UInt8.ofNat (48 + n / 10 % 10), UInt8.ofNat (48 + n % 10)] := by
  rw [Lib.decDigits, dif_neg (by omega), Lib.decDigits_two (by omega) (by omega)]; rfl
/-- the digits of a number below 256 -/
def d3 (n : Nat) : List UInt8 :=
  if n < 10 then [UInt8.ofNat (48 + n)] else if n < 100 then [UInt8.ofNat (48 + n / 10), UInt8.ofNat (48 + n % 10)] else [UInt8.ofNat (48 + n / 10 / 10), UInt8.ofNat (48 + n / 10 % 10), UInt8.ofNat (48 + n % 10)]
theorem dec_d3 (n : Nat) (h : n < 256) : decDigits n = d3 n := by
  unfold d3
  split
  · exact dec_one n (by assumption)
  · split
    · exact dec_two n (by assumption) (by assumption)
    · exact dec_three n (by assumption) (by omega)
theorem d3_atoi : ∀ n : Fin 256, Lib.atoi (d3 n.val) = some (n.val : Int) := by decide +kernel
theorem d3_dot : ∀ n : Fin 256, (d3 n.val).all (fun x => x != 46) = true := by decide +kernel
theorem d3_len : ∀ n : Fin 256, 1 ≤ (d3 n.val).length ∧ (d3 n.val).length ≤ 3 := by decide +kernel
theorem dec_atoi (n : Nat) (h : n < 256) : Lib.atoi (decDigits n) = some (n : Int) := by rw [dec_d3 n h]; exact d3_atoi ⟨n, h⟩
theorem dec_dot (n : Nat) (h : n < 256) : ∀ x ∈ decDigits n, x ≠ 46 := by
  rw [dec_d3 n h]
  intro x hx
  have := List.all_eq_true.1 (d3_dot ⟨n, h⟩) x hx
  simpa using this
/-- a piece is a number below 256, as it is shown -/
def okp (p : List UInt8) : Prop := ∃ n : Nat, n < 256 ∧ p = decDigits n
/-- the number that a piece says -/
def vp (p : List UInt8) : Int := (Lib.atoi p).getD 0
theorem vp_dec (n : Nat) (h : n < 256) : vp (decDigits n) = n := by unfold vp; rw [dec_atoi n h]; rfl
theorem vp_bd (p : List UInt8) (h : okp p) : 0 ≤ vp p ∧ vp p ≤ 255 := by
  obtain ⟨n, hn, rfl⟩ := h
  rw [vp_dec n hn]; omega
/-- what is told by Atoi and by Itoa -/
theorem okp_iff (p : List UInt8) (v : Int) (h : Lib.atoi p = some v) (h0 : 0 ≤ v) (h1 : v ≤ 255) (hi : Lib.itoa v = p) : okp p ∧ vp p = v := by
  obtain ⟨n, rfl⟩ := Int.eq_ofNat_of_zero_le h0
  rw [Lib.itoa_nonneg] at hi
  refine ⟨⟨n, by omega, hi.symm⟩, ?_⟩
  unfold vp; rw [h]; rfl
theorem okp_of (p : List UInt8) (h : okp p) : ∃ v : Int, Lib.atoi p = some v ∧ 0 ≤ v ∧ v ≤ 255 ∧ Lib.itoa v = p := by
  obtain ⟨n, hn, rfl⟩ := h
  exact ⟨n, dec_atoi n hn, by omega, by omega, Lib.itoa_nonneg n⟩
/-- four pieces, each a number below 256 -/
def tok (P : List (List UInt8)) : Prop := P.length = 4 ∧ ∀ j, j < 4 → okp (P.getD j [])
/-- the address that the first k pieces say -/
def av (P : List (List UInt8)) : Nat → Int
  | 0 => 0
  | k + 1 => 256 * av P k + vp (P.getD k [])
theorem av_bd (P : List (List UInt8)) : ∀ k, (∀ j, j < k → okp (P.getD j [])) → 0 ≤ av P k ∧ av P k < 256 ^ k
  | 0, _ => by simp [av]
  | k + 1, h => by
    have ih := av_bd P k (fun j hj => h j (by omega))
    have b := vp_bd _ (h k (by omega))
    simp only [av]
    have e : (256 : Int) ^ (k + 1) = 256 * 256 ^ k := by rw [Int.pow_succ]; omega
    rw [e]; omega
theorem four_of (P : List (List UInt8)) (h : P.length = 4) : P = [P.getD 0 [], P.getD 1 [], P.getD 2 [], P.getD 3 []] := by
  match P, h with
  | [a, b, c, d], _ => rfl
/-- four numbers, as they are shown, are short -/
theorem tok_len (l : List UInt8) (h : tok (sp l)) : l.length ≤ 15 := by
  have e := four_of _ h.1
  have len : ∀ j, j < 4 → ((sp l).getD j []).length ≤ 3 := fun j hj => by
    obtain ⟨n, hn, e⟩ := h.2 j hj
    rw [e, dec_d3 n hn]; exact (d3_len ⟨n, hn⟩).2
  have j := jn_sp l
  rw [e] at j
  have a0 := len 0 (by omega); have a1 := len 1 (by omega); have a2 := len 2 (by omega); have a3 := len 3 (by omega)
  rw [← j]
  simp only [jn, List.length_append, List.length_cons]
  omega
/-- four numbers, shown with dots between -/
theorem sp_shown (a b c d : Nat) (ha : a < 256) (hb : b < 256) (hc : c < 256) (hd : d < 256) :
    sp (decDigits a ++ (46 :: (decDigits b ++ (46 :: (decDigits c ++ (46 :: decDigits d)))))) = [decDigits a, decDigits b, decDigits c, decDigits d] := by
  rw [sp_app _ _ (dec_dot a ha), sp_app _ _ (dec_dot b hb), sp_app _ _ (dec_dot c hc), sp_one _ (dec_dot d hd)]
end Go.Proofs.YtedbjhpajpakpaaDoor.dotm
