/- Bytes that a law has made of a string: what its cells hold, also behind writes; and the mathematics of swapped bytes. -/
import Derived.Test.YtendklfngpoljabSumLives
import Derived.Below
import Derived.Laws.IdiomStrings
namespace Go.Proofs.Ytendklfngpoljab.srow
open Go.ChangeShapes Go.WideShapes Go.ChangeAt Go.RowKit
open Go.Proofs.Ytendklfngpoljab.SM Go.Proofs.Ytendklfngpoljab.sumw

/-- block b holds the bytes l, and they may be written -/
def Row (w : World) (b : Nat) (l : List UInt8) : Prop :=
  ∀ j (hj : j < l.length), w.cell? ⟨b, j, none⟩ = some (.int .u8 (l[j].toNat : Int)) ∧ w.frozen? ⟨b, j, none⟩ = false
theorem Row.quiet {w w' : World} {b : Nat} {l : List UInt8} (h : Row w b l) (q : Qd w w') : Row w' b l := by
  obtain ⟨m, rfl⟩ := q; exact h
theorem Row.drew {w : World} {b : Nat} {l : List UInt8} (h : Row w b l) : Row w.drew b l := h
/-- the row that a string's conversion makes -/
theorem Row.made (w : World) (s : ByteArray) (cap : Nat) (e : TypeId) :
    Row (w.alloc (.cells (bytesRow s cap) e ((bytesRow s cap).size, (bytesRow s cap).size + 1))) w.heap.size s.data.toList := by
  intro j hj
  have hj' : j < s.data.size := by simpa using hj
  have hj2 : j < s.size := hj'
  have hz : j < (bytesRow s cap).size := by simp [bytesRow]; omega
  refine ⟨?_, ?_⟩
  · rw [World.cell?_alloc_mark]
    simp [bytesRow, Array.getElem?_append, hj2]
  · rw [World.frozen?_alloc_mark]
    simp; omega
/-- one byte written -/
theorem Row.put {w : World} {b : Nat} {l : List UInt8} (h : Row w b l) (i : Nat) (hi : i < l.length) (x : UInt8) :
    Row (w.setCell ⟨b, i, none⟩ (.int .u8 (x.toNat : Int))) b (l.set i x) := by
  intro j hj
  have hj' : j < l.length := by simpa using hj
  refine ⟨?_, by rw [World.frozen?_setCell]; exact (h j hj').2⟩
  by_cases e : j = i
  · subst e
    rw [World.cell?_setCell_same _ _ _ (h j hj').1]
    simp
  · have hne : (⟨b, i, none⟩ : Addr) ≠ ⟨b, j, none⟩ := by
      intro hh; injection hh with _ h2 _; omega
    rw [World.cell?_setCell_other (h := hne), (h j hj').1, List.getElem_set_ne (by omega)]
/-- both bytes of a word swapped -/
def sw : List UInt8 → List UInt8
  | [] => []
  | [b] => [b]
  | b :: c :: r => c :: b :: sw r
theorem sw_snoc : ∀ (p : List UInt8) (x y : UInt8), p.length % 2 = 0 → sw (p ++ [x, y]) = sw p ++ [y, x]
  | [], _, _, _ => rfl
  | [b], _, _, h => by simp at h
  | b :: c :: r, x, y, h => by
      simp only [List.cons_append, sw]
      rw [sw_snoc r x y (by simp only [List.length_cons] at h; omega)]
theorem sw_length : ∀ l : List UInt8, (sw l).length = l.length
  | [] => rfl
  | [_] => rfl
  | b :: c :: r => by simp only [sw, List.length_cons]; rw [sw_length r]
theorem sw_step (l : List UInt8) (k : Nat) (hk : k % 2 = 0) (h : k + 1 < l.length) :
    ((sw (l.take k) ++ l.drop k).set k l[k + 1]).set (k + 1) (l[k]'(by omega)) = sw (l.take (k + 2)) ++ l.drop (k + 2) := by
  have hlen : (sw (l.take k)).length = k := by rw [sw_length, List.length_take]; omega
  have e1 : l.take (k + 2) = l.take k ++ [l[k]'(by omega), l[k + 1]] := by
    have a := List.take_succ_eq_append_getElem h
    have b := List.take_succ_eq_append_getElem (by omega : k < l.length)
    rw [b, List.append_assoc] at a
    exact a
  rw [e1, sw_snoc _ _ _ (by rw [List.length_take]; omega)]
  have d1 : l.drop k = l[k]'(by omega) :: l[k + 1] :: l.drop (k + 2) := by
    rw [List.drop_eq_getElem_cons (by omega : k < l.length), List.drop_eq_getElem_cons h]
  rw [List.set_append_right _ _ (by omega), List.set_append_right _ _ (by omega), hlen, Nat.sub_self, show k + 1 - k = 1 from by omega, d1, List.append_assoc]
  rfl
theorem pw_sw : ∀ l : List UInt8, l.length % 2 = 0 → ∃ a b : Int, 0 ≤ a ∧ 0 ≤ b ∧ pw l = 256 * a + b ∧ pw (sw l) = 256 * b + a
  | [], _ => ⟨0, 0, by omega, by omega, rfl, rfl⟩
  | [_], h => by simp at h
  | x :: y :: r, h => by
      obtain ⟨a, b, h0, h1, e1, e2⟩ := pw_sw r (by simp only [List.length_cons] at h; omega)
      have hx := byte_bd x; have hy := byte_bd y
      exact ⟨a + x.toNat, b + y.toNat, by omega, by omega, by simp only [pw]; rw [e1]; omega, by simp only [sw, pw]; rw [e2]; omega⟩
def rot (n : Int) : Int := 256 * (n % 256) + n / 256
theorem norm_rot (a b : Int) (h0 : 0 ≤ a) (h1 : 0 ≤ b) : norm (256 * b + a) = rot (norm (256 * a + b)) := by
  unfold norm rot
  split
  · rw [if_pos (by omega)]; omega
  · rw [if_neg (by omega)]; omega
theorem sw_sum (l : List UInt8) (h : l.length % 2 = 0) : wsum 0 (sw l) = rot (wsum 0 l) := by
  obtain ⟨a, b, h0, h1, e1, e2⟩ := pw_sw l h
  rw [wsum_norm _ _ (by omega) (by omega), wsum_norm _ _ (by omega) (by omega), Int.zero_add, Int.zero_add, e1, e2]
  exact norm_rot a b h0 h1
theorem rot_bits (n : Int) (h0 : 0 ≤ n) (h1 : n ≤ 65535) : bits .or .u16 (IntKind.u16.wrap (n * 256)) (n / 256) = rot n := by
  rw [IntKind.wrap_u16, u16_or _ _ (by omega) (by omega) (by omega) (by omega)]
  rw [nat_join 8 _ _ (by omega) (by omega)]
  unfold rot; omega
end Go.Proofs.Ytendklfngpoljab.srow
