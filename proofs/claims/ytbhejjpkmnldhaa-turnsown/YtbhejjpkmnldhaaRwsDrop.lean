/- Rows of structs that are read, cut: the first of them, all behind. -/
import Derived.Test.YtbhejjpkmnldhaaRwsRd
namespace Go.Proofs.Ytbhejjpkmnldhaa.rwd
open Go.ChangeShapes Go.WideShapes Go.ChangeAt Go.RowKit
open Go.Proofs.Ytbhejjpkmnldhaa.boxes Go.Proofs.Ytbhejjpkmnldhaa.rwr
open Go.Proofs.Ytbhejjpkmnldhaa.rws (Knd Own)

section
variable {α : Type} {K : Knd α}
theorem rd_take {w : World} {sa : Option Addr} {sc : Nat} {X : List α} (h : Rd K w (.slice sa X.length sc) X) (i : Nat) (hi : i ≤ X.length) : Rd K w (.slice sa i sc) (X.take i) := by
  obtain ⟨sa', sc', e, hm, hf, hc⟩ := h
  simp only [Value.slice.injEq] at e
  obtain ⟨rfl, -, rfl⟩ := e
  have hl : (X.take i).length = i := by rw [List.length_take]; omega
  refine ⟨sa, sc, by rw [hl], by omega, ⟨by have := hf.le; omega, hf.nil⟩, fun h0 => ?_⟩
  obtain ⟨b, off, rfl, hb, hx⟩ := hc (by omega)
  refine ⟨b, off, rfl, hb, fun j x hj t ht => hx j x ?_ t ht⟩
  rw [List.getElem?_take] at hj
  split at hj
  · exact hj
  · cases hj
theorem rd_drop {w : World} {sa : Option Addr} {sc : Nat} {X : List α} (h : Rd K w (.slice sa X.length sc) X) (j : Nat) (hj : j ≤ X.length) : Rd K w (sliced sa j X.length sc K.k) (X.drop j) := by
  obtain ⟨sa', sc', e, hm, hf, hc⟩ := h
  simp only [Value.slice.injEq] at e
  obtain ⟨rfl, -, rfl⟩ := e
  have hl : (X.drop j).length = X.length - j := by rw [List.length_drop]
  have hle := hf.le
  refine ⟨_, sc - j, by unfold sliced; rw [hl], by omega, ⟨by omega, fun he => ?_⟩, fun h0 => ?_⟩
  · split at he
    · omega
    · have := hf.nil (by simpa using he); omega
  · obtain ⟨b, off, rfl, hb, hx⟩ := hc (by omega)
    have hadd : (⟨b, off, none⟩ : Addr).add (j * K.k) = ⟨b, off + j * K.k, none⟩ := by unfold Addr.add; split <;> simp_all
    refine ⟨b, off + j * K.k, ?_, hb, fun t x ht i hi => ?_⟩
    · rw [if_neg (by omega)]; simp [hadd]
    · rw [List.getElem?_drop] at ht
      have := hx (j + t) x ht i hi
      rw [Nat.add_mul, ← Nat.add_assoc] at this
      exact this
end
end Go.Proofs.Ytbhejjpkmnldhaa.rwd
