/- A region that draws its order, whose two last operations (a store, an assign) wait for all others: those only read, and their calls only make new memory. -/
import Derived.Test.YtpcknkpddinccaaDoorLast
namespace Go.Proofs.YtpcknkpddinccaaDoor.lst
section
variable {P : Program} {Q : Exit → Act → World → Prop}
theorem wp_region_last2 {id : Nat} {a : Act} {w : World} {l l1 l' : List Oper} {o1 o2 : Oper} (C : World → Prop) (hm : P.follows .mixedOrders = true) (hl : l.dropLast = l1) (ho : l.getLast? = some o2) (hl1 : l1.dropLast = l') (ho1 : l1.getLast? = some o1)
    (hg : o1.guard = none) (hB : Region.lexB .any l'.toArray = true) (hL1 : lastB l' o1 = true) (hL2 : lastB l1 o2 = true) (hC : C w.drew)
    (h : wpQuiet P l'.toArray (fun w' => ∃ i : cls.In C, w' = i.W) (fun a' => ∀ w', (∃ i : cls.In C, w' = i.W) → wpList P l.toArray Q [o1, o2] a' w') l' a) :
    (Code.region id l.toArray true).wp P Q a w := by
  have e : l = l1 ++ [o2] := by
    obtain ⟨ys, rfl⟩ := List.getLast?_eq_some_iff.1 ho
    simp at hl
    rw [hl]
  have e1 : l1 = l' ++ [o1] := by
    obtain ⟨ys, rfl⟩ := List.getLast?_eq_some_iff.1 ho1
    simp at hl1
    rw [hl1]
  subst e e1
  clear hl ho hl1 ho1
  have H1 := last_of hL1
  have H2 := last_of hL2
  have hop2 : ∀ a w, wpList P (l' ++ [o1] ++ [o2]).toArray Q [o2] a w → wpOp P (l' ++ [o1] ++ [o2]).toArray Q (l' ++ [o1]).length (Q .normal) a w := by
    intro a w hh
    unfold wpOp
    simp only [List.getElem?_toArray, List.getElem?_concat_length]
    exact hh
  have hop1 : ∀ a w, wpList P (l' ++ [o1] ++ [o2]).toArray Q [o1, o2] a w →
      wpOp P (l' ++ [o1]).toArray (Q0 P (l' ++ [o1] ++ [o2]).toArray (l' ++ [o1]).length Q) l'.length (Q0 P (l' ++ [o1] ++ [o2]).toArray (l' ++ [o1]).length Q .normal) a w := by
    intro a w hh
    have hw : ∀ y, Region.wanted o1 y = true := fun y => by simp [Region.wanted, hg]
    unfold wpOp
    simp only [List.getElem?_toArray, List.getElem?_concat_length, hw, if_true]
    unfold wpList at hh
    rw [hw, if_pos rfl] at hh
    have hq : ∀ e a w, e ≠ .normal → Q e a w → Q0 P (l' ++ [o1] ++ [o2]).toArray (l' ++ [o1]).length Q e a w := by
      intro e a w he hh
      cases e <;> first | exact absurd rfl he | exact hh
    exact hh.imp (upon_q (fun a w => hop2 a w) hq) fun ⟨x, y⟩ => ⟨x, let ⟨a, w, z⟩ := y; ⟨a, w, hq _ _ _ (by simp) z⟩⟩
  refine wp_region_any hm ?_
  have hz : (l' ++ [o1] ++ [o2]).toArray.size = l'.length + 1 + 1 := by simp
  rw [hz, show Array.replicate (l'.length + 1 + 1) false = ((Array.replicate l'.length false).push false).push false from (by simp [Array.replicate_succ])]
  refine wpAny_snoc H2 _ _ _ _ (by simp) ?_
  refine wpAny_snoc H1 _ _ _ _ (by simp) ?_
  simp only [Region.lexB, Bool.and_eq_true] at hB
  refine wpAny_of_quiet (C := fun w' => ∃ i : cls.In C, w' = i.W) (Q := fun a' => ∀ w', (∃ i : cls.In C, w' = i.W) → wpList P (l' ++ [o1] ++ [o2]).toArray Q [o1, o2] a' w') (fun _ w' hw' h => hop1 _ _ (h w' hw')) _ _ _ _ ⟨⟨w.drew, hC⟩, rfl⟩ ?_
  have := wpAnyQ_lex (C := fun w' => ∃ i : cls.In C, w' = i.W) (md := .any) hB.1 l' 0 (Array.replicate l'.length false) a (by simp) (by simpa using hB.2) h
  simpa using this
end
end Go.Proofs.YtpcknkpddinccaaDoor.lst
