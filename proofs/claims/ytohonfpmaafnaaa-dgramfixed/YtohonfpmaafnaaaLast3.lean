/- The same as Last2 where operations ahead of the two last ones make memory: those are told, as in Spec. -/
import Derived.Test.YtohonfpmaafnaaaLast2
namespace Go.Proofs.Ytohonfpmaafnaaa.lst
section
variable {P : Program} {Q : Exit → Act → World → Prop}
theorem wp_region_told_last2 {id : Nat} {a : Act} {w : World} {l l1 l0 l' : List Oper} {o1 o2 : Oper} (N : List (Nat × Value)) (J : List (Nat × Tmp)) (S : Nat → Value → World → Prop) (C : World → Prop) (T : World → World → Prop) (hm : P.follows .mixedOrders = true)
    (hd : l.dropLast = l1) (ho : l.getLast? = some o2) (hd1 : l1.dropLast = l0) (ho1 : l1.getLast? = some o1) (hg : o1.guard = none) (hB : spc.okB l0.toArray N J = true) (hL1 : lastB l0 o1 = true) (hL2 : lastB l1 o2 = true) (hC : C w.drew) (hT : ∀ k v w w', T w w' → S k v w → S k v w') (hl : spc.rep N 0 l0 = l')
    (h : wpQuiet P l'.toArray (fun w' => ∃ i : spc.In C, w' = i.W) (fun A => (∀ p ∈ N, ∀ o, l0[p.1]? = some o → spc.Told P l0.toArray J S C T A p.1 p.2 o) ∧ ∀ x w, C w → (∀ q ∈ J, S q.1 (x q.1) w) → wpList P l.toArray Q [o1, o2] (spc.jn x J A) w) l' a) :
    (Code.region id l.toArray true).wp P Q a w := by
  have e : l = l1 ++ [o2] := by
    obtain ⟨ys, rfl⟩ := List.getLast?_eq_some_iff.1 ho
    simp at hd
    rw [hd]
  have e1 : l1 = l0 ++ [o1] := by
    obtain ⟨ys, rfl⟩ := List.getLast?_eq_some_iff.1 ho1
    simp at hd1
    rw [hd1]
  subst e e1
  clear hd ho hd1 ho1
  rw [spc.in_eq] at h
  subst hl
  have H1 := last_of hL1
  have H2 := last_of hL2
  have hop2 : ∀ a w, wpList P (l0 ++ [o1] ++ [o2]).toArray Q [o2] a w → wpOp P (l0 ++ [o1] ++ [o2]).toArray Q (l0 ++ [o1]).length (Q .normal) a w := by
    intro a w hh
    unfold wpOp
    simp only [List.getElem?_toArray, List.getElem?_concat_length]
    exact hh
  have hop1 : ∀ a w, wpList P (l0 ++ [o1] ++ [o2]).toArray Q [o1, o2] a w →
      wpOp P (l0 ++ [o1]).toArray (Q0 P (l0 ++ [o1] ++ [o2]).toArray (l0 ++ [o1]).length Q) l0.length (Q0 P (l0 ++ [o1] ++ [o2]).toArray (l0 ++ [o1]).length Q .normal) a w := by
    intro a w hh
    have hw : ∀ y, Region.wanted o1 y = true := fun y => by simp [Region.wanted, hg]
    unfold wpOp
    simp only [List.getElem?_toArray, List.getElem?_concat_length, hw, if_true]
    unfold wpList at hh
    rw [hw, if_pos rfl] at hh
    have hq : ∀ e a w, e ≠ .normal → Q e a w → Q0 P (l0 ++ [o1] ++ [o2]).toArray (l0 ++ [o1]).length Q e a w := by
      intro e a w he hh
      cases e <;> first | exact absurd rfl he | exact hh
    exact hh.imp (upon_q (fun a w => hop2 a w) hq) fun ⟨x, y⟩ => ⟨x, let ⟨a, w, z⟩ := y; ⟨a, w, hq _ _ _ (by simp) z⟩⟩
  refine wp_region_any hm ?_
  have hz : (l0 ++ [o1] ++ [o2]).toArray.size = l0.length + 1 + 1 := by simp
  rw [hz, show Array.replicate (l0.length + 1 + 1) false = ((Array.replicate l0.length false).push false).push false from (by simp [Array.replicate_succ])]
  refine wpAny_snoc H2 _ _ _ _ (by simp) ?_
  refine wpAny_snoc H1 _ _ _ _ (by simp) ?_
  have := spc.any_told (P := P) (Q := Q0 P (l0 ++ [o1]).toArray l0.length (Q0 P (l0 ++ [o1] ++ [o2]).toArray (l0 ++ [o1]).length Q)) (a := a) (w := w) (l := l0) N J S C T hB hC hT (quiet_mono (fun A hA => ⟨hA.1, fun x w hc hs => hop1 _ _ (hA.2 x w hc hs)⟩) _ _ h)
  simpa using this
end
end Go.Proofs.Ytohonfpmaafnaaa.lst
