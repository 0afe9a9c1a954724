/- A region that draws its order, whose operations only read and whose calls only make new memory: one walk in the order of the text, in every world of a class. -/
import Derived.Deep.QuietTactic
import Derived.BigQuiet
import Derived.Below
namespace Go.Proofs.Ytbhejjpkmnldhaa.cls

/-- a world of the class C -/
structure In (C : World → Prop) where
  W : World
  h : C W
theorem wp_region_class {P : Program} {id : Nat} {Q : Exit → Act → World → Prop} {a : Act} {w : World} {l : List Oper} (C : World → Prop) (hm : P.follows .mixedOrders = true) (hB : Region.lexB .any l.toArray = true)
    (hC : C w.drew) (h : wpQuiet P l.toArray (fun w' => ∃ i : In C, w' = i.W) (fun a' => ∀ w', (∃ i : In C, w' = i.W) → Q .normal a' w') l a) : (Code.region id l.toArray true).wp P Q a w :=
  wp_region_quiet (C := fun w' => ∃ i : In C, w' = i.W) hm hB ⟨⟨w.drew, hC⟩, rfl⟩ (by simpa using h)
/-- a callee's contract, in a world of the class -/
theorem call_class {P : Program} {f : FuncId} {args : Array Value} {C : World → Prop} {x : In C} {v : Value} {R : World → Prop}
    (h : Calls P f args x.W fun e w' => e = .returned v ∧ R w') (hR : ∀ w', R w' → C w') : Calls P f args x.W fun e w' => e = .returned v ∧ ∃ i : In C, w' = i.W :=
  h.mono fun _ w' ⟨he, hr⟩ => ⟨he, ⟨w', hR w' hr⟩, rfl⟩
end Go.Proofs.Ytbhejjpkmnldhaa.cls
