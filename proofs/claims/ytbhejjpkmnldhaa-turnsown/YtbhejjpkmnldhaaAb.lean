/- Regions that draw their order, in which calls only make new memory: the class of the worlds in which all that there was stands. -/
import Derived.Test.YtbhejjpkmnldhaaClass
import Derived.Test.YtbhejjpkmnldhaaBoxes
namespace Go.Proofs.Ytbhejjpkmnldhaa.ab
open Go.ChangeShapes Go.WideShapes Go.ChangeAt Go.RowKit
open Go.Proofs.Ytbhejjpkmnldhaa.cls Go.Proofs.Ytbhejjpkmnldhaa.boxes

/-- all that lies in V lies in W -/
def Ab (V W : World) : Prop := Below V.heap.size V W
theorem Ab.drew (V : World) : Ab V V.drew := ⟨rfl, rfl, rfl, Nat.le_refl _, fun _ _ => rfl⟩
theorem Ab.refl (V : World) : Ab V V := Below.refl _ _
theorem ne (V : World) : Nonempty (In (Ab V)) := ⟨⟨V, Ab.refl V⟩⟩
theorem cell {V : World} {b o : Nat} {r : Option Value} (h : V.cell? ⟨b, o, none⟩ = r) (hb : b < V.heap.size) : ∀ x : In (Ab V), x.W.cell? ⟨b, o, none⟩ = r := fun x => (Below.cell x.h (p := ⟨b, o, none⟩) hb).trans h
theorem cells {V : World} {b : Nat} {F : Array Value} {t : TypeId} (h : Blk V b F t) : ∀ (x : In (Ab V)) o, x.W.cell? ⟨b, o, none⟩ = F[o]? := fun x o => (Below.cell x.h (p := ⟨b, o, none⟩) h.lt).trans (h.cell o)
theorem call {P : Program} {f : FuncId} {args : Array Value} {V : World} {x : In (Ab V)} {v : Value} (h : Calls P f args x.W fun e w' => e = .returned v ∧ Below x.W.heap.size x.W w') : Calls P f args x.W fun e w' => e = .returned v ∧ ∃ i : In (Ab V), w' = i.W :=
  call_class h fun _ hb => Below.trans x.h (hb.mono (Below.size x.h))
theorem call_same {P : Program} {f : FuncId} {args : Array Value} {V : World} {x : In (Ab V)} {v : Value} (h : Calls P f args x.W fun e w' => e = .returned v ∧ w' = x.W) : Calls P f args x.W fun e w' => e = .returned v ∧ ∃ i : In (Ab V), w' = i.W :=
  call_class h fun _ hb => by rw [hb]; exact x.h
theorem region {P : Program} {id : Nat} {Q : Exit → Act → World → Prop} {a : Act} {w : World} {l : List Oper} (hm : P.follows .mixedOrders = true) (hB : Region.lexB .any l.toArray = true)
    (h : wpQuiet P l.toArray (fun w' => ∃ i : In (Ab w), w' = i.W) (fun a' => ∀ w', (∃ i : In (Ab w), w' = i.W) → Q .normal a' w') l a) : (Code.region id l.toArray true).wp P Q a w :=
  wp_region_class (Ab w) hm hB (Ab.drew w) h
end Go.Proofs.Ytbhejjpkmnldhaa.ab
