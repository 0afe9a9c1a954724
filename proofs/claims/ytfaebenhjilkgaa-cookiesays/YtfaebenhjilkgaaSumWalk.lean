/- What package sum's functions answer, and that they change nothing: contracts of Add, Of, Right, Fix and what they call. -/
import Derived.Test.YtfaebenhjilkgaaRows
import Derived.Test.YtfaebenhjilkgaaSumMath
import Derived.WalkKit
import Derived.ProofKit
import Derived.OpenShut
import Derived.ShutString
import Derived.WalkSpells
import Derived.WalkLawsBesides
import Derived.Deep.QuietTactic
import Derived.BigQuiet
namespace Go.Proofs.Ytfaebenhjilkgaa.sumw
open Go.ChangeShapes Go.WideShapes Go.ChangeAt Go.RowKit
open Go.Proofs.Ytfaebenhjilkgaa.SM

theorem ret_int {k : IntKind} {a b : Int} (h : a = b) : Ending.returned (.int k a) = .returned (.int k b) := by rw [h]

/-- the world has at most drawn -/
def Qd (w w' : World) : Prop := ∃ m, w' = w.drewN m
theorem Qd.refl (w : World) : Qd w w := ⟨0, rfl⟩
theorem Qd.drewN {w w' : World} (h : Qd w w') (n : Nat) : Qd w (w'.drewN n) := by
  obtain ⟨m, rfl⟩ := h; exact ⟨m + n, by rw [World.drewN_drewN]⟩
theorem Qd.trans {w w' w'' : World} (h : Qd w w') (h' : Qd w' w'') : Qd w w'' := by
  obtain ⟨m, rfl⟩ := h'; exact h.drewN m
theorem Qd.quiet {P : Program} {f : FuncId} {args : Array Value} {w : World} {n : Nat} {v : Value}
    (h : Calls P f args (w.drewN n) fun e w' => e = .returned v ∧ Qd (w.drewN n) w') : Calls P f args (w.drewN n) fun e w'' => e = .returned v ∧ ∃ m, w'' = w.drewN m :=
  Calls.quiet_of h

end Go.Proofs.Ytfaebenhjilkgaa.sumw
