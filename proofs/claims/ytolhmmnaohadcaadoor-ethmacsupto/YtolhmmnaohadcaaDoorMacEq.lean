/- An address is equal to itself. -/
import Derived.Test.YtolhmmnaohadcaaDoorRows
import Derived.WalkKit
import Derived.ProofKit
import Derived.DeepKeys
namespace Go.Proofs.YtolhmmnaohadcaaDoor.ethl
open Go.ChangeShapes Go.WideShapes Go.ChangeAt Go.RowKit

theorem mac_eq (a0 a1 a2 a3 a4 a5 : Int) (h0 : (Lit.int .u8 a0).wf = true) (h1 : (Lit.int .u8 a1).wf = true) (h2 : (Lit.int .u8 a2).wf = true) (h3 : (Lit.int .u8 a3).wf = true) (h4 : (Lit.int .u8 a4).wf = true) (h5 : (Lit.int .u8 a5).wf = true) (d : Nat) (w : World) :
    (Op.equalIn (d + 2) 23 (.agg #[.int .u8 a0, .int .u8 a1, .int .u8 a2, .int .u8 a3, .int .u8 a4, .int .u8 a5]) (.agg #[.int .u8 a0, .int .u8 a1, .int .u8 a2, .int .u8 a3, .int .u8 a4, .int .u8 a5])).run Tryd.prog w = .ok true w := by
  have c1 : Tryd.prog.cellsOf 5 = 1 := by kernel_rfl
  have c6 : Tryd.prog.cellsOf 23 = 6 := by kernel_rfl
  have hk : ∀ a : Int, (Lit.int .u8 a).wf = true → Tryd.prog.keyLits 1 5 [.int .u8 a] = some [.int .u8 a] := fun a ha => by
    simp [Program.keyLits, Tryd.underlying5, ha]
  have hL : Tryd.prog.keyLits 2 23 [.int .u8 a0, .int .u8 a1, .int .u8 a2, .int .u8 a3, .int .u8 a4, .int .u8 a5] = some [.int .u8 a0, .int .u8 a1, .int .u8 a2, .int .u8 a3, .int .u8 a4, .int .u8 a5] := by
    unfold Program.keyLits
    simp [Tryd.underlying23, c1, c6, List.range_succ, hk _ h0, hk _ h1, hk _ h2, hk _ h3, hk _ h4, hk _ h5]
  have hf : Value.formed Tryd.prog 23 (.agg #[.int .u8 a0, .int .u8 a1, .int .u8 a2, .int .u8 a3, .int .u8 a4, .int .u8 a5]) = true := by
    simp [Value.formed, Tryd.underlying23, c6]
  obtain ⟨r, hr, hiff⟩ := run_equalIn_deep (P := Tryd.prog) d 2 23 (by kernel_rfl) w 2 2 _ _ _ _ hf hf hL hL
  rw [hr, hiff.2 rfl]
end Go.Proofs.YtolhmmnaohadcaaDoor.ethl
