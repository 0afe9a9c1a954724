/- Results: a block alone; a block and two slots. -/
import Derived.Test.YtbhejjpkmnldhaaBoxes
namespace Go.Proofs.Ytbhejjpkmnldhaa.boxes
open Go.ChangeShapes Go.WideShapes Go.ChangeAt Go.RowKit

theorem blk_one {fn : Func} {p : Tmp} {ty : TypeId} {R : Ending → World → Prop} {a : Act} {W : World} (h : fn.results = #[.cell p ty]) (hd : a.defers = []) (b : Nat) (F : Array Value) (t : TypeId) (hp : a.tmps.getD p undef = .pointer (some ⟨b, 0, none⟩)) (k : Blk W b F t)
    (d : TypeDesc) (hu : Try.prog.underlying ty = some d) (hdd : wideD d = true) (n : Nat) (hi : (Try.prog.info? ty).map (·.size) = some n) (hn : F.size = n)
    (hR : R (.returned (.agg F)) W) : bodyPost Try.prog fn R .ret a W := by
  refine bodyPost_ret (v := .agg F) ?_ hd hR
  simp only [results, h]
  simp [Sem.run_bind, Result.andThen]
  rw [show a.tmps[p]?.getD undef = .pointer (some ⟨b, 0, none⟩) from (by simpa using hp)]
  simp [asAddr, run_loadVar_row W b t ty F (0, 0) d k hu (by cases d <;> first | rfl | cases hdd) (by rw [hn]; exact hi)]
theorem blk_ret3 {fn : Func} {p t3 t4 : Tmp} {ty : TypeId} {R : Ending → World → Prop} {a : Act} {W : World} (h : fn.results = #[.cell p ty, .tmp t3, .tmp t4]) (hd : a.defers = []) (b : Nat) (F : Array Value) (t : TypeId) (hp : a.tmps.getD p undef = .pointer (some ⟨b, 0, none⟩)) (k : Blk W b F t)
    (d : TypeDesc) (hu : Try.prog.underlying ty = some d) (hdd : wideD d = true) (n : Nat) (hi : (Try.prog.info? ty).map (·.size) = some n) (hn : F.size = n)
    (hR : R (.returned (.tuple #[.agg F, a.tmps.getD t3 undef, a.tmps.getD t4 undef])) W) : bodyPost Try.prog fn R .ret a W := by
  refine bodyPost_ret (v := .tuple #[.agg F, a.tmps.getD t3 undef, a.tmps.getD t4 undef]) ?_ hd hR
  have hp' : a.tmps[p]?.getD undef = .pointer (some ⟨b, 0, none⟩) := by simpa using hp
  have hl := run_loadVar_row (P := Try.prog) W b t ty F (0, 0) d k hu (by cases d <;> first | rfl | cases hdd) (by rw [hn]; exact hi)
  simp [results, h, Result.andThen, hp', asAddr, hl]
end Go.Proofs.Ytbhejjpkmnldhaa.boxes
