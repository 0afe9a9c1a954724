/- The walk through custlaw.SerialTrims. -/
import Derived.Test.YtdmlfnhlgnhkdaaSerTrimmed
namespace Go.Proofs.Ytdmlfnhlgnhkdaa.serts
open Go.ChangeShapes Go.WideShapes Go.ChangeAt Go.RowKit
open Go.Proofs.Ytdmlfnhlgnhkdaa.seri Go.Proofs.Ytdmlfnhlgnhkdaa.sert Go.Proofs.Ytdmlfnhlgnhkdaa.serr

theorem walk (a : Int) (d : ByteArray) (f s : Int) (w : World) (ha : 0 ≤ a ∧ a ≤ 4294967295) (hf : 0 ≤ f ∧ f ≤ 4294967295) (hs : 0 ≤ s ∧ s ≤ 4294967295) :
    Calls Try.prog 4 #[.int .u32 a, .string d, .int .u32 f, .int .u32 s] w fun e w' => e = .returned (.bool true) ∧ Below w.heap.size w w' := by
  by_cases hz : d.size ≤ 5000
  · have CT := fun u => trim_any a d f s u (by omega) (by omega) (by omega)
    have CR := fun u => trimmed_any a d f s u (by omega) (by omega) (by omega) (by omega) (by omega) (by omega) hz
    generalize (tr a d f s).1 = x at CT CR
    generalize (tr a d f s).2 = y at CT CR
    have hz' : ¬ (5000 : Int) < d.size := by omega
    clear ha hf hs hz
    go_enter Try.func4, Try.ntmps4
    go_wp2_with fail
    refine (CT _).mono ?_
    rintro e w1 ⟨rfl, rfl⟩
    go_wp2_with fail
    refine (CR _).mono ?_
    rintro e w1 ⟨rfl, rfl⟩
    go_wp2_with fail
    go_ret
    exact ⟨by simp, Below.refl _ _⟩
  · have hz' : (5000 : Int) < d.size := by omega
    clear ha hf hs hz
    go_enter Try.func4, Try.ntmps4
    go_wp2_with fail
    go_ret
    exact ⟨rfl, Below.refl _ _⟩
end Go.Proofs.Ytdmlfnhlgnhkdaa.serts
