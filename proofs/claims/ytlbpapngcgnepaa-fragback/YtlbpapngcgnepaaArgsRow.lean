/- A row of ints that came in as an argument. -/
import Derived.Test.YtlbpapngcgnepaaFragBackIn
import Derived.ChangeSlices
import Derived.OpenShut
import Derived.SizedLaws
namespace Go.Proofs.Ytlbpapngcgnepaa.argsr
open Go.ChangeShapes Go.WideShapes Go.ChangeAt Go.RowKit
open Go.Proofs.Ytlbpapngcgnepaa.frbi (Ro)
section
variable {H : Type} {enc : TypeId × Value → H} {w : World} {base : Nat} {spare : Nat → Bool} {held : Bool}
set_option maxRecDepth 100000 in
theorem no_agg {r : Reach} {b0 : Nat} {cs : Array Value} (hv : Value.okWide Try.prog w r b0 37 (.agg cs)) : False := by
  simp [Value.okWide, Try.underlying37, Cell.okWide, Cell.ok] at hv
set_option maxRecDepth 100000 in
theorem open_row {r : Reach} {b0 : Nat} {v : Value} {d' : DataW H} {p : List MemPlace} (hv : Value.okWide Try.prog w r b0 37 v) (h : DataW.Trod enc Try.prog w base spare held 37 v d' p) : ∃ n, Ro w v n := by
  obtain ⟨fuel, hf⟩ := h
  rcases open_ints Try.underlying37 Try.underlying3 (by kernel_rfl) hf with ⟨hcs, _⟩ | ⟨a, len, cap, zs, hcs, _, hle, hmax, hall, _, hcell, _⟩
  · have e : v = .slice none 0 0 := by
      cases v
      case agg cs => exact (no_agg hv).elim
      all_goals (simp [Value.cells] at hcs ⊢; try exact hcs)
    subst e
    exact ⟨0, none, 0, rfl, Nat.zero_le _, fun hh => absurd hh (by omega)⟩
  · have e : v = .slice (some a) len cap := by
      cases v
      case agg cs => exact (no_agg hv).elim
      all_goals (simp [Value.cells] at hcs ⊢; try exact hcs)
    subst e
    refine ⟨len, some a, cap, rfl, Nat.le_trans hle hmax, fun hp => ?_⟩
    have hz : len ≤ zs.length := by rw [hall]; split <;> omega
    obtain ⟨b, off, rfl, hc⟩ := ints_at hcell (by omega)
    refine ⟨b, off, rfl, World.block_lt_of_cell? _ _ (hc 0 (by omega)), fun j hj => ⟨_, hc j (by omega)⟩⟩
end
end Go.Proofs.Ytlbpapngcgnepaa.argsr
