/- The walk of Names. -/
import Derived.Test.YtendklfngpoljaaNamesEq
import Derived.LoopN
namespace Go.Proofs.Ytendklfngpoljaa.nin
open Go.ChangeShapes Go.WideShapes Go.ChangeAt Go.RowKit
open Go.Proofs.Ytendklfngpoljaa.sumw Go.Proofs.Ytendklfngpoljaa.neq
def lims : List Int := [65535, 16, 64, 64, 500, 64, 500, 16, 200, 500, 64, 64, 64, 300, 300]
theorem four : ∀ j, j < 4 → (#[Value.int .i64 1, .int .i64 2, .int .i64 3, .int .i64 4] : Array Value)[j]? = some (.int .i64 ([1, 2, 3, 4].getD j 0))
  | 0, _ => rfl
  | 1, _ => rfl
  | 2, _ => rfl
  | 3, _ => rfl
  | n + 4, h => by omega
theorem fifteen (j : Nat) (h : j < 15) : (#[Value.int .i64 65535, .int .i64 16, .int .i64 64, .int .i64 64, .int .i64 500, .int .i64 64, .int .i64 500, .int .i64 16, .int .i64 200, .int .i64 500, .int .i64 64, .int .i64 64, .int .i64 64, .int .i64 300, .int .i64 300] : Array Value)[j]? = some (.int .i64 (lims.getD j 0)) := by
  have e : (#[Value.int .i64 65535, .int .i64 16, .int .i64 64, .int .i64 64, .int .i64 500, .int .i64 64, .int .i64 500, .int .i64 16, .int .i64 200, .int .i64 500, .int .i64 64, .int .i64 64, .int .i64 64, .int .i64 300, .int .i64 300] : Array Value) = (lims.map (Value.int .i64)).toArray := rfl
  rw [e, List.getElem?_toArray, List.getElem?_map]
  have hl : lims.length = 15 := rfl
  rw [List.getElem?_eq_getElem (by omega : j < lims.length), List.getD_eq_getElem?_getD, List.getElem?_eq_getElem (by omega : j < lims.length)]
  rfl
set_option maxHeartbeats 2000000 in
theorem all (w : World) : Calls Try.prog 3 #[] w fun e w' => e = .returned (.bool true) ∧ Grown w w' := by
  go_enter Try.func3, Try.ntmps3
  go_wp2_with fail
  refine wp_loop_rounds 12 ?_
  iterate 12 (rw [rounds_succ]; go_wp2_with fail)
  refine wp_loop_rounds 7 ?_
  iterate 7 (rw [rounds_succ]; go_wp2_with fail)
  refine wp_loop_rounds 7 ?_
  iterate 7 (rw [rounds_succ]; go_wp2_with fail)
  refine (equal_same _ _ 4 4 4 [1, 2, 3, 4] _ (by omega) ?_ ?_).mono ?_
  · intro j hj
    rw [World.cell?_alloc_past (hn := by simp), World.cell?_alloc_past (hn := by simp), World.cell?_alloc_at (hn := by simp)]
    exact four j hj
  · intro j hj
    rw [World.cell?_alloc_at (hn := by simp)]
    exact four j hj
  rintro e w1 ⟨rfl, q1⟩
  have hc : ∀ j, j < 15 → w1.cell? ⟨w.heap.size + 1 + 1 + 1 + 1, j, none⟩ = some (.int .i64 (lims.getD j 0)) := by
    intro j hj
    obtain ⟨m, rfl⟩ := q1
    rw [World.cell?_drewN, World.cell?_alloc_past (hn := by simp), World.cell?_alloc_at (hn := by simp)]
    exact fifteen j hj
  have hz : w1.heap.size = w.heap.size + 1 + 1 + 1 + 1 + 1 + 1 := by
    obtain ⟨m, rfl⟩ := q1
    simp
  have hg : Grown w w1 := by
    obtain ⟨m, rfl⟩ := q1
    exact Grown.alloc (Grown.alloc (Grown.alloc (Grown.alloc (Grown.alloc (Grown.alloc (Grown.refl w) _ _) _ _) _ _) _ _) _ _) _ _
  clear q1
  have HC : Hid _ := hc
  have HZ : Hid _ := hz
  clear hc hz
  go_wp2_with fail
  refine (equal_same _ _ 15 15 15 lims _ (by omega) ?_ ?_).mono ?_
  · intro j hj
    rw [World.cell?_alloc_past (hn := by have := HZ.out; omega)]
    exact HC.out j hj
  · intro j hj
    rw [World.cell?_alloc_at (hn := rfl)]
    exact fifteen j hj
  rintro e w2 ⟨rfl, q2⟩
  go_wp2_with fail
  go_ret
  refine ⟨rfl, ?_⟩
  obtain ⟨m, rfl⟩ := q2
  exact Grown.alloc hg _ _
end Go.Proofs.Ytendklfngpoljaa.nin
