/- What package cookie's Sizes and Index answer; how the sizes are indexed. -/
import Derived.Test.YtfaebenhjilkgaaCkMake
namespace Go.Proofs.Ytfaebenhjilkgaa.cksz
open Go.ChangeShapes Go.WideShapes Go.ChangeAt Go.RowKit Go.BigFrame
open Go.Proofs.Ytfaebenhjilkgaa Go.Proofs.Ytfaebenhjilkgaa.boxes Go.Proofs.Ytfaebenhjilkgaa.sipb Go.Proofs.Ytfaebenhjilkgaa.ckm Go.Proofs.Ytfaebenhjilkgaa.ckb

abbrev SZ : Array Value := #[.int .i64 216, .int .i64 536, .int .i64 1220, .int .i64 1300, .int .i64 1360, .int .i64 1440, .int .i64 1460, .int .i64 8960]
abbrev Z8 : Array Value := #[.int .i64 0, .int .i64 0, .int .i64 0, .int .i64 0, .int .i64 0, .int .i64 0, .int .i64 0, .int .i64 0]
theorem a8_info : (Try.prog.info? 33).map (·.size) = some 8 := by kernel_rfl
theorem sz_one : SZ.all (·.oneCell') = true := by simp [Value.oneCell']
theorem index_sz (i : Int) (h0 : 0 ≤ i) (h1 : i < 8) (u : World) : (Instr.index 33 (.agg SZ) (.int .i64 i)).run Try.prog u = .ok (.int .i64 (sz i)) u := by
  have hi : i = 0 ∨ i = 1 ∨ i = 2 ∨ i = 3 ∨ i = 4 ∨ i = 5 ∨ i = 6 ∨ i = 7 := by omega
  rcases hi with rfl | rfl | rfl | rfl | rfl | rfl | rfl | rfl <;>
    simp [Instr.index, run_underlying Try.underlying33, asIntOf, go_sem, sz, szl]
set_option maxHeartbeats 1000000 in
theorem sizes_any (w : World) : Calls Try.prog 11 #[] w fun e w' => e = .returned (.agg SZ) ∧ Below w.heap.size w w' := by
  go_enter Try.func11, Try.ntmps11
  go_wp2_with (refine blk_store _ rfl 33 _ _ rfl w.heap.size SZ rfl rfl _ _ (Blk.new w Z8 33) 8 a8_info rfl rfl sz_one ?_; intro W3 K3 p3)
  have B3 := p3.below ((Below.refl w.heap.size w).alloc (Nat.le_refl _) (.cells Z8 33)) (Nat.le_refl _)
  exact blk_ret1 rfl rfl w.heap.size SZ 33 rfl K3 _ Try.underlying33 rfl 8 a8_info rfl ⟨rfl, B3⟩
set_option maxHeartbeats 1000000 in
theorem index_any (n : Int) (w : World) : Calls Try.prog 14 #[.int .i64 n] w fun e w' => e = .returned (.int .i64 (pl n 8)) ∧ Below w.heap.size w w' := by
  go_enter Try.func14, Try.ntmps14
  go_wp2_with fail
  refine (sizes_any _).mono ?_
  rintro e w1 ⟨rfl, B1⟩
  go_wp2_with fail
  go_loopw [3, 4, 5, 7] (fun x y z i wr => ∃ k : Nat, i = .int .i64 (k : Int) ∧ k ≤ 8 ∧ x = .int .i64 (pl n k) ∧ wr = w1) (fun _ _ _ i _ => 8 - (intOf i).toNat)
  case atStart => exact ⟨0, rfl, by omega, rfl, rfl⟩
  case round =>
    obtain ⟨k, rfl, hk, rfl, rfl⟩ := hrel
    by_cases hlt : k < 8
    · have hx := index_sz k (by omega) (by omega)
      have hlt' : (k : Int) < 8 := by omega
      have hp : pl n (k + 1) = if sz k ≤ n then (k : Int) else pl n k := rfl
      by_cases hs : sz k ≤ n
      · rw [if_pos hs] at hp
        have HP : Hid (pl n (k + 1) = (k : Int)) := hp
        clear hp
        generalize sz k = s at *
        go_wp2_with fail
        exact ⟨⟨k + 1, by go_num, by omega, by rw [HP.out], trivial⟩, by simp [intOf]; omega⟩
      · rw [if_neg hs] at hp
        have HP : Hid (pl n (k + 1) = pl n k) := hp
        clear hp
        generalize sz k = s at *
        go_wp2_with fail
        exact ⟨⟨k + 1, by go_num, by omega, by rw [HP.out], trivial⟩, by simp [intOf]; omega⟩
    · obtain rfl : k = 8 := by omega
      go_wp2_with fail
      go_ret
      exact ⟨rfl, B1⟩
end Go.Proofs.Ytfaebenhjilkgaa.cksz
