/- The walk of CookieIndex. -/
import Derived.Test.YtfaebenhjilkgaaCkLives
namespace Go.Proofs.Ytfaebenhjilkgaa.ckix
open Go.ChangeShapes Go.WideShapes Go.ChangeAt Go.RowKit Go.BigFrame
open Go.Proofs.Ytfaebenhjilkgaa.ethb (bdrewN)
open Go.Proofs.Ytfaebenhjilkgaa Go.Proofs.Ytfaebenhjilkgaa.boxes Go.Proofs.Ytfaebenhjilkgaa.sipb Go.Proofs.Ytfaebenhjilkgaa.sipe Go.Proofs.Ytfaebenhjilkgaa.ckm Go.Proofs.Ytfaebenhjilkgaa.ckb Go.Proofs.Ytfaebenhjilkgaa.cki Go.Proofs.Ytfaebenhjilkgaa.ckk Go.Proofs.Ytfaebenhjilkgaa.cksz Go.Proofs.Ytfaebenhjilkgaa.cko Go.Proofs.Ytfaebenhjilkgaa.ckp Go.Proofs.Ytfaebenhjilkgaa.ckl

theorem cell8 {W : World} {b : Nat} (K : Blk W b SZ 33) (j : Nat) (hj : j < 8) : W.cell? ⟨b, j, none⟩ = some (.int .i64 (sz j)) := by
  rw [K.cell]
  match j, hj with
  | 0, _ | 1, _ | 2, _ | 3, _ | 4, _ | 5, _ | 6, _ | 7, _ => rfl
theorem ixa (b : Nat) (x : Int) (u : World) (h0 : 0 ≤ x) (h1 : x < 8) : (Instr.indexAt 33 (.pointer (some ⟨b, 0, none⟩)) (.int .i64 x)).run Try.prog u = .ok (.pointer (some ⟨b, x.toNat, none⟩)) u := by
  simp [Instr.indexAt, run_underlying Try.underlying33, Instr.sureAddr, asIntOf, h0, h1, go_sem, Addr.add]
  omega
set_option maxHeartbeats 8000000 in
theorem index_law (n : Int) (w : World) :
    Calls Try.prog 6 #[.int .i64 n] w fun e w' => e = .returned (.bool true) ∧ Below w.heap.size w w' := by
  obtain ⟨i, hi⟩ : ∃ i, i = pl n 8 := ⟨_, rfl⟩
  have C1 := fun u => index_any n u
  rw [← hi] at C1
  have hc := pl_cases n
  rw [← hi] at hc
  clear hi
  have HC := show Hid _ from hc
  have i0 : 0 ≤ i := by omega
  have i1 : i ≤ 7 := by omega
  clear hc
  go_enter Try.func6, Try.ntmps6
  go_wp2_with fail
  refine (sizes_any _).mono ?_
  rintro _ W1 ⟨rfl, B⟩
  go_wp2_with fail
  refine (C1 _).mono ?_
  rintro _ W2 ⟨rfl, z⟩
  replace B := B.trans (z.mono (Below.size B))
  clear z
  go_upto_region 2 with (refine blk_store _ rfl 33 _ _ rfl W2.heap.size SZ rfl rfl _ _ (Blk.new W2 Z8 33) 8 a8_info rfl rfl sz_one ?_; intro W3 K p3)
  have d := p3.below ((Below.refl W2.heap.size W2).alloc (Nat.le_refl _) (.cells Z8 33)) (Nat.le_refl _)
  replace B := B.trans (d.mono (Below.size B))
  clear d p3
  generalize W2.heap.size = b at *
  go_wp2_with fail
  refine (lives_any _).mono ?_
  rintro _ W4 ⟨rfl, z⟩
  replace K := K.below z K.lt
  replace B := B.trans (z.mono (Below.size B))
  clear z
  go_wp2_with fail
  go_loopw [5] (fun v wr => ∃ j : Nat, v = .int .i64 ((j : Int) + 1) ∧ j ≤ 7 ∧ ∃ m, wr = W4.drewN m) (fun v _ => 8 - (intOf v).toNat)
  case atStart => exact ⟨0, rfl, by omega, 0, rfl⟩
  case round =>
    obtain ⟨j, rfl, hj, m, rfl⟩ := hrel
    by_cases hlt : j < 7
    · have hlt' : (j : Int) < 7 := by omega
      have hl := sz_less j hlt
      have c1 := cell8 K j (by omega)
      have c2 := cell8 K (j + 1) (by omega)
      have e2 : ((j + 1 : Nat) : Int) = (j : Int) + 1 := by omega
      rw [e2] at c2
      have hn : ¬ sz ((j : Int) + 1) ≤ sz j := by omega
      generalize sz (j : Int) = u at *
      generalize sz ((j : Int) + 1) = v at *
      clear HC C1
      have g1 : (0 : Int) ≤ (j : Int) + 1 := by omega
      have g2 : (j : Int) + 1 < 8 := by omega
      have g3 : ((j : Int) + 1).toNat = j + 1 := by omega
      have ix1 : ∀ u, (Instr.indexAt 33 (.pointer (some ⟨b, 0, none⟩)) (.int .i64 ((j : Int) + 1))).run Try.prog u = .ok (.pointer (some ⟨b, j + 1, none⟩)) u := fun u => by rw [ixa b _ u g1 g2, g3]
      have ix2 : ∀ u, (Instr.indexAt 33 (.pointer (some ⟨b, 0, none⟩)) (.int .i64 (j : Int))).run Try.prog u = .ok (.pointer (some ⟨b, j, none⟩)) u := fun u => by rw [ixa b _ u (by omega) (by omega), Int.toNat_natCast]
      have wr1 : IntKind.i64.wrap ((j : Int) + 1 - 1) = (j : Int) := by rw [IntKind.wrap_i64]; omega
      have hd : decide (v ≤ u) = false := by simpa using hn
      clear g3
      go_upto_region 7 with fail
      go_quiet (fail)
      go_wp2_with fail
      exact ⟨⟨j + 1, by go_num, by omega, _, rfl⟩, by simp [intOf]; omega⟩
    · obtain rfl : j = 7 := by omega
      have B9 := bdrewN B m
      have cs := (K.drewN m).cell
      clear C1 B K
      rcases HC.out with ⟨rfl, h⟩ | ⟨rfl, h1, h2⟩ | ⟨rfl, h1, h2⟩ | ⟨rfl, h1, h2⟩ | ⟨rfl, h1, h2⟩ | ⟨rfl, h1, h2⟩ | ⟨rfl, h1, h2⟩ | ⟨rfl, h⟩
      all_goals
        clear HC
        go_wp2_with fail
        all_goals
          go_ret
          exact ⟨by simp_all <;> omega, B9⟩
end Go.Proofs.Ytfaebenhjilkgaa.ckix
