/- custkeep.prefixLives: one net in another. -/
import Derived.Test.YtiddpkppfpdfhaaPfAny0
namespace Go.Proofs.Ytiddpkppfpdfhaa.pf
open Go.ChangeShapes Go.WideShapes Go.ChangeAt Go.RowKit Go.BigFrame
open Go.Proofs.Ytiddpkppfpdfhaa Go.Proofs.Ytiddpkppfpdfhaa.pm Go.Proofs.Ytiddpkppfpdfhaa.boxes Go.Proofs.Ytiddpkppfpdfhaa.rwr Go.Proofs.Ytiddpkppfpdfhaa.rwat
open Go.Proofs.Ytiddpkppfpdfhaa.rws (Knd Own)

set_option maxRecDepth 20000 in
set_option maxHeartbeats 4000000 in
theorem lives (w : World) : Calls Try.prog 23 #[] w fun e w' => e = .returned (.bool true) ∧ Below w.heap.size w w' := by
  have C1 : ∀ u, Calls Try.prog 9 #[.agg #[.slice none 0 0], .agg #[.int .u32 167772160, .int .i64 8], .int .i64 1] u fun e w' => ∃ v', e = .returned (.tuple #[.agg #[v'], .int .i64 0]) ∧ Own DK w' u.heap.size v' (lay 0 t1) ∧ Below u.heap.size u w' := fun u => by
    have h := put_yes (.slice none 0 0) .nil p8 1 u ⟨none, 0, rfl, Nat.zero_le _, ⟨Nat.zero_le _, fun _ => rfl⟩, fun h => by simp [lay] at h⟩ ⟨trivial, by decide, by decide⟩ (by decide)
    rw [if_neg (show ¬ 500 < sz (ins .nil p8 1) by decide), if_neg (show ¬ 500 < sz (ins .nil p8 1) by decide), a8] at h
    exact h
  have C2 : ∀ u v, Rd DK u v (lay 0 t1) → Calls Try.prog 9 #[.agg #[v], .agg #[.int .u32 167837696, .int .i64 16], .int .i64 2] u fun e w' => ∃ v', e = .returned (.tuple #[.agg #[v'], .int .i64 0]) ∧ Own DK w' u.heap.size v' (lay 0 t2) ∧ Below u.heap.size u w' := fun u v hr => by
    have h := put_yes v t1 p16 2 u hr fine1 (by decide)
    rw [if_neg (show ¬ 500 < sz (ins t1 p16 2) by decide), if_neg (show ¬ 500 < sz (ins t1 p16 2) by decide), a16] at h
    exact h
  have C3 : ∀ u v, Rd DK u v (lay 0 t2) → Calls Try.prog 16 #[.agg #[v], .int .u32 167838211] u fun e w' => e = .returned (.tuple #[.agg #[.int .u32 167837696, .int .i64 16], .int .i64 2, .int .i64 0]) ∧ Below u.heap.size u w' := fun u v hr => by
    have h := find_yes v t2 167838211 u hr fine2 (by decide)
    rw [f1] at h
    simp only [fA, fL, fV, fE] at h
    rw [a16] at h
    exact h
  have C4 : ∀ u v, Rd DK u v (lay 0 t2) → Calls Try.prog 16 #[.agg #[v], .int .u32 167903747] u fun e w' => e = .returned (.tuple #[.agg #[.int .u32 167772160, .int .i64 8], .int .i64 1, .int .i64 0]) ∧ Below u.heap.size u w' := fun u v hr => by
    have h := find_yes v t2 167903747 u hr fine2 (by decide)
    rw [f2] at h
    simp only [fA, fL, fV, fE] at h
    rw [a8] at h
    exact h
  have n1 : (lay 0 t1).length = 9 := by rw [lay_length]; exact s1
  have n2 : (lay 0 t2).length = 17 := by rw [lay_length]; exact s2
  generalize lay 0 t1 = L1 at *
  generalize lay 0 t2 = L2 at *
  go_enter Try.func23, Try.ntmps23
  go_wp2_with fail
  refine (C1 _).mono ?_
  rintro e w1 ⟨v1, rfl, O1, l1⟩
  have hw : w.heap.size ≤ w1.heap.size := l1.size
  have r1 := Own.rd O1
  obtain ⟨sa1, sc1, e1⟩ := r1.form
  rw [n1] at e1
  subst e1
  have dA := (Below.refl w1.heap.size w1).alloc (Nat.le_refl _) (.cells Z1 24)
  go_upto_region 2 with (refine blk_store _ rfl 24 _ _ rfl w1.heap.size _ rfl rfl _ _ (Blk.new w1 Z1 24) 1 tr_info rfl rfl (tc_one _ _ _) ?_; intro W2 K2 p2)
  have d2 := p2.below dA (Nat.le_refl _)
  have l2 := l1.trans (d2.mono l1.size)
  have r2 := r1.below d2
  have c2 := K2.cell
  have CP2 := C2 _ _ r2
  clear C1 O1 r1 dA p2 d2 l1 C2
  go_wp2_with fail
  refine CP2.mono ?_
  rintro e w3 ⟨v3, rfl, O3, l3⟩
  obtain ⟨sa3, sc3, e3⟩ := (Own.rd O3).form
  rw [n2] at e3
  subst e3
  have K3 := K2.below l3 K2.lt
  have ne3 := own_ne O3 K2.lt
  have b3 := l2.trans (l3.mono l2.size)
  clear CP2 c2 K2 l2 l3 r2
  go_upto_region 3 with (refine blk_store _ rfl 24 _ _ rfl w1.heap.size _ rfl rfl _ _ K3 1 tr_info rfl rfl (tc_one _ _ _) ?_; intro W4 K4 p4)
  have O4 := O3.but p4 ne3
  have b4 := p4.below b3 hw
  have c4 := K4.cell
  have r4 := Own.rd O4
  have CF4 := C3 _ _ r4
  clear O3 K3 b3 p4 C3 O4
  go_wp2_with fail
  refine CF4.mono ?_
  rintro e w5 ⟨rfl, l5⟩
  have K5 := K4.below l5 K4.lt
  have b5 := b4.trans (l5.mono b4.size)
  have r5 := r4.below l5
  clear CF4 c4 K4 l5 b4 r4
  have dB := (Below.refl w5.heap.size w5).alloc (Nat.le_refl _) (.cells ZN 27)
  go_upto_region 4 with (refine blk_store _ rfl 27 _ _ rfl w5.heap.size _ rfl rfl _ _ (Blk.new w5 ZN 27) 2 nt_info rfl rfl (nt_one ⟨167837696, 16⟩) ?_; intro W6 M6 p6)
  have d6 := p6.below dB (Nat.le_refl _)
  have K6 := K5.below d6 K5.lt
  have b6 := b5.trans (d6.mono b5.size)
  have r6 := r5.below d6
  clear K5 b5 r5 dB p6 d6
  have c6 := K6.cell
  have CF6 := C4 _ _ r6
  clear C4
  go_wp2_with fail
  refine CF6.mono ?_
  rintro e w7 ⟨rfl, l7⟩
  have K7 := K6.below l7 K6.lt
  have M7 := M6.below l7 M6.lt
  have b7 := b6.trans (l7.mono b6.size)
  clear CF6 c6 K6 l7 b6 r6 M6
  have dC := (Below.refl w7.heap.size w7).alloc (Nat.le_refl _) (.cells ZN 27)
  go_upto_region 5 with (refine blk_store _ rfl 27 _ _ rfl w7.heap.size _ rfl rfl _ _ (Blk.new w7 ZN 27) 2 nt_info rfl rfl (nt_one ⟨167772160, 8⟩) ?_; intro W8 M8 p8)
  have d8 := p8.below dC (Nat.le_refl _)
  have K8 := K7.below d8 K7.lt
  have M9 := M7.below d8 M7.lt
  have b8 := b7.trans (d8.mono b7.size)
  clear K7 M7 b7 dC p8 d8 M8
  have c8 := K8.cell
  have c9 := M9.cell
  go_wp2_with fail
  go_ret
  exact ⟨rfl, b8⟩
end Go.Proofs.Ytiddpkppfpdfhaa.pf
