/- custkeep.tableLives: a key is put in, and found. -/
import Derived.Test.YtmnmjmbfnecmoaaTabKeep
namespace Go.Proofs.Ytmnmjmbfnecmoaa.tl
open Go.ChangeShapes Go.WideShapes Go.ChangeAt Go.RowKit Go.BigFrame
open Go.Proofs.Ytmnmjmbfnecmoaa Go.Proofs.Ytmnmjmbfnecmoaa.tm Go.Proofs.Ytmnmjmbfnecmoaa.tb Go.Proofs.Ytmnmjmbfnecmoaa.tg Go.Proofs.Ytmnmjmbfnecmoaa.tp Go.Proofs.Ytmnmjmbfnecmoaa.tr Go.Proofs.Ytmnmjmbfnecmoaa.tk Go.Proofs.Ytmnmjmbfnecmoaa.boxes Go.Proofs.Ytmnmjmbfnecmoaa.rwr
open Go.Proofs.Ytmnmjmbfnecmoaa.rws (Knd Own)

theorem lives_math : pe (List.replicate (2 ^ 2) z0) 5 = 0 ∧ fe (pl (List.replicate (2 ^ 2) z0) 5 7) 5 = 0 ∧ gv (pl (List.replicate (2 ^ 2) z0) 5 7) 5 = 7 ∧ (pl (List.replicate (2 ^ 2) z0) 5 7).length = 4 := by
  have h := rep_ok (b := 2) (by decide) (by decide)
  rcases put_spec h 5 7 with ⟨_, _, a, _⟩ | ⟨a, _, b, c, _, d⟩
  · rw [rep_cnt, List.length_replicate] at a; exact absurd a (by decide)
  · obtain ⟨e, f⟩ := fe_yes b ((d 5 7).2 (by rw [if_pos rfl]))
    exact ⟨a, e, f, by rw [c, List.length_replicate]⟩
/-- a table's row, by its form -/
theorem own_slice {w : World} {B : Nat} {v : Value} {l : List St} (h : Own SK w B v l) : ∃ sa sc, v = .slice sa l.length sc := (Own.rd h).form
theorem own_ne {w : World} {B g : Nat} {v : Value} {l : List St} (h : Own SK w B v l) (hg : g < B) : v.ownBlock ≠ some g := by
  rcases h.forms with ⟨rfl, _⟩ | ⟨g', cap, rfl, hB, _⟩
  · simp [Value.ownBlock]
  · simp [Value.ownBlock]; omega
set_option maxRecDepth 20000 in
set_option maxHeartbeats 2000000 in
theorem lives (w : World) : Calls Try.prog 21 #[] w fun e w' => e = .returned (.bool true) ∧ Below w.heap.size w w' := by
  obtain ⟨m1, m2, m3, m4⟩ := lives_math
  have CN : ∀ u, Calls Try.prog 10 #[.int .i64 2] u fun e w' => ∃ v', e = .returned (.tuple #[.agg #[v'], .int .i64 0]) ∧ Own SK w' u.heap.size v' (List.replicate (2 ^ 2) z0) ∧ Below u.heap.size u w' := fun u => new_ok 2 u (by decide) (by decide)
  have CP : ∀ u v, Rd SK u v (List.replicate (2 ^ 2) z0) → Calls Try.prog 16 #[.agg #[v], .int .u64 5, .int .i64 7] u fun e w' => ∃ v', e = .returned (.tuple #[.agg #[v'], .int .i64 (pe (List.replicate (2 ^ 2) z0) 5)]) ∧ Own SK w' u.heap.size v' (pl (List.replicate (2 ^ 2) z0) 5 7) ∧ Below u.heap.size u w' := fun u v h => put_any v _ 5 7 u h
  have CG : ∀ u v, Rd SK u v (pl (List.replicate (2 ^ 2) z0) 5 7) → Calls Try.prog 20 #[.agg #[v], .int .u64 5] u fun e w' => e = .returned (.tuple #[.int .i64 (gv (pl (List.replicate (2 ^ 2) z0) 5 7) 5), .int .i64 (fe (pl (List.replicate (2 ^ 2) z0) 5 7) 5)]) ∧ Below u.heap.size u w' := fun u v h => get_any v _ 5 u h
  rw [m2, m3] at CG
  rw [m1] at CP
  generalize pl (List.replicate (2 ^ 2) z0) 5 7 = L1 at *
  have m5 : (List.replicate (2 ^ 2) z0).length = 4 := List.length_replicate
  generalize List.replicate (2 ^ 2) z0 = L0 at *
  clear m1 m2 m3
  go_enter Try.func21, Try.ntmps21
  go_wp2_with fail
  refine (CN _).mono ?_
  rintro e w1 ⟨v1, rfl, O1, l1⟩
  have hw : w.heap.size ≤ w1.heap.size := l1.size
  have r1 := Own.rd O1
  obtain ⟨sa1, sc1, rfl⟩ := r1.form
  have dA := (Below.refl w1.heap.size w1).alloc (Nat.le_refl _) (.cells Z1 24)
  go_upto_region 2 with (refine blk_store _ rfl 24 _ _ rfl w1.heap.size _ rfl rfl _ _ (Blk.new w1 Z1 24) 1 tb_info rfl rfl (tb_one _ _ _) ?_; intro W2 K2 p2)
  have d2 := p2.below dA (Nat.le_refl _)
  have l2 := l1.trans (d2.mono l1.size)
  have r2 := r1.below d2
  have c2 := K2.cell
  have CP2 := CP _ _ r2
  clear CN O1 r1 dA p2 d2 l1 CP
  rw [m5] at *
  go_wp2_with fail
  refine CP2.mono ?_
  rintro e w3 ⟨v3, rfl, O3, l3⟩
  have r3 := Own.rd O3
  obtain ⟨sa3, sc3, rfl⟩ := r3.form
  have K3 := K2.below l3 K2.lt
  have ne3 := own_ne O3 K2.lt
  have b3 := l2.trans (l3.mono l2.size)
  clear CP2 c2 K2 l2 l3 r2
  go_upto_region 3 with (refine blk_store _ rfl 24 _ _ rfl w1.heap.size _ rfl rfl _ _ K3 1 tb_info rfl rfl (tb_one _ _ _) ?_; intro W4 K4 p4)
  have O4 := O3.but p4 ne3
  have b4 := p4.below b3 hw
  have c4 := K4.cell
  have CG4 := CG _ _ (Own.rd O4)
  rw [m4] at *
  clear O3 K3 b3 p4 r3 CG
  go_wp2_with fail
  refine CG4.mono ?_
  rintro e w5 ⟨rfl, l5⟩
  have K5 := K4.below l5 K4.lt
  have b5 := b4.trans (l5.mono b4.size)
  have c5 := K5.cell
  clear CG4 c4 K4 l5 b4 O4
  go_wp2_with fail
  go_ret
  exact ⟨rfl, b5⟩
end Go.Proofs.Ytmnmjmbfnecmoaa.tl
