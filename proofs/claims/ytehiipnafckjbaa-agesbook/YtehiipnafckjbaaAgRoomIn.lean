/- The walk through custkeep.AgesRoom. -/
import Derived.Test.YtehiipnafckjbaaAgLives2
namespace Go.Proofs.Ytehiipnafckjbaa.agri
open Go.ChangeShapes Go.WideShapes Go.ChangeAt Go.RowKit Go.BigFrame
open Go.Proofs.Ytehiipnafckjbaa Go.Proofs.Ytehiipnafckjbaa.am Go.Proofs.Ytehiipnafckjbaa.ag Go.Proofs.Ytehiipnafckjbaa.agt Go.Proofs.Ytehiipnafckjbaa.agl Go.Proofs.Ytehiipnafckjbaa.agv Go.Proofs.Ytehiipnafckjbaa.boxes Go.Proofs.Ytehiipnafckjbaa.rwr
open Go.Proofs.Ytehiipnafckjbaa.rws (Knd Own)

theorem room_math {n : Int} {l : List Sy} {r : Int} (now : Int) (h : le n l r = 0) : te n (wo l r) now = 1 ∨ (te n (wo l r) now = 0 ∧ tr n (wo l r) now ≤ r ∧ (tl n (wo l r) now).length = l.length) := by
  rcases le_cases n l r with ⟨a, b⟩ | ⟨a, _⟩ | ⟨_, e, ht⟩
  · rw [a] at h; exact absurd h b
  · rw [a] at h; exact absurd h (by decide)
  obtain ⟨m, rfl, h1, h64, hok, hlm⟩ := aerr_nat e
  have hw := wo_ok hok r
  have hlen := wo_len hok ht
  have ea : aerr m (wo l r) = 0 := aerr_ok (aerr_zero e).1 hw
  have hr : 0 ≤ r := by
    obtain ⟨s, hs, rfl⟩ := tk_iff.1 ht
    exact (hok.1 s hs).1
  obtain ⟨k, rfl⟩ : ∃ k : Nat, r = (k : Int) := ⟨r.toNat, by omega⟩
  have hlf : lf (wo l k) ≤ k := lf_le_of (by rw [wo_tk]; simp)
  rcases te_cases m (wo l k) now with ⟨x, y⟩ | ⟨_, _, x⟩ | ⟨x, _⟩
  · left
    rcases ce_cases m (wo l k) now with ⟨_, z⟩ | ⟨z, _⟩ | ⟨z, _⟩
    · exact absurd ea z
    · rw [x, z]
    · exact absurd z y
  · exfalso; omega
  · right
    obtain ⟨_, b, c⟩ := te_ones x
    refine ⟨x, by rw [b]; omega, ?_⟩
    rw [c, List.length_append]
    exact hlen
set_option maxRecDepth 20000 in
set_option maxHeartbeats 4000000 in
theorem walk (n : Int) (v : Value) (l : List Sy) (r now : Int) (w : World) (hr : Rd SK w v l) :
    Calls Try.prog 6 #[.agg (AC n v), .int .i64 r, .int .i64 now] w fun e w' => e = .returned (.bool true) ∧ Below w.heap.size w w' := by
  have F0 := Blk.new w (AC n v) 24
  have b0 := (Below.refl w.heap.size w).alloc (Nat.le_refl _) (.cells (AC n v) 24)
  have r0 := hr.below b0
  have CV := leave_any n v l r _ r0
  obtain ⟨sa, sc, rfl⟩ := hr.form
  have c0 := F0.cell
  clear hr r0
  by_cases hle : le n l r = 0
  · obtain ⟨z1, z2⟩ := le_ones hle
    have hm := room_math now hle
    rw [hle, z1, z2] at CV
    have CT := fun u v hu => take_any n v (wo l r) now u hu
    have HL : Hid (te n (wo l r) now = 1 ∨ (te n (wo l r) now = 0 ∧ tr n (wo l r) now ≤ r ∧ (tl n (wo l r) now).length = l.length)) := hm
    clear hle z1 z2 hm
    generalize te n (wo l r) now = TE at *
    generalize tr n (wo l r) now = TR at *
    generalize tn n (wo l r) now = TN at *
    generalize tl n (wo l r) now = TL at *
    generalize wo l r = l2 at *
    generalize l.length = m at *
    go_enter Try.func6, Try.ntmps6
    go_wp2_with fail
    refine CV.mono ?_
    rintro e w1 ⟨v1, rfl, o1, z⟩
    have b1 := b0.trans (z.mono b0.size)
    have F1 := F0.below z F0.lt
    have r1 := Own.rd o1
    obtain ⟨sa1, sc1, rfl⟩ := r1.form
    clear c0 F0 b0 z CV o1
    generalize l2.length = m2 at *
    have dA := (Below.refl w1.heap.size w1).alloc (Nat.le_refl _) (.cells Z2 24)
    go_upto_region 2 with (refine blk_store _ rfl 24 _ _ rfl w1.heap.size _ rfl rfl _ _ (Blk.new w1 Z2 24) 2 ag_info rfl rfl (ag_one _ _ _ _) ?_; intro W2 X2 p2)
    have d2 := p2.below dA (Nat.le_refl _)
    have b2 := b1.trans (d2.mono b1.size)
    have F2 := F1.below d2 F1.lt
    have r2 := r1.below d2
    clear dA p2 d2 b1 F1 r1
    generalize w1.heap.size = X at *
    go_wp2_with fail
    refine (agv.lives _).mono ?_
    rintro e w3 ⟨rfl, z⟩
    have b3 := b2.trans (z.mono b2.size)
    have F3 := F2.below z F2.lt
    have X3 := X2.below z X2.lt
    have c3 := X3.cell
    have CT3 := CT _ _ (r2.below z)
    clear X2 F2 b2 z r2 CT
    go_wp2_with fail
    refine CT3.mono ?_
    rintro e w4 ⟨v4, rfl, o4, z⟩
    have b4 := b3.trans (z.mono b3.size)
    have F4 := F3.below z F3.lt
    obtain ⟨sa4, sc4, e4⟩ := (Own.rd o4).form
    obtain ⟨q, hq⟩ : ∃ q, q = TL.length := ⟨_, rfl⟩
    rw [← hq] at e4
    subst e4
    have HL' : Hid (TE = 1 ∨ (TE = 0 ∧ TR ≤ r ∧ q = m)) := by rw [hq]; exact HL.out
    have dA := (Below.refl w4.heap.size w4).alloc (Nat.le_refl _) (.cells Z2 24)
    clear c3 X3 F3 b3 z CT3 o4 hq HL
    go_upto_region 5 with (refine blk_store _ rfl 24 _ _ rfl w4.heap.size _ rfl rfl _ _ (Blk.new w4 Z2 24) 2 ag_info rfl rfl (ag_one _ _ _ _) ?_; intro W5 X5 p5)
    have d5 := p5.below dA (Nat.le_refl _)
    have b5 := b4.trans (d5.mono b4.size)
    have c5 := X5.cell
    have f5 := (F4.below d5 F4.lt).cell
    clear dA p5 d5 b4 F4 X5
    generalize w4.heap.size = X4 at *
    rcases HL'.out with rfl | ⟨rfl, h2, rfl⟩
    · clear HL'
      go_wp2_with fail
      go_ret
      exact ⟨rfl, b5⟩
    · clear HL'
      go_wp2_with fail
      go_ret
      exact ⟨rfl, b5⟩
  · obtain ⟨z1, z2⟩ := le_zeros hle
    rw [z1, z2] at CV
    have hne : (le n l r != 0) = true := by simpa using hle
    clear hle z1 z2
    generalize le n l r = LE at *
    generalize l.length = m at *
    go_enter Try.func6, Try.ntmps6
    go_wp2_with fail
    refine CV.mono ?_
    rintro e w1 ⟨v1, rfl, o1, z⟩
    have b1 := b0.trans (z.mono b0.size)
    obtain ⟨sa1, sc1, rfl⟩ := (Own.rd o1).form
    clear c0 F0 b0 z CV o1
    have dA := (Below.refl w1.heap.size w1).alloc (Nat.le_refl _) (.cells Z2 24)
    go_upto_region 2 with (refine blk_store _ rfl 24 _ _ rfl w1.heap.size _ rfl rfl _ _ (Blk.new w1 Z2 24) 2 ag_info rfl rfl (ag_one _ _ _ _) ?_; intro W2 X2 p2)
    have d2 := p2.below dA (Nat.le_refl _)
    have b2 := b1.trans (d2.mono b1.size)
    clear dA p2 d2 b1 X2
    generalize w1.heap.size = X at *
    go_wp2_with fail
    refine (agv.lives _).mono ?_
    rintro e w3 ⟨rfl, z⟩
    have b3 := b2.trans (z.mono b2.size)
    clear b2 z
    go_wp2_with fail
    refine (agv.lives _).mono ?_
    rintro e w4 ⟨rfl, z⟩
    have b4 := b3.trans (z.mono b3.size)
    go_wp2_with fail
    go_ret
    exact ⟨rfl, b4⟩
end Go.Proofs.Ytehiipnafckjbaa.agri
