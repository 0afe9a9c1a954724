/- What custref.FrameText answers of a frame that can't be written; and of each frame. -/
import Derived.Test.YtolhmmnaohadcaaEthFtB
import Derived.Test.YtolhmmnaohadcaaEthFtT
namespace Go.Proofs.Ytolhmmnaohadcaa.ethf
open Go.ChangeShapes Go.WideShapes Go.ChangeAt Go.RowKit
open Go.Proofs.Ytolhmmnaohadcaa.EM Go.Proofs.Ytolhmmnaohadcaa.ethb Go.Proofs.Ytolhmmnaohadcaa.buf Go.Proofs.Ytolhmmnaohadcaa.refb Go.Proofs.Ytolhmmnaohadcaa.boxes

set_option maxHeartbeats 1000000 in
theorem ft_vlan (t0 t1 t2 t3 t4 t5 f0 f1 f2 f3 f4 f5 : UInt8) (v y : Int) (d : ByteArray) (w : World) (hv : ¬ (-1 ≤ v ∧ v ≤ 4095)) :
    Calls Try.prog 7 #[.agg (frame t0.toNat t1.toNat t2.toNat t3.toNat t4.toNat t5.toNat f0.toNat f1.toNat f2.toNat f3.toNat f4.toNat f5.toNat v y d)] w fun e w' => e = .returned (.tuple #[.string ⟨#[]⟩, .int .i64 1]) ∧ Below w.heap.size w w' := by
  go_enter Try.func7, Try.ntmps7
  go_wp2_with fail
  refine (between_any _ _ _ _).mono ?_
  rintro e w1 ⟨rfl, rfl⟩
  rw [decide_eq_false (by omega)]
  go_wp2_with fail
  go_ret2
  exact ⟨rfl, (Below.refl _ _).alloc (Nat.le_refl _) _⟩
set_option maxHeartbeats 1000000 in
theorem ft_type (t0 t1 t2 t3 t4 t5 f0 f1 f2 f3 f4 f5 : UInt8) (v y : Int) (d : ByteArray) (w : World) (hv : -1 ≤ v ∧ v ≤ 4095) (hy : ¬ (0 ≤ y ∧ y ≤ 65535)) :
    Calls Try.prog 7 #[.agg (frame t0.toNat t1.toNat t2.toNat t3.toNat t4.toNat t5.toNat f0.toNat f1.toNat f2.toNat f3.toNat f4.toNat f5.toNat v y d)] w fun e w' => e = .returned (.tuple #[.string ⟨#[]⟩, .int .i64 1]) ∧ Below w.heap.size w w' := by
  go_enter Try.func7, Try.ntmps7
  go_wp2_with fail
  refine (between_any _ _ _ _).mono ?_
  rintro e w1 ⟨rfl, rfl⟩
  rw [decide_eq_true (by omega)]
  go_wp2_with fail
  refine (between_any _ _ _ _).mono ?_
  rintro e w1 ⟨rfl, rfl⟩
  rw [decide_eq_false (by omega)]
  go_wp2_with fail
  go_ret2
  exact ⟨rfl, (Below.refl _ _).alloc (Nat.le_refl _) _⟩
set_option maxHeartbeats 1000000 in
theorem ft_form (t0 t1 t2 t3 t4 t5 f0 f1 f2 f3 f4 f5 : UInt8) (v y : Int) (d : ByteArray) (w : World) (hv : v = -1) (hy : y = 33024) :
    Calls Try.prog 7 #[.agg (frame t0.toNat t1.toNat t2.toNat t3.toNat t4.toNat t5.toNat f0.toNat f1.toNat f2.toNat f3.toNat f4.toNat f5.toNat v y d)] w fun e w' => e = .returned (.tuple #[.string ⟨#[]⟩, .int .i64 4]) ∧ Below w.heap.size w w' := by
  subst hv hy
  go_enter Try.func7, Try.ntmps7
  go_wp2_with fail
  refine (between_any _ _ _ _).mono ?_
  rintro e w1 ⟨rfl, rfl⟩
  rw [decide_eq_true (by omega)]
  go_wp2_with fail
  refine (between_any _ _ _ _).mono ?_
  rintro e w1 ⟨rfl, rfl⟩
  rw [decide_eq_true (by omega)]
  go_wp2_with fail
  go_ret2
  exact ⟨rfl, (Below.refl _ _).alloc (Nat.le_refl _) _⟩
set_option maxHeartbeats 1000000 in
theorem ft_largeB (t0 t1 t2 t3 t4 t5 f0 f1 f2 f3 f4 f5 : UInt8) (v y : Int) (d : ByteArray) (w : World) (hv : v = -1) (hyn : (y == 33024) = false) (hy : 0 ≤ y) (hy1 : y ≤ 65535) (hd : 65535 < d.size) :
    Calls Try.prog 7 #[.agg (frame t0.toNat t1.toNat t2.toNat t3.toNat t4.toNat t5.toNat f0.toNat f1.toNat f2.toNat f3.toNat f4.toNat f5.toNat v y d)] w fun e w' => e = .returned (.tuple #[.string ⟨#[]⟩, .int .i64 2]) ∧ Below w.heap.size w w' := by
  subst hv
  go_enter Try.func7, Try.ntmps7
  go_wp2_with fail
  refine (between_any _ _ _ _).mono ?_
  rintro e w1 ⟨rfl, rfl⟩
  rw [decide_eq_true (by omega)]
  go_wp2_with fail
  refine (between_any _ _ _ _).mono ?_
  rintro e w1 ⟨rfl, rfl⟩
  rw [decide_eq_true (by omega)]
  go_wp2_with fail
  go_ret2
  exact ⟨rfl, (Below.refl _ _).alloc (Nat.le_refl _) _⟩
set_option maxHeartbeats 1000000 in
theorem ft_largeT (t0 t1 t2 t3 t4 t5 f0 f1 f2 f3 f4 f5 : UInt8) (v y : Int) (d : ByteArray) (w : World) (hv : 0 ≤ v) (hv1 : v ≤ 4095) (hy : 0 ≤ y) (hy1 : y ≤ 65535) (hd : 65535 < d.size) :
    Calls Try.prog 7 #[.agg (frame t0.toNat t1.toNat t2.toNat t3.toNat t4.toNat t5.toNat f0.toNat f1.toNat f2.toNat f3.toNat f4.toNat f5.toNat v y d)] w fun e w' => e = .returned (.tuple #[.string ⟨#[]⟩, .int .i64 2]) ∧ Below w.heap.size w w' := by
  go_enter Try.func7, Try.ntmps7
  go_wp2_with fail
  refine (between_any _ _ _ _).mono ?_
  rintro e w1 ⟨rfl, rfl⟩
  rw [decide_eq_true (by omega)]
  go_wp2_with fail
  refine (between_any _ _ _ _).mono ?_
  rintro e w1 ⟨rfl, rfl⟩
  rw [decide_eq_true (by omega)]
  go_upto_region 5 with fail
  go_cut [4] (fun t wx => t = .string ⟨#[129, 0, hi8 v, lo8 v]⟩ ∧ Blk wx w.heap.size (frame t0.toNat t1.toNat t2.toNat t3.toNat t4.toNat t5.toNat f0.toNat f1.toNat f2.toNat f3.toNat f4.toNat f5.toNat v y d) 25 ∧ Below w.heap.size w wx)
  case first =>
    have G : Kept w (frame t0.toNat t1.toNat t2.toNat t3.toNat t4.toNat t5.toNat f0.toNat f1.toNat f2.toNat f3.toNat f4.toNat f5.toNat v y d) (w.alloc (.cells (frame t0.toNat t1.toNat t2.toNat t3.toNat t4.toNat t5.toNat f0.toNat f1.toNat f2.toNat f3.toNat f4.toNat f5.toNat v y d) 25)) := Kept.new _ _
    go_region_with (go_at_call 16; refine (word_ref _ _ (by omega) (by omega)).mono ?_; rintro e w3 ⟨rfl, hb3⟩; have G := Kept.call (by first | exact G | exact Kept.drew G) hb3; have c4 := G.1.cell; have l4 := G.1.lt)
    all_goals go_wp2_with fail
    all_goals go_meet
    all_goals exact ⟨by first | rfl | (congr 1; exact bytes_ext (by simp; decide)), by first | exact G | exact Kept.drew G⟩
  case rest =>
    obtain ⟨rfl, F, hb⟩ := hcut
    have cf := F.cell
    have lf := F.lt
    go_wp2_with fail
    go_ret2
    exact ⟨rfl, hb⟩
/-- the text that a frame is written with -/
def wrs (t0 t1 t2 t3 t4 t5 f0 f1 f2 f3 f4 f5 : UInt8) (v y : Int) (d : ByteArray) : ByteArray :=
  if wre v y d.size = 0 then ⟨(wrl t0 t1 t2 t3 t4 t5 f0 f1 f2 f3 f4 f5 v y d).toArray⟩ else ⟨#[]⟩
theorem ft_any (t0 t1 t2 t3 t4 t5 f0 f1 f2 f3 f4 f5 : UInt8) (v y : Int) (d : ByteArray) (w : World) :
    Calls Try.prog 7 #[.agg (frame t0.toNat t1.toNat t2.toNat t3.toNat t4.toNat t5.toNat f0.toNat f1.toNat f2.toNat f3.toNat f4.toNat f5.toNat v y d)] w fun e w' =>
      e = .returned (.tuple #[.string (wrs t0 t1 t2 t3 t4 t5 f0 f1 f2 f3 f4 f5 v y d), .int .i64 (wre v y d.size)]) ∧ Below w.heap.size w w' := by
  have fin : ∀ (s : ByteArray) (a : Int), wre v y d.size = a → s = wrs t0 t1 t2 t3 t4 t5 f0 f1 f2 f3 f4 f5 v y d →
      (Calls Try.prog 7 #[.agg (frame t0.toNat t1.toNat t2.toNat t3.toNat t4.toNat t5.toNat f0.toNat f1.toNat f2.toNat f3.toNat f4.toNat f5.toNat v y d)] w fun e w' => e = .returned (.tuple #[.string s, .int .i64 a]) ∧ Below w.heap.size w w') →
      Calls Try.prog 7 #[.agg (frame t0.toNat t1.toNat t2.toNat t3.toNat t4.toNat t5.toNat f0.toNat f1.toNat f2.toNat f3.toNat f4.toNat f5.toNat v y d)] w fun e w' =>
      e = .returned (.tuple #[.string (wrs t0 t1 t2 t3 t4 t5 f0 f1 f2 f3 f4 f5 v y d), .int .i64 (wre v y d.size)]) ∧ Below w.heap.size w w' := by
    intro s a ha hs h
    rw [ha, ← hs]; exact h
  by_cases hv : -1 ≤ v ∧ v ≤ 4095
  · by_cases hy : 0 ≤ y ∧ y ≤ 65535
    · have h1 : ¬ (v < -1 ∨ 4095 < v ∨ y < 0 ∨ 65535 < y) := by omega
      by_cases hf : v = -1 ∧ y = 33024
      · have e1 : wre v y d.size = 4 := by unfold wre; rw [if_neg h1, if_pos hf]
        exact fin _ _ e1 (by unfold wrs; rw [if_neg (by omega)]) (ft_form _ _ _ _ _ _ _ _ _ _ _ _ _ _ _ _ hf.1 hf.2)
      · by_cases hl : 65535 < d.size
        · have e1 : wre v y d.size = 2 := by unfold wre; rw [if_neg h1, if_neg hf, if_pos hl]
          refine fin _ _ e1 (by unfold wrs; rw [if_neg (by omega)]) ?_
          by_cases h0 : v = -1
          · exact ft_largeB _ _ _ _ _ _ _ _ _ _ _ _ _ _ _ _ h0 (by simp; omega) hy.1 hy.2 hl
          · exact ft_largeT _ _ _ _ _ _ _ _ _ _ _ _ _ _ _ _ (by omega) hv.2 hy.1 hy.2 hl
        · have e1 : wre v y d.size = 0 := by unfold wre; rw [if_neg h1, if_neg hf, if_neg hl]
          refine fin _ _ e1 (by unfold wrs; rw [if_pos e1]) ?_
          by_cases h0 : v = -1
          · exact ft_bare _ _ _ _ _ _ _ _ _ _ _ _ _ _ _ _ h0 (by simp; omega) hy.1 hy.2 (by omega)
          · exact ft_tag _ _ _ _ _ _ _ _ _ _ _ _ _ _ _ _ (by omega) hv.2 hy.1 hy.2 (by omega)
    · have e1 : wre v y d.size = 1 := by unfold wre; rw [if_pos (by omega)]
      exact fin _ _ e1 (by unfold wrs; rw [if_neg (by omega)]) (ft_type _ _ _ _ _ _ _ _ _ _ _ _ _ _ _ _ hv hy)
  · have e1 : wre v y d.size = 1 := by unfold wre; rw [if_pos (by omega)]
    exact fin _ _ e1 (by unfold wrs; rw [if_neg (by omega)]) (ft_vlan _ _ _ _ _ _ _ _ _ _ _ _ _ _ _ _ hv)
end Go.Proofs.Ytolhmmnaohadcaa.ethf
