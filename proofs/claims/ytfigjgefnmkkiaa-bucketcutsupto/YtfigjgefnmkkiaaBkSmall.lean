/- The small ones: bucket.isIn, Check, custref.Between, BucketRight. -/
import Derived.Test.YtfigjgefnmkkiaaBkBase
namespace Go.Proofs.Ytfigjgefnmkkiaa.bkt
open Go.ChangeShapes Go.WideShapes Go.ChangeAt Go.RowKit Go.BigFrame
open Go.Proofs.Ytfigjgefnmkkiaa Go.Proofs.Ytfigjgefnmkkiaa.boxes Go.Proofs.Ytfigjgefnmkkiaa.rwr
open Go.Proofs.Ytfigjgefnmkkiaa.rws (Knd Own)

theorem isIn_any (n l h : Int) (w : World) : Calls Try.prog 21 #[.int .i64 n, .int .i64 l, .int .i64 h] w fun e w' => e = .returned (.bool (bt n l h)) ∧ w' = w := by
  unfold bt
  by_cases h1 : l ≤ n
  · by_cases h2 : n ≤ h
    all_goals go_enter Try.func21, Try.ntmps21
    all_goals go_wp2_with fail
    all_goals go_ret
    all_goals exact ⟨ret_bool (by first | (simp; done) | (simp; omega)), rfl⟩
  · go_enter Try.func21, Try.ntmps21
    go_wp2_with fail
    go_ret
    exact ⟨ret_bool (by first | (simp; done) | (simp; omega)), rfl⟩
theorem between_any (n l h : Int) (w : World) : Calls Try.prog 14 #[.int .i64 n, .int .i64 l, .int .i64 h] w fun e w' => e = .returned (.bool (bt n l h)) ∧ w' = w := by
  unfold bt
  by_cases h1 : l ≤ n
  · by_cases h2 : n ≤ h
    all_goals go_enter Try.func14, Try.ntmps14
    all_goals go_wp2_with fail
    all_goals go_ret
    all_goals exact ⟨ret_bool (by first | (simp; done) | (simp; omega)), rfl⟩
  · go_enter Try.func14, Try.ntmps14
    go_wp2_with fail
    go_ret
    exact ⟨ret_bool (by first | (simp; done) | (simp; omega)), rfl⟩
set_option maxRecDepth 20000 in
theorem check_any (b : Bu) (w : World) : Calls Try.prog 16 #[.agg (Bu.cells b)] w fun e w' => e = .returned (.int .i64 (chk b)) ∧ Below w.heap.size w w' := by
  obtain ⟨r, m, h, a⟩ := b
  unfold chk okA okF
  dsimp only [Bu.cells]
  have C1 := fun W => isIn_any r 0 1000000 W
  have C2 := fun W => isIn_any m 1 1000000000 W
  have C3 := fun W => isIn_any h 0 m W
  have C4 := fun W => isIn_any a 0 1099511627776 W
  generalize bt r 0 1000000 = x1 at *
  generalize bt m 1 1000000000 = x2 at *
  generalize bt h 0 m = x3 at *
  generalize bt a 0 1099511627776 = x4 at *
  have b0 := (Below.refl w.heap.size w).alloc (Nat.le_refl _) (.cells (BC r m h a) 23)
  have G0 := Blk.new w (BC r m h a) 23
  go_enter Try.func16, Try.ntmps16
  go_upto_region 1 with fail
  generalize hW : w.alloc (Obj.cells (BC r m h a) 23) = W at *
  clear hW
  have c0 := G0.cell
  go_wp2_with fail
  refine (C1 _).mono ?_
  rintro e w1 ⟨rfl, rfl⟩
  cases x1 with
  | false =>
    go_wp2_with fail
    go_ret
    exact ⟨ret_int (by simp), b0⟩
  | true =>
    go_wp2_with fail
    refine (C2 _).mono ?_
    rintro e w1 ⟨rfl, rfl⟩
    cases x2 with
    | false =>
      go_wp2_with fail
      go_ret
      exact ⟨ret_int (by simp), b0⟩
    | true =>
      go_wp2_with fail
      refine (C3 _).mono ?_
      rintro e w1 ⟨rfl, rfl⟩
      cases x3 with
      | false =>
        go_wp2_with fail
        go_ret
        exact ⟨ret_int (by simp), b0⟩
      | true =>
        go_wp2_with fail
        refine (C4 _).mono ?_
        rintro e w1 ⟨rfl, rfl⟩
        cases x4 with
        | false =>
          go_wp2_with fail
          go_ret
          exact ⟨ret_int (by simp), b0⟩
        | true =>
          go_wp2_with fail
          go_ret
          exact ⟨ret_int (by simp), b0⟩
set_option maxRecDepth 20000 in
theorem right_any (b : Bu) (w : World) : Calls Try.prog 13 #[.agg (Bu.cells b)] w fun e w' => e = .returned (.int .i64 (chk b)) ∧ Below w.heap.size w w' := by
  obtain ⟨r, m, h, a⟩ := b
  unfold chk okA okF
  dsimp only [Bu.cells]
  have C1 := fun W => between_any r 0 1000000 W
  have C2 := fun W => between_any m 1 1000000000 W
  have C3 := fun W => between_any h 0 m W
  have C4 := fun W => between_any a 0 1099511627776 W
  generalize bt r 0 1000000 = x1 at *
  generalize bt m 1 1000000000 = x2 at *
  generalize bt h 0 m = x3 at *
  generalize bt a 0 1099511627776 = x4 at *
  have b0 := (Below.refl w.heap.size w).alloc (Nat.le_refl _) (.cells (BC r m h a) 23)
  have G0 := Blk.new w (BC r m h a) 23
  go_enter Try.func13, Try.ntmps13
  go_upto_region 1 with fail
  generalize hW : w.alloc (Obj.cells (BC r m h a) 23) = W at *
  clear hW
  have c0 := G0.cell
  go_wp2_with fail
  refine (C1 _).mono ?_
  rintro e w1 ⟨rfl, rfl⟩
  cases x1 with
  | false =>
    go_wp2_with fail
    go_ret
    exact ⟨ret_int (by simp), b0⟩
  | true =>
    go_wp2_with fail
    refine (C2 _).mono ?_
    rintro e w1 ⟨rfl, rfl⟩
    cases x2 with
    | false =>
      go_wp2_with fail
      go_ret
      exact ⟨ret_int (by simp), b0⟩
    | true =>
      go_wp2_with fail
      refine (C3 _).mono ?_
      rintro e w1 ⟨rfl, rfl⟩
      cases x3 with
      | false =>
        go_wp2_with fail
        go_ret
        exact ⟨ret_int (by simp), b0⟩
      | true =>
        go_wp2_with fail
        refine (C4 _).mono ?_
        rintro e w1 ⟨rfl, rfl⟩
        cases x4 with
        | false =>
          go_wp2_with fail
          go_ret
          exact ⟨ret_int (by simp), b0⟩
        | true =>
          go_wp2_with fail
          go_ret
          exact ⟨ret_int (by simp), b0⟩
end Go.Proofs.Ytfigjgefnmkkiaa.bkt
