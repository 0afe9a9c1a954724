/- Whatever two states come to by the same eight bytes, it is one just if they are one. -/
import Derived.Test.YthdplonfhhnpaaaSipLives
import Derived.Test.YthdplonfhhnpaaaArgsSip
namespace Go.Proofs.Ythdplonfhhnpaaa.sipk
open Go.ChangeShapes Go.WideShapes Go.ChangeAt Go.RowKit Go.BigFrame
open Go.Proofs.Ythdplonfhhnpaaa Go.Proofs.Ythdplonfhhnpaaa.sipm Go.Proofs.Ythdplonfhhnpaaa.boxes Go.Proofs.Ythdplonfhhnpaaa.ethb Go.Proofs.Ythdplonfhhnpaaa.sipb Go.Proofs.Ythdplonfhhnpaaa.sipt Go.Proofs.Ythdplonfhhnpaaa.sipn Go.Proofs.Ythdplonfhhnpaaa.sipf Go.Proofs.Ythdplonfhhnpaaa.sipr Go.Proofs.Ythdplonfhhnpaaa.sipo Go.Proofs.Ythdplonfhhnpaaa.sipe Go.Proofs.Ythdplonfhhnpaaa.sipl Go.Proofs.Ythdplonfhhnpaaa.argsp Go.Proofs.Ythdplonfhhnpaaa.sipg

theorem ev_eight (v : V4) (s : ByteArray) (h : s.size = 8) : ev v ⟨#[]⟩ s = tk v (eight s.data.toList) := by
  unfold ev
  rw [show (⟨#[]⟩ : ByteArray).data.toList = [] from rfl, eat_eight v _ (by simpa using h)]
theorem ep_eight (v : V4) (s : ByteArray) (h : s.size = 8) : ep v ⟨#[]⟩ s = ⟨#[]⟩ := by
  unfold ep
  rw [show (⟨#[]⟩ : ByteArray).data.toList = [] from rfl, eat_eight v _ (by simpa using h)]
theorem more8 (v : V4) (s : ByteArray) (h : s.size = 8) (u : World) :
    Calls Try.prog 6 #[.agg (sc v ⟨#[]⟩ 0), .string s] u fun e w' => e = .returned (.tuple #[.agg (sc (tk v (eight s.data.toList)) ⟨#[]⟩ 8), .int .i64 0]) ∧ Below u.heap.size u w' := by
  have := more_ok v ⟨#[]⟩ s 0 u okf_zero (by omega) (by omega)
  rw [ev_eight v s h, ep_eight v s h, h] at this
  exact this
set_option maxHeartbeats 4000000 in
theorem back_any (x y : V4) (p q s : ByteArray) (m n : Int) (w : World) :
    Calls Try.prog 5 #[.agg (sc x p m), .agg (sc y q n), .string s] w fun e w' => e = .returned (.bool true) ∧ Below w.heap.size w w' := by
  have X0 : Blk ((w.alloc (.cells (sc x p m) 27)).alloc (.cells (sc y q n) 27)) w.heap.size (sc x p m) 27 := (Blk.new _ _ _).alloc _
  have Y0 : Blk ((w.alloc (.cells (sc x p m) 27)).alloc (.cells (sc y q n) 27)) (w.heap.size + 1) (sc y q n) 27 := Blk.newAt _ _ _ (by simp)
  have B0 := ((Below.refl w.heap.size w).alloc (Nat.le_refl _) (.cells (sc x p m) 27)).alloc (by simp) (.cells (sc y q n) 27)
  by_cases h8 : s.size = 8
  · have h8' : (s.size : Int) = 8 := by omega
    obtain ⟨X1, Y1, C, D, HX⟩ : ∃ X1 Y1 : V4, (∀ u, Calls Try.prog 6 #[.agg (sc x ⟨#[]⟩ 0), .string s] u fun e w' => e = .returned (.tuple #[.agg (sc X1 ⟨#[]⟩ 8), .int .i64 0]) ∧ Below u.heap.size u w') ∧
        (∀ u, Calls Try.prog 6 #[.agg (sc y ⟨#[]⟩ 0), .string s] u fun e w' => e = .returned (.tuple #[.agg (sc Y1 ⟨#[]⟩ 8), .int .i64 0]) ∧ Below u.heap.size u w') ∧ (X1 = Y1 ↔ x = y) :=
      ⟨_, _, more8 x s h8, more8 y s h8, ⟨tk_inj, fun h => by rw [h]⟩⟩
    go_enter Try.func5, Try.ntmps5
    go_upto_region 1 with fail
    refine gen2 (p := fun W => Code.wp _ _ _ _ W) X0 Y0 B0 ?_
    clear X0 Y0 B0
    intro W X Y B
    go_wp2_with fail
    refine (lives_any _).mono ?_
    rintro e W1 ⟨rfl, z⟩
    replace X := X.below z X.lt
    replace Y := Y.below z Y.lt
    replace B := B.trans (z.mono (Below.size B))
    clear z
    have cx := X.cell
    have cy := Y.cell
    have fx := X.free
    have fy := Y.free
    go_upto_region 4 with fail
    clear cx cy fx fy
    have X4 := (but_setCell _ (w.heap.size + 1) 5 (.int .i64 0)).blk (((but_setCell _ (w.heap.size + 1) 4 (.string ⟨#[]⟩)).blk (X.setCell 4 (.string ⟨#[]⟩)) (by omega)).setCell 5 (.int .i64 0)) (by omega)
    have Y4 := ((but_setCell _ w.heap.size 5 (.int .i64 0)).blk (((but_setCell _ w.heap.size 4 (.string ⟨#[]⟩)).blk Y (by omega)).setCell 4 (.string ⟨#[]⟩)) (by omega)).setCell 5 (.int .i64 0)
    have B4 := (but_setCell _ (w.heap.size + 1) 5 (.int .i64 0)).below ((but_setCell _ w.heap.size 5 (.int .i64 0)).below ((but_setCell _ (w.heap.size + 1) 4 (.string ⟨#[]⟩)).below ((but_setCell _ w.heap.size 4 (.string ⟨#[]⟩)).below B (Nat.le_refl _)) (by omega)) (Nat.le_refl _)) (by omega)
    refine gen2 (p := fun W => Code.wp _ _ _ _ W) X4 Y4 B4 ?_
    clear X Y B X4 Y4 B4
    intro W (X : Blk _ _ (sc x ⟨#[]⟩ 0) _) (Y : Blk _ _ (sc y ⟨#[]⟩ 0) _) B
    go_wp2_with (refine blk_load _ rfl 27 _ rfl _ rfl _ _ X _ Try.underlying27 rfl 6 sp_info rfl ?_)
    refine (C _).mono ?_
    rintro e W2 ⟨rfl, z⟩
    replace X := X.below z X.lt
    replace Y := Y.below z Y.lt
    replace B := B.trans (z.mono (Below.size B))
    clear z
    go_upto_region 5 with (refine blk_store _ rfl 27 _ _ rfl W2.heap.size (sc X1 ⟨#[]⟩ 8) rfl rfl _ _ (Blk.new W2 ZS 27) 6 sp_info rfl rfl (sp_one _ _ _ _ _ _) ?_; intro W3 P3 p3)
    have dA := (Below.refl W2.heap.size W2).alloc (Nat.le_refl _) (.cells ZS 27)
    have d3 := p3.below dA (Nat.le_refl _)
    replace X := X.below d3 X.lt
    replace Y := Y.below d3 Y.lt
    replace B := B.trans (d3.mono (Below.size B))
    clear dA p3 d3
    generalize W2.heap.size = g at *
    go_wp2_with (refine blk_load _ rfl 27 _ rfl _ rfl _ _ Y _ Try.underlying27 rfl 6 sp_info rfl ?_)
    refine (D _).mono ?_
    rintro e W4 ⟨rfl, z⟩
    replace X := X.below z X.lt
    replace Y := Y.below z Y.lt
    have P4 := P3.below z P3.lt
    replace B := B.trans (z.mono (Below.size B))
    clear z P3
    go_upto_region 6 with (refine blk_store _ rfl 27 _ _ rfl W4.heap.size (sc Y1 ⟨#[]⟩ 8) rfl rfl _ _ (Blk.new W4 ZS 27) 6 sp_info rfl rfl (sp_one _ _ _ _ _ _) ?_; intro W5 Q5 p5)
    have dA := (Below.refl W4.heap.size W4).alloc (Nat.le_refl _) (.cells ZS 27)
    have d5 := p5.below dA (Nat.le_refl _)
    replace X := X.below d5 X.lt
    replace Y := Y.below d5 Y.lt
    have P5 := P4.below d5 P4.lt
    replace B := B.trans (d5.mono (Below.size B))
    clear dA p5 d5 P4
    generalize W4.heap.size = g' at *
    have cx := X.cell
    have cy := Y.cell
    have cp := P5.cell
    have cq := Q5.cell
    by_cases hv : x = y
    · obtain rfl := HX.2 hv
      subst hv
      have e1 : ∀ u, (Op.equalIn 9999 25 (.agg #[nm x.a, nm x.b, nm x.c, nm x.d]) (.agg #[nm x.a, nm x.b, nm x.c, nm x.d])).run Try.prog u = .ok true u := fun u => v4_same x 9997 u
      have e2 : ∀ u, (Op.equalIn 9999 25 (.agg #[nm X1.a, nm X1.b, nm X1.c, nm X1.d]) (.agg #[nm X1.a, nm X1.b, nm X1.c, nm X1.d])).run Try.prog u = .ok true u := fun u => v4_same X1 9997 u
      go_quiet (fail)
      go_wp2_with fail
      go_ret
      exact ⟨rfl, bdrewN B _⟩
    · have e1 : ∀ u, (Op.equalIn 9999 25 (.agg #[nm x.a, nm x.b, nm x.c, nm x.d]) (.agg #[nm y.a, nm y.b, nm y.c, nm y.d])).run Try.prog u = .ok false u := fun u => v4_other hv 9997 u
      have e2 : ∀ u, (Op.equalIn 9999 25 (.agg #[nm X1.a, nm X1.b, nm X1.c, nm X1.d]) (.agg #[nm Y1.a, nm Y1.b, nm Y1.c, nm Y1.d])).run Try.prog u = .ok false u := fun u => v4_other (fun h => hv (HX.1 h)) 9997 u
      go_quiet (fail)
      go_wp2_with fail
      go_ret
      exact ⟨rfl, bdrewN B _⟩
  · have h8' : ¬ (s.size : Int) = 8 := by omega
    go_enter Try.func5, Try.ntmps5
    go_upto_region 1 with fail
    refine gen2 (p := fun W => Code.wp _ _ _ _ W) X0 Y0 B0 ?_
    clear X0 Y0 B0
    intro W X Y B
    go_wp2_with fail
    refine (lives_any _).mono ?_
    rintro e W1 ⟨rfl, z⟩
    replace B := B.trans (z.mono (Below.size B))
    clear z
    go_wp2_with fail
    refine (lives_any _).mono ?_
    rintro e W2 ⟨rfl, z⟩
    replace B := B.trans (z.mono (Below.size B))
    clear z
    go_wp2_with fail
    go_ret
    exact ⟨rfl, B⟩
end Go.Proofs.Ythdplonfhhnpaaa.sipk
