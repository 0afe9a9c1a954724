/- The walk through custkeep.TcpShifts. -/
import Derived.Test.YtpcknkpddinccaaDoorTcpLives
import Derived.Test.YtpcknkpddinccaaDoorTcpSame
import Derived.Test.YtpcknkpddinccaaDoorTcpShMath
import Derived.Test.YtpcknkpddinccaaDoorTcpMvWalk
namespace Go.Proofs.YtpcknkpddinccaaDoor.tcsh
open Go.ChangeShapes Go.WideShapes Go.ChangeAt Go.RowKit Go.BigFrame
open Go.Proofs.YtpcknkpddinccaaDoor Go.Proofs.YtpcknkpddinccaaDoor.EM Go.Proofs.YtpcknkpddinccaaDoor.ethb Go.Proofs.YtpcknkpddinccaaDoor.SM Go.Proofs.YtpcknkpddinccaaDoor.ipb Go.Proofs.YtpcknkpddinccaaDoor.boxes Go.Proofs.YtpcknkpddinccaaDoor.wds Go.Proofs.YtpcknkpddinccaaDoor.tcb Go.Proofs.YtpcknkpddinccaaDoor.tct Go.Proofs.YtpcknkpddinccaaDoor.rwr Go.Proofs.YtpcknkpddinccaaDoor.tcm Go.Proofs.YtpcknkpddinccaaDoor.tcs Go.Proofs.YtpcknkpddinccaaDoor.tcl Go.Proofs.YtpcknkpddinccaaDoor.tcsm
open Go.Proofs.YtpcknkpddinccaaDoor.rws (Knd Own)
open Go.Proofs.YtpcknkpddinccaaDoor.dgi (Ad)

/-- what Move answers, of so many options -/
theorem mv (h : Sh) (v : Value) (os : List Opt) (a b : Int) (n : Nat) (hn : os.length = n) (u : World) (hu : Rd OK u v os) (hb : os.length * 24 ≤ 140737488355328) (hz : ∀ o ∈ os, o.d.size ≤ 140737488351232) :
    Calls Tryd.prog 14 #[.agg (h.cells v), .int .u32 a, .int .u32 b] u fun e w' => ∃ sa sc, e = .returned (.agg ((mvh h a b).cells (.slice sa n sc))) ∧ Rd OK w' (.slice sa n sc) (mvs h os b) ∧ Below u.heap.size u w' := by
  refine (tcw.move_any h v os a b u hu hb hz).mono ?_
  rintro e w' ⟨v', rfl, o, hl⟩
  obtain ⟨sa, sc, rfl⟩ := (Own.rd o).form
  have e1 := mvs_len h os b
  rw [hn] at e1
  have r := Own.rd o
  rw [e1] at r ⊢
  exact ⟨sa, sc, rfl, r, hl⟩
set_option maxRecDepth 20000 in
set_option maxHeartbeats 8000000 in
theorem walk (h : Sh) (v : Value) (os : List Opt) (a b c d : Int) (w : World) (hr : Rd OK w v os) (ha : h.Adr) (hl : os.length ≤ 5864062014634) (hd : h.d.size ≤ 140737488351232) (hz : ∀ o ∈ os, o.d.size ≤ 140737488351232) :
    Calls Tryd.prog 5 #[.agg (h.cells v), .int .u32 a, .int .u32 b, .int .u32 c, .int .u32 d] w fun e w' => e = .returned (.bool true) ∧ Below w.heap.size w w' := by
  obtain ⟨n, N⟩ : ∃ n, os.length = n := ⟨_, rfl⟩
  obtain ⟨sa, sc, rfl⟩ := hr.form
  rw [N] at hr ⊢
  obtain ⟨A, eA⟩ : ∃ A, A = (a + c) % 4294967296 := ⟨_, rfl⟩
  obtain ⟨B, eB⟩ : ∃ B, B = (b + d) % 4294967296 := ⟨_, rfl⟩
  have C1 := fun u hu => mv h (.slice sa n sc) os a b n N u hu (by omega) hz
  have CY := fun u hu => mv h (.slice sa n sc) os A B n N u hu (by omega) hz
  have C2 : ∀ u x, Rd OK u x (mvs h os b) → Calls Tryd.prog 14 #[.agg ((mvh h a b).cells x), .int .u32 c, .int .u32 d] u fun e w' => ∃ sa sc, e = .returned (.agg ((mvh h A B).cells (.slice sa n sc))) ∧ Rd OK w' (.slice sa n sc) (mvs h os B) ∧ Below u.heap.size u w' := fun u x hx => by
    have := mv (mvh h a b) x (mvs h os b) c d n (by rw [mvs_len, N]) u hx (by rw [mvs_len]; omega) (mvs_size h os b _ hz)
    rw [mvh_mvh, mvs_mvs, ← eA, ← eB] at this
    exact this
  have CZ : ∀ u x P Q, (A + P) % 4294967296 = 0 → (B + Q) % 4294967296 = 0 → Rd OK u x (mvs h os B) → Calls Tryd.prog 14 #[.agg ((mvh h A B).cells x), .int .u32 P, .int .u32 Q] u fun e w' => ∃ sa sc, e = .returned (.agg (h.cells (.slice sa n sc))) ∧ Rd OK w' (.slice sa n sc) os ∧ Below u.heap.size u w' := fun u x P Q hP hQ hx => by
    have := mv (mvh h A B) x (mvs h os B) P Q n (by rw [mvs_len, N]) u hx (by rw [mvs_len]; omega) (mvs_size h os B _ hz)
    rw [mvh_mvh, mvs_mvs, hP, hQ, mvh_zero h ha, mvs_zero] at this
    exact this
  have W1 := fun u hu => tcw4.write_any h (.slice sa n sc) os 1 2 u hu (by omega) hd ha ⟨by omega, by omega⟩ ⟨by omega, by omega⟩
  have W2 : ∀ u x, Rd OK u x (mvs h os B) → Calls Tryd.prog 8 #[.agg ((mvh h A B).cells x), .int .u32 1, .int .u32 2] u fun e w' => e = .returned (.tuple #[.string (sout (mvh h A B) (mvs h os B) 1 2), .int .i64 (serr h os)]) ∧ Below u.heap.size u w' := fun u x hx => by
    have := tcw4.write_any (mvh h A B) x (mvs h os B) 1 2 u hx (by rw [mvs_len]; omega) (by rw [mvh_d]; exact hd) (mvh_adr h ha A B) ⟨by omega, by omega⟩ ⟨by omega, by omega⟩
    rw [serr_mv] at this
    exact this
  have SY := fun u x y h1 h2 => same_any (mvh h A B) x y (mvs h os B) u h1 h2
  have SZ := fun u x y h1 h2 => same_any h x y os u h1 h2
  generalize sout (mvh h A B) (mvs h os B) 1 2 = T2 at W2
  generalize sout h os 1 2 = T1 at W1
  generalize serr h os = E at W1 W2
  generalize mvh h A B = Y at *
  generalize mvs h os B = YS at *
  generalize mvh h a b = X1 at *
  generalize mvs h os b = X1S at *
  have F0 := Blk.new w (h.cells (.slice sa n sc)) 25
  have e0 := (Below.refl w.heap.size w).alloc (Nat.le_refl _) (.cells (h.cells (.slice sa n sc)) 25)
  have r0 := hr.below e0
  have HA : Hid (A = (a + c) % 4294967296) := eA
  have HB : Hid (B = (b + d) % 4294967296) := eB
  clear hr ha hd hz hl N eA eB
  go_enter Tryd.func5, Tryd.ntmps5
  go_wp2_with (refine blk_load _ rfl 25 _ rfl w.heap.size rfl _ _ F0 _ Tryd.underlying25 rfl 9 sg_info rfl ?_)
  refine (C1 _ r0).mono ?_
  rintro e w1 ⟨sa1, sc1, rfl, q1, l1⟩
  have F1 := F0.below l1 F0.lt
  have e1 := e0.trans (l1.mono e0.size)
  have r1 := r0.below l1
  clear C1 F0 e0 r0 l1
  go_wp2_with fail
  refine (C2 _ _ q1).mono ?_
  rintro e w2 ⟨sa2, sc2, rfl, q2, l2⟩
  have F2 := F1.below l2 F1.lt
  have e2 := e1.trans (l2.mono e1.size)
  have r2 := r1.below l2
  clear C2 F1 e1 r1 l2 q1
  have dA := (Below.refl w2.heap.size w2).alloc (Nat.le_refl _) (.cells (zeroS.cells (.slice none 0 0)) 25)
  go_upto_region 2 with (refine blk_store _ rfl 25 _ _ rfl w2.heap.size (Y.cells (.slice sa2 n sc2)) rfl rfl _ _ (Blk.new w2 (zeroS.cells (.slice none 0 0)) 25) 9 sg_info rfl rfl (sg_one _ _ _ _) ?_; intro w3 X3 p3)
  have l3 := p3.below dA (Nat.le_refl _)
  have F3 := F2.below l3 F2.lt
  have e3 := e2.trans (l3.mono e2.size)
  have r3 := r2.below l3
  have q3 := q2.below l3
  clear F2 e2 r2 q2 p3 l3 dA
  have CY3 := CY _ r3
  rw [HA.out, HB.out] at CY3
  clear CY
  go_wp2_with (refine blk_load _ rfl 25 _ rfl w.heap.size rfl _ _ F3 _ Tryd.underlying25 rfl 9 sg_info rfl ?_)
  refine CY3.mono ?_
  rintro e w4 ⟨sa4, sc4, rfl, q4, l4⟩
  have F4 := F3.below l4 F3.lt
  have e4 := e3.trans (l4.mono e3.size)
  have r4 := r3.below l4
  have x4 := q3.below l4
  have X4 := X3.below l4 X3.lt
  have X4t := X4.lt
  clear CY3 F3 e3 r3 q3 l4 X3
  have dA := (Below.refl w4.heap.size w4).alloc (Nat.le_refl _) (.cells (zeroS.cells (.slice none 0 0)) 25)
  go_upto_region 3 with (refine blk_store _ rfl 25 _ _ rfl w4.heap.size (Y.cells (.slice sa4 n sc4)) rfl rfl _ _ (Blk.new w4 (zeroS.cells (.slice none 0 0)) 25) 9 sg_info rfl rfl (sg_one _ _ _ _) ?_; intro w5 Y5 p5)
  have l5 := p5.below dA (Nat.le_refl _)
  have F5 := F4.below l5 F4.lt
  have e5 := e4.trans (l5.mono e4.size)
  have r5 := r4.below l5
  have x5 := x4.below l5
  have X5 := X4.below l5 X4.lt
  have y5 := q4.below l5
  clear F4 e4 r4 x4 X4 q4 p5 l5 dA
  go_wp2_with (refine blk_load _ rfl 25 _ rfl w4.heap.size rfl _ _ Y5 _ Tryd.underlying25 rfl 9 sg_info rfl ?_)
  refine (CZ _ _ _ _ (by rw [HA.out]; omega) (by rw [HB.out]; omega) y5).mono ?_
  rintro e w6 ⟨sa6, sc6, rfl, q6, l6⟩
  have F6 := F5.below l6 F5.lt
  have e6 := e5.trans (l6.mono e5.size)
  have r6 := r5.below l6
  have x6 := x5.below l6
  have X6 := X5.below l6 X5.lt
  have y6 := y5.below l6
  have Y6 := Y5.below l6 Y5.lt
  have Y6t := Y6.lt
  clear CZ F5 e5 r5 x5 X5 y5 Y5 l6 HA HB
  have dA := (Below.refl w6.heap.size w6).alloc (Nat.le_refl _) (.cells (zeroS.cells (.slice none 0 0)) 25)
  go_upto_region 4 with (refine blk_store _ rfl 25 _ _ rfl w6.heap.size (h.cells (.slice sa6 n sc6)) rfl rfl _ _ (Blk.new w6 (zeroS.cells (.slice none 0 0)) 25) 9 sg_info rfl rfl (sg_one _ _ _ _) ?_; intro w7 Z7 p7)
  have l7 := p7.below dA (Nat.le_refl _)
  have F7 := F6.below l7 F6.lt
  have e7 := e6.trans (l7.mono e6.size)
  have r7 := r6.below l7
  have x7 := x6.below l7
  have X7 := X6.below l7 X6.lt
  have y7 := y6.below l7
  have Y7 := Y6.below l7 Y6.lt
  have z7 := q6.below l7
  clear F6 e6 r6 x6 X6 y6 Y6 q6 p7 l7 dA
  go_wp2_with (refine blk_load _ rfl 25 _ rfl w.heap.size rfl _ _ F7 _ Tryd.underlying25 rfl 9 sg_info rfl ?_)
  refine (W1 _ r7).mono ?_
  rintro e w8 ⟨rfl, l8⟩
  have F8 := F7.below l8 F7.lt
  have e8 := e7.trans (l8.mono e7.size)
  have r8 := r7.below l8
  have x8 := x7.below l8
  have X8 := X7.below l8 X7.lt
  have y8 := y7.below l8
  have Y8 := Y7.below l8 Y7.lt
  have z8 := z7.below l8
  have Z8 := Z7.below l8 Z7.lt
  clear W1 F7 e7 r7 x7 X7 y7 Y7 z7 Z7 l8
  go_wp2_with (refine blk_load _ rfl 25 _ rfl w4.heap.size rfl _ _ Y8 _ Tryd.underlying25 rfl 9 sg_info rfl ?_)
  refine (W2 _ _ y8).mono ?_
  rintro e w9 ⟨rfl, l9⟩
  have F9 := F8.below l9 F8.lt
  have e9 := e8.trans (l9.mono e8.size)
  have r9 := r8.below l9
  have x9 := x8.below l9
  have X9 := X8.below l9 X8.lt
  have y9 := y8.below l9
  have Y9 := Y8.below l9 Y8.lt
  have z9 := z8.below l9
  have Z9 := Z8.below l9 Z8.lt
  clear W2 F8 e8 r8 x8 X8 y8 Y8 z8 Z8 l9
  go_wp2_with fail
  refine (lives _).mono ?_
  rintro e wa ⟨rfl, la⟩
  have Fa := F9.below la F9.lt
  have ea := e9.trans (la.mono e9.size)
  have ra := r9.below la
  have xa := x9.below la
  have Xa := X9.below la X9.lt
  have ya := y9.below la
  have Ya := Y9.below la Y9.lt
  have za := z9.below la
  have Za := Z9.below la Z9.lt
  clear F9 e9 r9 x9 X9 y9 Y9 z9 Z9 la
  have SYa := SY wa _ _ xa ya
  have cX := Xa.cell
  have cY := Ya.cell
  clear SY xa ya
  go_wp2_with fail
  refine SYa.mono ?_
  rintro e wb ⟨rfl, lb⟩
  have Fb := Fa.below lb Fa.lt
  have eb := ea.trans (lb.mono ea.size)
  have rb := ra.below lb
  have zb := za.below lb
  have Zb := Za.below lb Za.lt
  clear SYa Fa ea ra za Za lb cX cY Xa Ya
  have SZb := SZ wb _ _ zb rb
  have cZ := Zb.cell
  have cF := Fb.cell
  clear SZ zb rb
  go_wp2_with fail
  refine SZb.mono ?_
  rintro e wd ⟨rfl, ld⟩
  have ed := eb.trans (ld.mono eb.size)
  clear SZb cZ cF Zb Fb eb ld
  go_wp2_with fail
  go_ret
  exact ⟨rfl, ed⟩
end Go.Proofs.YtpcknkpddinccaaDoor.tcsh
