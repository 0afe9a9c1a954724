/- The walk through custkeep.EthBack. -/
import Derived.Test.YtolhmmnaohadcaaEthRead
import Derived.Test.YtolhmmnaohadcaaEthLives
import Derived.Test.YtolhmmnaohadcaaEthShow
import Derived.Test.YtolhmmnaohadcaaEthBackMath
import Derived.Deep.DeepCutAuto
namespace Go.Proofs.Ytolhmmnaohadcaa.ethback
open Go.ChangeShapes Go.WideShapes Go.ChangeAt Go.RowKit
open Go.Proofs.Ytolhmmnaohadcaa.EM Go.Proofs.Ytolhmmnaohadcaa.EH Go.Proofs.Ytolhmmnaohadcaa.ethb Go.Proofs.Ytolhmmnaohadcaa.ethl Go.Proofs.Ytolhmmnaohadcaa.boxes Go.Proofs.Ytolhmmnaohadcaa.ethp Go.Proofs.Ytolhmmnaohadcaa.ethm

set_option maxHeartbeats 2000000 in
theorem core (t0 t1 t2 t3 t4 t5 f0 f1 f2 f3 f4 f5 m0 m1 m2 m3 m4 m5 : UInt8) (v y : Int) (d s c D T : ByteArray) (e e2 e4 x0 x1 x2 x3 x4 x5 x6 x7 x8 x9 x10 x11 v' y' p0 p1 p2 p3 p4 p5 : Int) (w : World)
    (CW : ∀ u, Hid (Calls Try.prog 6 #[.agg (frame t0.toNat t1.toNat t2.toNat t3.toNat t4.toNat t5.toNat f0.toNat f1.toNat f2.toNat f3.toNat f4.toNat f5.toNat v y d)] u fun r w' => r = .returned (.tuple #[.string c, .int .i64 e]) ∧ Below u.heap.size u w')) (CR : e = 0 → ∀ u, Hid (Calls Try.prog 8 #[.string c] u fun r w' => r = .returned (.tuple #[.agg (frame t0.toNat t1.toNat t2.toNat t3.toNat t4.toNat t5.toNat f0.toNat f1.toNat f2.toNat f3.toNat f4.toNat f5.toNat v y d), .int .i64 0]) ∧ Below u.heap.size u w'))
    (CS : ∀ u, Hid (Calls Try.prog 8 #[.string s] u fun r w' => r = .returned (.tuple #[.agg (frame x0 x1 x2 x3 x4 x5 x6 x7 x8 x9 x10 x11 v' y' D), .int .i64 e2]) ∧ Below u.heap.size u w')) (CV : e2 = 0 → ∀ u, Hid (Calls Try.prog 6 #[.agg (frame x0 x1 x2 x3 x4 x5 x6 x7 x8 x9 x10 x11 v' y' D)] u fun r w' => r = .returned (.tuple #[.string s, .int .i64 0]) ∧ Below u.heap.size u w'))
    (CM : ∀ u, Hid (Calls Try.prog 11 #[.agg #[.int .u8 (m0.toNat : Int), .int .u8 (m1.toNat : Int), .int .u8 (m2.toNat : Int), .int .u8 (m3.toNat : Int), .int .u8 (m4.toNat : Int), .int .u8 (m5.toNat : Int)]] u fun r w' => r = .returned (.string T) ∧ Below u.heap.size u w')) (CN : ∀ u, Hid (Calls Try.prog 10 #[.string T] u fun r w' => r = .returned (.tuple #[.agg #[.int .u8 (m0.toNat : Int), .int .u8 (m1.toNat : Int), .int .u8 (m2.toNat : Int), .int .u8 (m3.toNat : Int), .int .u8 (m4.toNat : Int), .int .u8 (m5.toNat : Int)], .int .i64 0]) ∧ Below u.heap.size u w')) (CP : ∀ u, Hid (Calls Try.prog 10 #[.string s] u fun r w' => r = .returned (.tuple #[.agg #[.int .u8 p0, .int .u8 p1, .int .u8 p2, .int .u8 p3, .int .u8 p4, .int .u8 p5], .int .i64 e4]) ∧ Below u.heap.size u w')) (CQ : e4 = 0 → ∀ u, Hid (Calls Try.prog 11 #[.agg #[.int .u8 p0, .int .u8 p1, .int .u8 p2, .int .u8 p3, .int .u8 p4, .int .u8 p5]] u fun r w' => r = .returned (.string s) ∧ Below u.heap.size u w'))
    (Z1 : ∀ u, (Op.equalIn 9999 23 (.agg #[.int .u8 (t0.toNat : Int), .int .u8 (t1.toNat : Int), .int .u8 (t2.toNat : Int), .int .u8 (t3.toNat : Int), .int .u8 (t4.toNat : Int), .int .u8 (t5.toNat : Int)]) (.agg #[.int .u8 (t0.toNat : Int), .int .u8 (t1.toNat : Int), .int .u8 (t2.toNat : Int), .int .u8 (t3.toNat : Int), .int .u8 (t4.toNat : Int), .int .u8 (t5.toNat : Int)])).run Try.prog u = .ok true u)
    (Z2 : ∀ u, (Op.equalIn 9999 23 (.agg #[.int .u8 (f0.toNat : Int), .int .u8 (f1.toNat : Int), .int .u8 (f2.toNat : Int), .int .u8 (f3.toNat : Int), .int .u8 (f4.toNat : Int), .int .u8 (f5.toNat : Int)]) (.agg #[.int .u8 (f0.toNat : Int), .int .u8 (f1.toNat : Int), .int .u8 (f2.toNat : Int), .int .u8 (f3.toNat : Int), .int .u8 (f4.toNat : Int), .int .u8 (f5.toNat : Int)])).run Try.prog u = .ok true u)
    (Z3 : ∀ u, (Op.equalIn 10000 23 (.agg #[.int .u8 (m0.toNat : Int), .int .u8 (m1.toNat : Int), .int .u8 (m2.toNat : Int), .int .u8 (m3.toNat : Int), .int .u8 (m4.toNat : Int), .int .u8 (m5.toNat : Int)]) (.agg #[.int .u8 (m0.toNat : Int), .int .u8 (m1.toNat : Int), .int .u8 (m2.toNat : Int), .int .u8 (m3.toNat : Int), .int .u8 (m4.toNat : Int), .int .u8 (m5.toNat : Int)])).run Try.prog u = .ok true u) :
    Calls Try.prog 4 #[.agg (frame t0.toNat t1.toNat t2.toNat t3.toNat t4.toNat t5.toNat f0.toNat f1.toNat f2.toNat f3.toNat f4.toNat f5.toNat v y d), .string s, .agg #[.int .u8 (m0.toNat : Int), .int .u8 (m1.toNat : Int), .int .u8 (m2.toNat : Int), .int .u8 (m3.toNat : Int), .int .u8 (m4.toNat : Int), .int .u8 (m5.toNat : Int)]] w fun e w' => e = .returned (.bool true) ∧ Below w.heap.size w w' := by
  go_enter Try.func4, Try.ntmps4
  go_wp2_with fail
  refine (CW _).out.mono ?_
  rintro r w1 ⟨rfl, hb1⟩
  clear CW
  have F1 := ((Blk.new _ _ _).alloc _).below hb1 (by simp; omega)
  have M1 := (Blk.newAt _ _ _ (b := w.heap.size + 1) (by simp)).below hb1 (by simp)
  have L1 := (((Below.refl w.heap.size w).alloc (Nat.le_refl _) _).alloc (by simp) _).trans (hb1.mono (by simp; omega))
  clear hb1
  go_upto_if 25 with fail
  go_cut [6] (fun r wx => r = .bool false ∧ Blk wx w.heap.size (frame t0.toNat t1.toNat t2.toNat t3.toNat t4.toNat t5.toNat f0.toNat f1.toNat f2.toNat f3.toNat f4.toNat f5.toNat v y d) 25 ∧ Blk wx (w.heap.size + 1) #[.int .u8 (m0.toNat : Int), .int .u8 (m1.toNat : Int), .int .u8 (m2.toNat : Int), .int .u8 (m3.toNat : Int), .int .u8 (m4.toNat : Int), .int .u8 (m5.toNat : Int)] 23 ∧ Below w.heap.size w wx)
  case first =>
    by_cases he : e = 0
    · have CR' := CR he
      subst he
      go_wp2_with fail
      refine (CR' _).out.mono ?_
      rintro r w2 ⟨rfl, hb2⟩
      have F2 := F1.below hb2 F1.lt
      have M2 := M1.below hb2 M1.lt
      have L2 := L1.trans (hb2.mono L1.size)
      have c2 := F2.cell
      have l2 := F2.lt
      go_wp2_with fail
      go_meet
      exact ⟨rfl, F2.alloc _, M2.alloc _, L2.alloc L2.size _⟩
    · have he' : (e == 0) = false := by simpa using he
      clear he CR
      go_wp2_with fail
      go_meet
      exact ⟨rfl, F1, M1, L1⟩
  case rest =>
    obtain ⟨rfl, F2, M2, L2⟩ := hcut
    clear F1 M1 L1 CR F2
    go_wp2_with fail
    refine (CS _).out.mono ?_
    rintro r w3 ⟨rfl, hb3⟩
    clear CS
    have M3 := M2.below hb3 M2.lt
    have L3 := L2.trans (hb3.mono L2.size)
    clear hb3 M2 L2
    go_upto_if 44 with fail
    go_cut [6] (fun r wx => r = .bool false ∧ Blk wx (w.heap.size + 1) #[.int .u8 (m0.toNat : Int), .int .u8 (m1.toNat : Int), .int .u8 (m2.toNat : Int), .int .u8 (m3.toNat : Int), .int .u8 (m4.toNat : Int), .int .u8 (m5.toNat : Int)] 23 ∧ Below w.heap.size w wx)
    case first =>
      by_cases he : e2 = 0
      · have CV' := CV he
        subst he
        go_wp2_with fail
        refine (CV' _).out.mono ?_
        rintro r w4 ⟨rfl, hb4⟩
        have M4 := (M3.alloc _).below hb4 (by have := M3.lt; simp; omega)
        have L4 := (L3.alloc L3.size _).trans (hb4.mono (by have := L3.size; simp; omega))
        go_wp2_with fail
        go_meet
        exact ⟨rfl, M4, L4⟩
      · have he' : (e2 == 0) = false := by simpa using he
        clear he CV
        go_wp2_with fail
        go_meet
        exact ⟨rfl, M3.alloc _, L3.alloc L3.size _⟩
    case rest =>
      obtain ⟨rfl, M4, L4⟩ := hcut
      clear M3 L3 CV
      have c4 := M4.cell
      have l4 := M4.lt
      go_wp2_with fail
      refine (CM _).out.mono ?_
      rintro r w5 ⟨rfl, hb5⟩
      clear CM c4 l4
      have M5 := M4.below hb5 M4.lt
      have L5 := L4.trans (hb5.mono L4.size)
      clear hb5 M4 L4
      go_wp2_with fail
      refine (CN _).out.mono ?_
      rintro r w6 ⟨rfl, hb6⟩
      clear CN
      have M6 := M5.below hb6 M5.lt
      have L6 := L5.trans (hb6.mono L5.size)
      clear hb6 M5 L5
      go_wp2_with fail
      refine (CP _).out.mono ?_
      rintro r w7 ⟨rfl, hb7⟩
      clear CP
      have M7 := (M6.alloc _).below hb7 (by have := M6.lt; simp; omega)
      have N7 := (Blk.new _ _ _).below hb7 (by simp)
      have L7 := (L6.alloc L6.size _).trans (hb7.mono (by have := L6.size; simp; omega))
      have y7 := hb7.size
      simp at y7
      clear hb7
      by_cases he : e4 = 0
      · have CQ' := CQ he
        subst he
        have c7 := M7.cell
        have l7 := M7.lt
        go_wp2_with fail
        refine (CQ' _).out.mono ?_
        rintro r w8 ⟨rfl, hb8⟩
        have M8 := (M7.alloc _).below hb8 (by have := M7.lt; simp; omega)
        have N8 := (N7.alloc _).below hb8 (by have := N7.lt; simp; omega)
        have L8 := (L7.alloc L7.size _).trans (hb8.mono (by have := L7.size; simp; omega))
        clear hb8 M7 N7 L7 c7 l7
        go_wp2_with fail
        refine (lives _).mono ?_
        rintro r w9 ⟨rfl, hb9⟩
        have M9 := M8.below hb9 M8.lt
        have N9 := N8.below hb9 N8.lt
        have L9 := L8.trans (hb9.mono L8.size)
        have c9 := M9.cell
        have d9 := N9.cell
        go_wp2_with fail
        go_ret
        exact ⟨rfl, L9⟩
      · have he' : (e4 == 0) = false := by simpa using he
        clear he CQ
        go_wp2_with fail
        refine (lives _).mono ?_
        rintro r w9 ⟨rfl, hb9⟩
        have M9 := (M7.alloc _).below hb9 (by have := M7.lt; simp; omega)
        have N9 := (N7.alloc _).below hb9 (by have := N7.lt; simp; omega)
        have L9 := (L7.alloc L7.size _).trans (hb9.mono (by have := L7.size; simp; omega))
        have c9 := M9.cell
        have d9 := N9.cell
        go_wp2_with fail
        go_ret
        exact ⟨rfl, L9⟩
end Go.Proofs.Ytolhmmnaohadcaa.ethback
