/- math/bits.OnesCount64: how many bits. -/
import Derived.Test.YtajhdpkiafaebaaDoorPtBase
import Derived.Laws.Bits128
namespace Go.Proofs.YtajhdpkiafaebaaDoor.pto
open Go.ChangeShapes Go.WideShapes Go.ChangeAt Go.RowKit Go.BigFrame
open Go.Proofs.YtajhdpkiafaebaaDoor Go.Proofs.YtajhdpkiafaebaaDoor.pm Go.Proofs.YtajhdpkiafaebaaDoor.pp Go.Proofs.YtajhdpkiafaebaaDoor.pt Go.Proofs.YtajhdpkiafaebaaDoor.boxes

set_option maxHeartbeats 1000000 in
theorem core (x x1 x2 x3 z1 z2 z3 r : Nat) (w : World)
    (H1 : Hid (IntKind.u64.wrap (bits .and .u64 ((x : Int) / 2) 6148914691236517205 + bits .and .u64 (x : Int) 6148914691236517205) = (x1 : Int)))
    (H2 : Hid (IntKind.u64.wrap (bits .and .u64 ((x1 : Int) / 4) 3689348814741910323 + bits .and .u64 (x1 : Int) 3689348814741910323) = (x2 : Int)))
    (H3 : Hid (bits .and .u64 (IntKind.u64.wrap ((x2 : Int) / 16 + (x2 : Int))) 1085102592571150095 = (x3 : Int)))
    (H4 : Hid (IntKind.u64.wrap ((x3 : Int) + (x3 : Int) / 256) = (z1 : Int)))
    (H5 : Hid (IntKind.u64.wrap ((z1 : Int) + (z1 : Int) / 65536) = (z2 : Int)))
    (H6 : Hid (IntKind.u64.wrap ((z2 : Int) + (z2 : Int) / 4294967296) = (z3 : Int)))
    (H7 : Hid (wrap64 (z3 : Int) = (z3 : Int)))
    (H8 : Hid (bits .and .i64 (z3 : Int) 127 = (r : Int))) :
    Calls Tryd.prog 23 #[.int .u64 (x : Int)] w fun e w' => e = .returned (.int .i64 r) ∧ w' = w := by
  go_enter Tryd.func23, Tryd.ntmps23
  go_wp2_with (first | simp only [H1.out] | simp only [H2.out] | simp only [H3.out] | simp only [H4.out] | simp only [H5.out] | simp only [H6.out])
  go_ret
  exact ⟨ret_int (by show bits .and .i64 (wrap64 (z3 : Int)) 127 = _; rw [H7.out, H8.out]), rfl⟩
theorem and_lit (a c : Nat) (C : Int) (hC : (c : Int) = C) (ha : a < 18446744073709551616) (hc : c < 18446744073709551616) : bits .and .u64 (a : Int) C = ((a &&& c : Nat) : Int) := by
  rw [← hC]; exact bits_and_u64_nat a c ha hc
theorem ones_any (t : Nat) (ht : t < 18446744073709551616) (w : World) : Calls Tryd.prog 23 #[.int .u64 (t : Int)] w fun e w' => e = .returned (.int .i64 ((64 - nf t : Nat) : Int)) ∧ w' = w := by
  have hn := nf_pop t
  have er : 64 - nf t = pop 64 t := by omega
  rw [er]
  obtain ⟨hv, hb⟩ := ones ht
  have d1 : s1 8 t = (t / 2 &&& 6148914691236517205) + (t &&& 6148914691236517205) := by unfold s1; rw [ms5]
  have c1 : t / 2 &&& 6148914691236517205 ≤ 6148914691236517205 := Nat.and_le_right
  have c2 : t &&& 6148914691236517205 ≤ 6148914691236517205 := Nat.and_le_right
  have d2 : s2 8 (s1 8 t) = (s1 8 t / 4 &&& 3689348814741910323) + (s1 8 t &&& 3689348814741910323) := by unfold s2; rw [ms3]
  have c3 : s1 8 t / 4 &&& 3689348814741910323 ≤ 3689348814741910323 := Nat.and_le_right
  have c4 : s1 8 t &&& 3689348814741910323 ≤ 3689348814741910323 := Nat.and_le_right
  have d3 : s3 8 (s2 8 (s1 8 t)) = (s2 8 (s1 8 t) / 16 + s2 8 (s1 8 t)) &&& 1085102592571150095 := by unfold s3; rw [ms0]
  generalize s3 8 (s2 8 (s1 8 t)) = X3 at *
  generalize s2 8 (s1 8 t) = X2 at *
  generalize s1 8 t = X1 at *
  have f1 : y1 X3 = X3 + X3 / 256 := rfl
  have f2 : y2 (y1 X3) = y1 X3 + y1 X3 / 65536 := rfl
  have f3 : y3 (y2 (y1 X3)) = y2 (y1 X3) + y2 (y1 X3) / 4294967296 := rfl
  generalize y3 (y2 (y1 X3)) = Z3 at *
  generalize y2 (y1 X3) = Z2 at *
  generalize y1 X3 = Z1 at *
  have g1 : ((t : Int) / 2) = ((t / 2 : Nat) : Int) := by omega
  have g2 : ((X1 : Int) / 4) = ((X1 / 4 : Nat) : Int) := by omega
  refine core t X1 X2 X3 Z1 Z2 Z3 _ w ?_ ?_ ?_ ?_ ?_ ?_ ?_ ?_
  · show _ = _
    rw [g1, and_lit _ 6148914691236517205 6148914691236517205 rfl (by omega) (by decide), and_lit _ 6148914691236517205 6148914691236517205 rfl (by omega) (by decide), IntKind.wrap_u64]
    omega
  · show _ = _
    rw [g2, and_lit _ 3689348814741910323 3689348814741910323 rfl (by omega) (by decide), and_lit _ 3689348814741910323 3689348814741910323 rfl (by omega) (by decide), IntKind.wrap_u64]
    omega
  · show _ = _
    rw [IntKind.wrap_u64, show ((X2 : Int) / 16 + (X2 : Int)) % 18446744073709551616 = ((X2 / 16 + X2 : Nat) : Int) by omega, and_lit _ 1085102592571150095 1085102592571150095 rfl (by omega) (by decide), d3]
  · show _ = _
    rw [IntKind.wrap_u64]; omega
  · show _ = _
    rw [IntKind.wrap_u64]; omega
  · show _ = _
    rw [IntKind.wrap_u64]; omega
  · show _ = _
    unfold wrap64
    omega
  · show _ = _
    rw [i64_and127, ← hv]; omega
end Go.Proofs.YtajhdpkiafaebaaDoor.pto
