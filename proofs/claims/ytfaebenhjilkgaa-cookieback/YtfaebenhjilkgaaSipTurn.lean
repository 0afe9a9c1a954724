/- What custref.Turned and math/bits.RotateLeft64 answer: the bits above come in below. -/
import Derived.Test.YtfaebenhjilkgaaSipMath
import Derived.Test.YtfaebenhjilkgaaRows
import Derived.WalkKit
import Derived.ProofKit
import Derived.OpenShut
import Derived.WalkSpells
import Derived.WalkLawsBesides
import Derived.Deep.QuietTactic
import Derived.BigQuiet
import Derived.Test.YtfaebenhjilkgaaSumWalk
namespace Go.Proofs.Ytfaebenhjilkgaa.sipt
open Go.ChangeShapes Go.WideShapes Go.ChangeAt Go.RowKit
open Go.Proofs.Ytfaebenhjilkgaa Go.Proofs.Ytfaebenhjilkgaa.sipm
open Go.Proofs.Ytfaebenhjilkgaa.sumw (Qd Qd.refl Qd.drewN Qd.trans)

theorem ret_int {k : IntKind} {a b : Int} (h : a = b) : Ending.returned (.int k a) = .returned (.int k b) := by rw [h]
theorem rt13 (x : UInt64) : (rt 13 x).toNat = (x.toNat * 8192 + x.toNat / 2251799813685248) % 18446744073709551616 := by rw [rt_nat]
theorem turned13 (x : UInt64) (w : World) : Calls Try.prog 44 #[.int .u64 x.toNat, .int .i64 13] w fun e w' => e = .returned (.int .u64 (rt 13 x).toNat) ∧ Qd w w' := by
  have hx : x.toNat < 18446744073709551616 := x.toNat_lt
  have hu : IntKind.u64.wrap (2 ^ 13) = 2 ^ 13 := by decide
  go_enter Try.func44, Try.ntmps44
  go_wp2_with fail
  go_quiet (fail)
  go_wp2_with fail
  go_ret
  refine ⟨ret_int ?_, Qd.drewN (Qd.refl _) _⟩
  rw [IntKind.wrap_u64, IntKind.wrap_u64, rt13]
  omega
theorem rot13 (x : UInt64) (w : World) : Calls Try.prog 43 #[.int .u64 x.toNat, .int .i64 13] w fun e w' => e = .returned (.int .u64 (rt 13 x).toNat) ∧ w' = w := by
  have hx : x.toNat < 18446744073709551616 := x.toNat_lt
  have hb : bits .and .u64 13 63 = 13 := by decide
  go_enter Try.func43, Try.ntmps43
  go_wp2_with fail
  go_ret
  refine ⟨ret_int ?_, rfl⟩
  have e : IntKind.u64.wrap ((x.toNat : Int) * 8192) = ((x.toNat * 8192 % 18446744073709551616 : Nat) : Int) := by rw [IntKind.wrap_u64]; omega
  have f : (x.toNat : Int) / 2251799813685248 = ((x.toNat / 2251799813685248 : Nat) : Int) := by omega
  rw [e, f, u64_or_nat _ _ (by omega) (by omega), nat_join 13 _ _ (by omega) (by omega), rt13]
  omega
theorem rt16 (x : UInt64) : (rt 16 x).toNat = (x.toNat * 65536 + x.toNat / 281474976710656) % 18446744073709551616 := by rw [rt_nat]
theorem turned16 (x : UInt64) (w : World) : Calls Try.prog 44 #[.int .u64 x.toNat, .int .i64 16] w fun e w' => e = .returned (.int .u64 (rt 16 x).toNat) ∧ Qd w w' := by
  have hx : x.toNat < 18446744073709551616 := x.toNat_lt
  have hu : IntKind.u64.wrap (2 ^ 16) = 2 ^ 16 := by decide
  go_enter Try.func44, Try.ntmps44
  go_wp2_with fail
  go_quiet (fail)
  go_wp2_with fail
  go_ret
  refine ⟨ret_int ?_, Qd.drewN (Qd.refl _) _⟩
  rw [IntKind.wrap_u64, IntKind.wrap_u64, rt16]
  omega
theorem rot16 (x : UInt64) (w : World) : Calls Try.prog 43 #[.int .u64 x.toNat, .int .i64 16] w fun e w' => e = .returned (.int .u64 (rt 16 x).toNat) ∧ w' = w := by
  have hx : x.toNat < 18446744073709551616 := x.toNat_lt
  have hb : bits .and .u64 16 63 = 16 := by decide
  go_enter Try.func43, Try.ntmps43
  go_wp2_with fail
  go_ret
  refine ⟨ret_int ?_, rfl⟩
  have e : IntKind.u64.wrap ((x.toNat : Int) * 65536) = ((x.toNat * 65536 % 18446744073709551616 : Nat) : Int) := by rw [IntKind.wrap_u64]; omega
  have f : (x.toNat : Int) / 281474976710656 = ((x.toNat / 281474976710656 : Nat) : Int) := by omega
  rw [e, f, u64_or_nat _ _ (by omega) (by omega), nat_join 16 _ _ (by omega) (by omega), rt16]
  omega
theorem rt17 (x : UInt64) : (rt 17 x).toNat = (x.toNat * 131072 + x.toNat / 140737488355328) % 18446744073709551616 := by rw [rt_nat]
theorem turned17 (x : UInt64) (w : World) : Calls Try.prog 44 #[.int .u64 x.toNat, .int .i64 17] w fun e w' => e = .returned (.int .u64 (rt 17 x).toNat) ∧ Qd w w' := by
  have hx : x.toNat < 18446744073709551616 := x.toNat_lt
  have hu : IntKind.u64.wrap (2 ^ 17) = 2 ^ 17 := by decide
  go_enter Try.func44, Try.ntmps44
  go_wp2_with fail
  go_quiet (fail)
  go_wp2_with fail
  go_ret
  refine ⟨ret_int ?_, Qd.drewN (Qd.refl _) _⟩
  rw [IntKind.wrap_u64, IntKind.wrap_u64, rt17]
  omega
theorem rot17 (x : UInt64) (w : World) : Calls Try.prog 43 #[.int .u64 x.toNat, .int .i64 17] w fun e w' => e = .returned (.int .u64 (rt 17 x).toNat) ∧ w' = w := by
  have hx : x.toNat < 18446744073709551616 := x.toNat_lt
  have hb : bits .and .u64 17 63 = 17 := by decide
  go_enter Try.func43, Try.ntmps43
  go_wp2_with fail
  go_ret
  refine ⟨ret_int ?_, rfl⟩
  have e : IntKind.u64.wrap ((x.toNat : Int) * 131072) = ((x.toNat * 131072 % 18446744073709551616 : Nat) : Int) := by rw [IntKind.wrap_u64]; omega
  have f : (x.toNat : Int) / 140737488355328 = ((x.toNat / 140737488355328 : Nat) : Int) := by omega
  rw [e, f, u64_or_nat _ _ (by omega) (by omega), nat_join 17 _ _ (by omega) (by omega), rt17]
  omega
theorem rt21 (x : UInt64) : (rt 21 x).toNat = (x.toNat * 2097152 + x.toNat / 8796093022208) % 18446744073709551616 := by rw [rt_nat]
theorem turned21 (x : UInt64) (w : World) : Calls Try.prog 44 #[.int .u64 x.toNat, .int .i64 21] w fun e w' => e = .returned (.int .u64 (rt 21 x).toNat) ∧ Qd w w' := by
  have hx : x.toNat < 18446744073709551616 := x.toNat_lt
  have hu : IntKind.u64.wrap (2 ^ 21) = 2 ^ 21 := by decide
  go_enter Try.func44, Try.ntmps44
  go_wp2_with fail
  go_quiet (fail)
  go_wp2_with fail
  go_ret
  refine ⟨ret_int ?_, Qd.drewN (Qd.refl _) _⟩
  rw [IntKind.wrap_u64, IntKind.wrap_u64, rt21]
  omega
theorem rot21 (x : UInt64) (w : World) : Calls Try.prog 43 #[.int .u64 x.toNat, .int .i64 21] w fun e w' => e = .returned (.int .u64 (rt 21 x).toNat) ∧ w' = w := by
  have hx : x.toNat < 18446744073709551616 := x.toNat_lt
  have hb : bits .and .u64 21 63 = 21 := by decide
  go_enter Try.func43, Try.ntmps43
  go_wp2_with fail
  go_ret
  refine ⟨ret_int ?_, rfl⟩
  have e : IntKind.u64.wrap ((x.toNat : Int) * 2097152) = ((x.toNat * 2097152 % 18446744073709551616 : Nat) : Int) := by rw [IntKind.wrap_u64]; omega
  have f : (x.toNat : Int) / 8796093022208 = ((x.toNat / 8796093022208 : Nat) : Int) := by omega
  rw [e, f, u64_or_nat _ _ (by omega) (by omega), nat_join 21 _ _ (by omega) (by omega), rt21]
  omega
theorem rt32 (x : UInt64) : (rt 32 x).toNat = (x.toNat * 4294967296 + x.toNat / 4294967296) % 18446744073709551616 := by rw [rt_nat]
theorem turned32 (x : UInt64) (w : World) : Calls Try.prog 44 #[.int .u64 x.toNat, .int .i64 32] w fun e w' => e = .returned (.int .u64 (rt 32 x).toNat) ∧ Qd w w' := by
  have hx : x.toNat < 18446744073709551616 := x.toNat_lt
  have hu : IntKind.u64.wrap (2 ^ 32) = 2 ^ 32 := by decide
  go_enter Try.func44, Try.ntmps44
  go_wp2_with fail
  go_quiet (fail)
  go_wp2_with fail
  go_ret
  refine ⟨ret_int ?_, Qd.drewN (Qd.refl _) _⟩
  rw [IntKind.wrap_u64, IntKind.wrap_u64, rt32]
  omega
theorem rot32 (x : UInt64) (w : World) : Calls Try.prog 43 #[.int .u64 x.toNat, .int .i64 32] w fun e w' => e = .returned (.int .u64 (rt 32 x).toNat) ∧ w' = w := by
  have hx : x.toNat < 18446744073709551616 := x.toNat_lt
  have hb : bits .and .u64 32 63 = 32 := by decide
  go_enter Try.func43, Try.ntmps43
  go_wp2_with fail
  go_ret
  refine ⟨ret_int ?_, rfl⟩
  have e : IntKind.u64.wrap ((x.toNat : Int) * 4294967296) = ((x.toNat * 4294967296 % 18446744073709551616 : Nat) : Int) := by rw [IntKind.wrap_u64]; omega
  have f : (x.toNat : Int) / 4294967296 = ((x.toNat / 4294967296 : Nat) : Int) := by omega
  rw [e, f, u64_or_nat _ _ (by omega) (by omega), nat_join 32 _ _ (by omega) (by omega), rt32]
  omega
end Go.Proofs.Ytfaebenhjilkgaa.sipt
