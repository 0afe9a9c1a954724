/- What package sip's inForm and Begin answer, and custref.SipRight and SipBegin. -/
import Derived.Test.YtfaebenhjilkgaaSipNum
namespace Go.Proofs.Ytfaebenhjilkgaa.sipf
open Go.ChangeShapes Go.WideShapes Go.ChangeAt Go.RowKit Go.BigFrame
open Go.Proofs.Ytfaebenhjilkgaa Go.Proofs.Ytfaebenhjilkgaa.sipm Go.Proofs.Ytfaebenhjilkgaa.boxes Go.Proofs.Ytfaebenhjilkgaa.sipb Go.Proofs.Ytfaebenhjilkgaa.sipt Go.Proofs.Ytfaebenhjilkgaa.sipn
open Go.Proofs.Ytfaebenhjilkgaa.sumw (Qd Qd.refl Qd.drewN Qd.trans)

/-- a sip's cells -/
abbrev sc (v : V4) (p : ByteArray) (n : Int) : Array Value := #[nm v.a, nm v.b, nm v.c, nm v.d, .string p, .int .i64 n]
/-- is it in its form -/
def okf (p : ByteArray) (n : Int) : Bool := decide (0 ≤ n) && decide (n % 8 = (p.size : Int))
/-- the error that it is told with -/
def ef (p : ByteArray) (n : Int) : Int := if okf p n = true then 0 else 4
abbrev ZS : Array Value := #[.int .u64 0, .int .u64 0, .int .u64 0, .int .u64 0, .string ⟨#[]⟩, .int .i64 0]
theorem sp_info : (Try.prog.info? 56).map (·.size) = some 6 := by kernel_rfl
theorem sp_one (a b c d : UInt64) (p : ByteArray) (n : Int) : (#[nm a, nm b, nm c, nm d, .string p, .int .i64 n]).all (·.oneCell') = true := by simp [Value.oneCell']
theorem ret_bool {a b : Bool} (h : a = b) : Ending.returned (.bool a) = .returned (.bool b) := by rw [h]

theorem okf_t {p : ByteArray} {n : Int} (h : 0 ≤ n) : okf p n = (n % 8 == (p.size : Int)) := by unfold okf; rw [decide_eq_true h, Bool.true_and]; rfl
theorem okf_f {p : ByteArray} {n : Int} (h : n < 0) : okf p n = false := by unfold okf; rw [decide_eq_false (by omega : ¬ 0 ≤ n)]; rfl
theorem okf_n {p : ByteArray} {n : Int} (h : ¬ n % 8 = (p.size : Int)) : okf p n = false := by unfold okf; rw [decide_eq_false h, Bool.and_false]
theorem okf_y {p : ByteArray} {n : Int} (h : 0 ≤ n) (h' : n % 8 = (p.size : Int)) : okf p n = true := by unfold okf; rw [decide_eq_true h, decide_eq_true h']; rfl
theorem ef_f {p : ByteArray} {n : Int} (h : okf p n = false) : ef p n = 4 := by unfold ef; rw [h]; rfl
theorem ef_t {p : ByteArray} {n : Int} (h : okf p n = true) : ef p n = 0 := by unfold ef; rw [h]; rfl
theorem inForm_any (v : V4) (p : ByteArray) (n : Int) (w : World) : Calls Try.prog 33 #[.agg (sc v p n)] w fun e w' => e = .returned (.bool (okf p n)) ∧ Below w.heap.size w w' := by
  have B0 := (Below.refl w.heap.size w).alloc (Nat.le_refl _) (.cells (sc v p n) 56)
  by_cases h : 0 ≤ n
  · have ht : n.tmod 8 = n % 8 := Int.tmod_eq_emod_of_nonneg h
    go_enter Try.func33, Try.ntmps33
    go_wp2_with fail
    go_ret
    exact ⟨ret_bool ((okf_t h).symm), B0⟩
  · go_enter Try.func33, Try.ntmps33
    go_wp2_with fail
    go_ret
    exact ⟨ret_bool ((okf_f (by omega)).symm), B0⟩
theorem right_any (v : V4) (p : ByteArray) (n : Int) (w : World) : Calls Try.prog 38 #[.agg (sc v p n)] w fun e w' => e = .returned (.int .i64 (ef p n)) ∧ Below w.heap.size w w' := by
  have B0 := (Below.refl w.heap.size w).alloc (Nat.le_refl _) (.cells (sc v p n) 56)
  by_cases h : n < 0
  · go_enter Try.func38, Try.ntmps38
    go_wp2_with fail
    go_ret
    exact ⟨ret_int ((ef_f (okf_f (by omega))).symm), B0⟩
  · have ht : n.tmod 8 = n % 8 := Int.tmod_eq_emod_of_nonneg (by omega)
    by_cases h7 : (7 : Int) < p.size
    · go_enter Try.func38, Try.ntmps38
      go_wp2_with fail
      go_ret
      exact ⟨ret_int ((ef_f (okf_n (by omega))).symm), B0⟩
    · by_cases h8 : (p.size : Int) = n % 8
      · go_enter Try.func38, Try.ntmps38
        go_wp2_with fail
        go_ret
        exact ⟨ret_int ((ef_t (okf_y (by omega) h8.symm)).symm), B0⟩
      · go_enter Try.func38, Try.ntmps38
        go_wp2_with fail
        go_ret
        exact ⟨ret_int ((ef_f (okf_n fun q => h8 q.symm)).symm), B0⟩
/-- what begins -/
def bgn (k l : UInt64) : V4 := ⟨uxo k 8317987319222330741, uxo l 7237128888997146477, uxo k 7816392313619706465, uxo l 8387220255154660723⟩
theorem begin_any (k l : UInt64) (w : World) : Calls Try.prog 27 #[.agg #[nm k, nm l]] w fun e w' => e = .returned (.agg (sc (bgn k l) ⟨#[]⟩ 0)) ∧ Below w.heap.size w w' := by
  have h1 : ∀ x : UInt64, bits .xor .u64 (x.toNat : Int) 8317987319222330741 = ((uxo x 8317987319222330741).toNat : Int) := fun x => xor_law x 8317987319222330741
  have h2 : ∀ x : UInt64, bits .xor .u64 (x.toNat : Int) 7237128888997146477 = ((uxo x 7237128888997146477).toNat : Int) := fun x => xor_law x 7237128888997146477
  have h3 : ∀ x : UInt64, bits .xor .u64 (x.toNat : Int) 7816392313619706465 = ((uxo x 7816392313619706465).toNat : Int) := fun x => xor_law x 7816392313619706465
  have h4 : ∀ x : UInt64, bits .xor .u64 (x.toNat : Int) 8387220255154660723 = ((uxo x 8387220255154660723).toNat : Int) := fun x => xor_law x 8387220255154660723
  have R0 : Blk ((w.alloc (.cells #[nm k, nm l] 24)).alloc (.cells ZS 56)) (w.heap.size + 1) ZS 56 := Blk.newAt _ _ _ (by simp)
  have B0 := ((Below.refl w.heap.size w).alloc (Nat.le_refl _) (.cells #[nm k, nm l] 24)).alloc (by simp) (.cells ZS 56)
  go_enter Try.func27, Try.ntmps27
  go_wp2_with (refine blk_store _ rfl 56 _ _ rfl _ (sc (bgn k l) ⟨#[]⟩ 0) rfl rfl _ _ R0 6 sp_info rfl rfl (sp_one _ _ _ _ _ _) ?_; intro W2 R2 p2)
  exact blk_ret1 rfl rfl _ _ _ rfl R2 _ Try.underlying56 rfl 6 sp_info rfl ⟨rfl, p2.below B0 (by omega)⟩
end Go.Proofs.Ytfaebenhjilkgaa.sipf
