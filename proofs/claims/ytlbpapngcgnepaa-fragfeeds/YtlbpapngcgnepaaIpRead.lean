/- What ip.Read answers, and that it changes nothing that was there. -/
import Derived.Test.YtlbpapngcgnepaaIpWrite2
import Derived.Test.YtlbpapngcgnepaaLast
import Derived.Test.YtlbpapngcgnepaaIpMath
namespace Go.Proofs.Ytlbpapngcgnepaa.ipr
open Go.ChangeShapes Go.WideShapes Go.ChangeAt Go.RowKit Go.BigFrame
open Go.Proofs.Ytlbpapngcgnepaa Go.Proofs.Ytlbpapngcgnepaa.EM Go.Proofs.Ytlbpapngcgnepaa.ethb Go.Proofs.Ytlbpapngcgnepaa.SM Go.Proofs.Ytlbpapngcgnepaa.ipb Go.Proofs.Ytlbpapngcgnepaa.buf Go.Proofs.Ytlbpapngcgnepaa.boxes Go.Proofs.Ytlbpapngcgnepaa.ipi Go.Proofs.Ytlbpapngcgnepaa.ipw
open Go.Proofs.Ytlbpapngcgnepaa.sumw (Qd)
open Go.Proofs.Ytlbpapngcgnepaa.ipm (bytes_ext ext_list)

theorem pk_info : (Try.prog.info? 24).map (·.size) = some 11 := by kernel_rfl
theorem w64 (n : Int) (h0 : 0 ≤ n) (h1 : n ≤ 65535) : wrap64 n = n := by unfold wrap64; omega
theorem pk_one (p : Pk) : p.cells.all (·.oneCell') = true := by simp [Value.oneCell']
/-- the packet of a head and its data -/
def pof (s d : ByteArray) : Pk :=
  ⟨bt s 1, wd s 4, decide (wd s 6 / 16384 % 2 = 1), decide (wd s 6 / 8192 % 2 = 1), wd s 6 % 8192, bt s 8, bt s 9, 65536 * wd s 12 + wd s 14, 65536 * wd s 16 + wd s 18, s.extract 20 s.size, d⟩
/-- results: a block -/
theorem blk_ret1 {fn : Func} {p : Tmp} {ty : TypeId} {R : Ending → World → Prop} {a : Act} {W : World} (h : fn.results = #[.cell p ty]) (hd : a.defers = []) (b : Nat) (F : Array Value) (t : TypeId) (hp : a.tmps.getD p undef = .pointer (some ⟨b, 0, none⟩)) (k : Blk W b F t)
    (d : TypeDesc) (hu : Try.prog.underlying ty = some d) (hdd : wideD d = true) (n : Nat) (hi : (Try.prog.info? ty).map (·.size) = some n) (hn : F.size = n)
    (hR : R (.returned (.agg F)) W) : bodyPost Try.prog fn R .ret a W := by
  refine bodyPost_ret (v := .agg F) ?_ hd hR
  simp only [results, h]
  simp [Sem.run_bind, Result.andThen]
  rw [show a.tmps[p]?.getD undef = .pointer (some ⟨b, 0, none⟩) from (by simpa using hp)]
  simp [asAddr, run_loadVar_row W b t ty F (0, 0) d k hu (by cases d <;> first | rfl | cases hdd) (by rw [hn]; exact hi)]
end Go.Proofs.Ytlbpapngcgnepaa.ipr
