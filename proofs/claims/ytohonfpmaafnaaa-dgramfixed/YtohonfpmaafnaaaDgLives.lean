/- That custkeep.dgramLives answers true. -/
import Derived.Test.YtohonfpmaafnaaaDgNote2
import Derived.Test.YtohonfpmaafnaaaDgMath
namespace Go.Proofs.Ytohonfpmaafnaaa.dgl
open Go.ChangeShapes Go.WideShapes Go.ChangeAt Go.RowKit Go.BigFrame
open Go.Proofs.Ytohonfpmaafnaaa Go.Proofs.Ytohonfpmaafnaaa.EM Go.Proofs.Ytohonfpmaafnaaa.ethb Go.Proofs.Ytohonfpmaafnaaa.SM Go.Proofs.Ytohonfpmaafnaaa.ipb Go.Proofs.Ytohonfpmaafnaaa.buf Go.Proofs.Ytohonfpmaafnaaa.boxes Go.Proofs.Ytohonfpmaafnaaa.wds Go.Proofs.Ytohonfpmaafnaaa.dgb Go.Proofs.Ytohonfpmaafnaaa.dgi Go.Proofs.Ytohonfpmaafnaaa.dgw Go.Proofs.Ytohonfpmaafnaaa.dgn Go.Proofs.Ytohonfpmaafnaaa.dgm
open Go.Proofs.Ytohonfpmaafnaaa.ipm (bytes_ext ext_list size_list)

def l0 : Lt := ⟨53, 1024, ⟨#[104, 105]⟩⟩
theorem l0_ok : l0.Ok := ⟨by decide, by decide, by decide, by decide, by decide⟩
def n0 : Nt := ⟨8, 0, 0, 0, 0, 0, ⟨#[120]⟩⟩
theorem n0_ok : n0.Ok := ⟨by decide, by decide, by decide, by decide, by decide⟩
set_option maxHeartbeats 1000000 in
theorem lives (w : World) : Calls Try.prog 18 #[] w fun e w' => e = .returned (.bool true) ∧ Below w.heap.size w w' := by
  have CW := fun u => write_ok l0 167772161 167772162 u l0_ok ⟨by decide, by decide⟩ ⟨by decide, by decide⟩
  have CN := fun u => writeNote_ok n0 u n0_ok
  have zS : (⟨(l0.txt 167772161 167772162).toArray⟩ : ByteArray).size = 10 := by rw [← size_list]; show (l0.txt _ _).length = 10; rw [l0.txt_len]; rfl
  have zN : (⟨n0.txt.toArray⟩ : ByteArray).size = 9 := by rw [nt_size]; rfl
  have e6 : (⟨(l0.txt 167772161 167772162).toArray⟩ : ByteArray).extract 0 6 = ⟨#[0, 53, 4, 0, 0, 10]⟩ := by
    apply bytes_ext
    rw [ext_list]
    simp [Lt.txt, Lt.h1]
    decide
  have CG := fun u => sumw.right_any ⟨n0.txt.toArray⟩ u (by rw [zN]; omega)
  rw [show (⟨n0.txt.toArray⟩ : ByteArray).data.toList = n0.txt from rfl, nt_sum n0 n0_ok, show ((65535 : Int) == 65535) = true from rfl] at CG
  have x0 : ∀ u, (Instr.index 9 (.string ⟨n0.txt.toArray⟩) (.int .i64 0)).run Try.prog u = .ok (.int .u8 8) u := index_at ⟨n0.txt.toArray⟩ 0 (by rw [zN]; omega)
  have s6 : ∀ u, (Instr.slice 9 (.string ⟨(l0.txt 167772161 167772162).toArray⟩) none (some (.int .i64 6)) none).run Try.prog u = .ok (.string ⟨#[0, 53, 4, 0, 0, 10]⟩) u := fun u => by
    have := run_slice_string_h u 9 ⟨(l0.txt 167772161 167772162).toArray⟩ Try.underlying9 .i64 6 (by omega) (by rw [zS]; decide)
    rw [← e6]; simpa using this
  clear e6
  generalize (⟨(l0.txt 167772161 167772162).toArray⟩ : ByteArray) = S at CW s6 zS
  generalize (⟨n0.txt.toArray⟩ : ByteArray) = T at CN CG x0 zN
  have zS' : (S.size : Int) = 10 := by omega
  have zN' : (0 : Int) < T.size := by omega
  clear zS zN
  go_enter Try.func18, Try.ntmps18
  go_wp2_with fail
  refine (CW _).mono ?_
  rintro r w1 ⟨rfl, b1⟩
  clear CW
  go_wp2_with fail
  refine (CN _).mono ?_
  rintro r w2 ⟨rfl, b2'⟩
  have b2 := b1.trans (b2'.mono b1.size)
  clear CN b1 b2'
  go_wp2_with fail
  refine (CG _).mono ?_
  rintro r w3 ⟨rfl, q3⟩
  have b3 := b2.trans (qd_below q3)
  clear CG q3 b2
  go_wp2_with fail
  go_ret
  exact ⟨rfl, b3⟩
end Go.Proofs.Ytohonfpmaafnaaa.dgl
