/- That custkeep.ipLives answers true. -/
import Derived.Test.YtedbjhpajpakpaaDoorIpShow
namespace Go.Proofs.YtedbjhpajpakpaaDoor.ipl
open Go.ChangeShapes Go.WideShapes Go.ChangeAt Go.RowKit Go.BigFrame
open Go.Proofs.YtedbjhpajpakpaaDoor Go.Proofs.YtedbjhpajpakpaaDoor.EM Go.Proofs.YtedbjhpajpakpaaDoor.ethb Go.Proofs.YtedbjhpajpakpaaDoor.SM Go.Proofs.YtedbjhpajpakpaaDoor.ipb Go.Proofs.YtedbjhpajpakpaaDoor.buf Go.Proofs.YtedbjhpajpakpaaDoor.boxes Go.Proofs.YtedbjhpajpakpaaDoor.ipi Go.Proofs.YtedbjhpajpakpaaDoor.ipw Go.Proofs.YtedbjhpajpakpaaDoor.ipr Go.Proofs.YtedbjhpajpakpaaDoor.ips
open Go.Lib (decDigits)

def p0 : Pk := ⟨0, 0, true, false, 0, 64, 17, 3232235521, 3232235719, ⟨#[]⟩, ⟨#[120]⟩⟩
theorem p0_ok : p0.Ok := Pk.ok (by decide)
theorem p0_adr : p0.Adr := ⟨by decide, by decide, by decide, by decide⟩
theorem dec_three (n : Nat) (h : ¬ n / 10 < 10) (h' : n / 10 < 100) : decDigits n = [UInt8.ofNat (48 + n / 10 / 10), UInt8.ofNat (48 + n / 10 % 10), UInt8.ofNat (48 + n % 10)] := by
  rw [Lib.decDigits, dif_neg (by omega), Lib.decDigits_two h h']; rfl
theorem shown : shw 3232235719 = [49, 57, 50, 46, 49, 54, 56, 46, 48, 46, 49, 57, 57] := by
  have e1 : ((3232235719 : Int) / 16777216 % 256).toNat = 192 := by decide
  have e2 : ((3232235719 : Int) / 65536 % 256).toNat = 168 := by decide
  have e3 : ((3232235719 : Int) / 256 % 256).toNat = 0 := by decide
  have e4 : ((3232235719 : Int) % 256).toNat = 199 := by decide
  unfold shw
  rw [e1, e2, e3, e4, dec_three 192 (by decide) (by decide), dec_three 168 (by decide) (by decide), dec_three 199 (by decide) (by decide), Lib.decDigits_one (by decide)]
  decide
set_option maxHeartbeats 2000000 in
theorem lives (w : World) (ht : Tab w) : Calls Tryd.prog 16 #[] w fun e w' => e = .returned (.bool true) ∧ Below w.heap.size w w' := by
  have CW := fun u => write_ok p0 u p0_ok p0_adr
  have ew : ipm.wt p0 [] = ⟨p0.txt.toArray⟩ := by simp [ipm.wt]
  have zS : (⟨p0.txt.toArray⟩ : ByteArray).size = 21 := by rw [← ew, ipm.wt_size]; decide
  have CR := fun u => read_any ⟨p0.txt.toArray⟩ u (by rw [zS]; omega)
  have er : ire ⟨p0.txt.toArray⟩ = 0 := by rw [← ew]; exact ipm.wt_ire p0_ok [] p0_adr
  rw [er, show ird ⟨p0.txt.toArray⟩ = p0 by unfold ird; rw [if_pos er, ← ew]; exact ipm.wt_rdp p0_ok [] p0_adr] at CR
  have e2 : (⟨p0.txt.toArray⟩ : ByteArray).extract 0 2 = ⟨#[69, 0]⟩ := by
    apply ipm.bytes_ext
    rw [ipm.ext_list]
    simp [Pk.txt, Pk.h1]
    decide
  have e20 : wsum 0 ((⟨p0.txt.toArray⟩ : ByteArray).extract 0 20).data.toList = 65535 := by
    rw [ipm.ext_list, List.drop_zero, ← ew]
    have := ipm.head_list p0 []
    have z : 20 + p0.o.size = 20 := by decide
    rw [z] at this
    rw [this]; exact ipm.right_of p0
  have CG := fun u => sumw.right_any ((⟨p0.txt.toArray⟩ : ByteArray).extract 0 20) u (by rw [ByteArray.size_extract]; omega)
  rw [e20] at CG
  have CS := fun u h => show_any 3232235719 u (by omega) (by omega) h
  rw [shown] at CS
  have s2 : ∀ u, (Instr.slice 9 (.string ⟨p0.txt.toArray⟩) none (some (.int .i64 2)) none).run Tryd.prog u = .ok (.string ⟨#[69, 0]⟩) u := fun u => by
    have := run_slice_string_h u 9 ⟨p0.txt.toArray⟩ Tryd.underlying9 .i64 2 (by omega) (by rw [zS]; decide)
    rw [← e2]; simpa using this
  have s20 : ∀ u, (Instr.slice 9 (.string ⟨p0.txt.toArray⟩) none (some (.int .i64 20)) none).run Tryd.prog u = .ok (.string ((⟨p0.txt.toArray⟩ : ByteArray).extract 0 20)) u := fun u => by
    have := run_slice_string_h u 9 ⟨p0.txt.toArray⟩ Tryd.underlying9 .i64 20 (by omega) (by rw [zS]; decide)
    simpa using this
  clear ew er e2 e20
  generalize (⟨p0.txt.toArray⟩ : ByteArray).extract 0 20 = H at CG s20
  generalize (⟨p0.txt.toArray⟩ : ByteArray) = S at CW CR s2 s20 zS
  have zS' : (S.size : Int) = 21 := by omega
  clear zS
  go_enter Tryd.func16, Tryd.ntmps16
  go_wp2_with fail
  refine (CW _).mono ?_
  rintro r w1 ⟨rfl, b1⟩
  clear CW
  go_wp2_with fail
  refine (CR _).mono ?_
  rintro r w2 ⟨rfl, b2'⟩
  have b2 := b1.trans (b2'.mono b1.size)
  clear CR b1 b2'
  go_wp2_with fail
  refine (CG _).mono ?_
  rintro r w3 ⟨rfl, q3⟩
  have B3 := qd_blk q3 (Blk.new w2 p0.cells 31)
  have b3 := (b2.alloc b2.size _).trans (qd_below q3)
  have c3 : ∀ o, w3.cell? ⟨w2.heap.size, o, none⟩ = (Pk.cells ⟨0, 0, true, false, 0, 64, 17, 3232235521, 3232235719, ⟨#[]⟩, ⟨#[120]⟩⟩)[o]? := B3.cell
  clear CG q3 B3
  rw [show ((65535 : Int) == 65535) = true from rfl]
  go_wp2_with fail
  refine (CS _ (ht.below b3)).mono ?_
  rintro r w4 ⟨rfl, b4⟩
  clear CS
  go_wp2_with fail
  go_ret
  exact ⟨rfl, b3.trans (b4.mono b3.size)⟩
end Go.Proofs.YtedbjhpajpakpaaDoor.ipl
