/- That custkeep.tcpLives answers true. -/
import Derived.Test.YtpcknkpddinccaaDoorTcpRd3
import Derived.Test.YtpcknkpddinccaaDoorTcpWr4
import Derived.Test.YtpcknkpddinccaaDoorTcpRMath
namespace Go.Proofs.YtpcknkpddinccaaDoor.tcl
open Go.ChangeShapes Go.WideShapes Go.ChangeAt Go.RowKit Go.BigFrame
open Go.Proofs.YtpcknkpddinccaaDoor Go.Proofs.YtpcknkpddinccaaDoor.EM Go.Proofs.YtpcknkpddinccaaDoor.ethb Go.Proofs.YtpcknkpddinccaaDoor.SM Go.Proofs.YtpcknkpddinccaaDoor.ipb Go.Proofs.YtpcknkpddinccaaDoor.boxes Go.Proofs.YtpcknkpddinccaaDoor.wds Go.Proofs.YtpcknkpddinccaaDoor.tcb Go.Proofs.YtpcknkpddinccaaDoor.tct Go.Proofs.YtpcknkpddinccaaDoor.tcrb Go.Proofs.YtpcknkpddinccaaDoor.rwr Go.Proofs.YtpcknkpddinccaaDoor.tcm Go.Proofs.YtpcknkpddinccaaDoor.tcrm
open Go.Proofs.YtpcknkpddinccaaDoor.rws (Knd Own)
open Go.Proofs.YtpcknkpddinccaaDoor.ipm (bytes_ext ext_list size_list)

def h0 : Sh := ⟨1, 80, 5, 0, 2, 0, 0, ⟨#[]⟩⟩
def o0 : List Opt := [⟨2, ⟨#[5, 180]⟩⟩, ⟨1, ⟨#[]⟩⟩]
theorem k0 : SOk h0 o0 := ⟨by decide, by decide, by decide, by decide⟩
theorem a0 : h0.Adr := ⟨by decide, by decide, by decide, by decide⟩
theorem m0 : mss o0 = (1460, true) := by decide
set_option maxRecDepth 20000 in
set_option maxHeartbeats 2000000 in
theorem lives (w : World) : Calls Tryd.prog 13 #[] w fun e w' => e = .returned (.bool true) ∧ Below w.heap.size w w' := by
  obtain ⟨T, eT⟩ : ∃ T : ByteArray, T = ⟨(stxt h0 o0 1 2).toArray⟩ := ⟨_, rfl⟩
  have zT : T.size = 28 := by rw [eT, ← size_list]; show (stxt h0 o0 1 2).length = _; exact sgx_len h0 o0 _
  obtain ⟨e1, e2, e3⟩ := back k0 a0 1 2
  have b12 : bt T 12 = 112 := by rw [eT]; exact (sg_b12 k0 _).trans (by decide)
  rw [← eT] at e1 e2 e3
  have own0 := Own.lit OK w w.heap.size (Nat.le_refl _) o0 (by decide) #[.int .i64 2, .string ⟨#[5, 180]⟩, .int .i64 1, .string ⟨#[]⟩] (by rfl)
  have bel0 := (Below.refl w.heap.size w).alloc (Nat.le_refl _) (.cells #[.int .i64 2, .string ⟨#[5, 180]⟩, .int .i64 1, .string ⟨#[]⟩] 40)
  have CW := tcw4.write_ok h0 _ o0 1 2 _ (Own.rd own0) (by decide) k0 a0 ⟨by decide, by decide⟩ ⟨by decide, by decide⟩
  rw [← eT] at CW
  have CR := fun u => tcr3.read_any T 1 2 u (by omega) ⟨by decide, by decide⟩ ⟨by decide, by decide⟩
  rw [e1, e2, e3] at CR
  have CM := fun v u hu => mss_any h0 v o0 u hu (by decide)
  rw [m0] at CM
  have hi : ∀ u, (Instr.index 9 (.string T) (.int .i64 12)).run Tryd.prog u = .ok (.int .u8 112) u := fun u => by
    have := index_at T 12 (by omega) u
    rw [b12] at this; simpa using this
  have zT' : (T.size : Int) = 28 := by omega
  have on : o0.length = 2 := rfl
  clear e1 e2 e3 eT b12 zT own0
  go_enter Tryd.func13, Tryd.ntmps13
  go_wp2_with fail
  refine CW.mono ?_
  rintro e w1 ⟨rfl, l1⟩
  have b1 := bel0.trans (l1.mono bel0.size)
  clear CW bel0 l1
  go_wp2_with fail
  refine (CR _).mono ?_
  rintro e w2 ⟨v2, rfl, o2, l2⟩
  have b2 := b1.trans (l2.mono b1.size)
  obtain ⟨sa, sc, rfl⟩ := (Own.rd o2).form
  have z2 := b2.size
  clear CR b1 l2
  rw [on] at o2 ⊢
  go_upto_region 3 with (refine blk_store _ rfl 25 _ _ rfl w2.heap.size (h0.cells (.slice sa 2 sc)) rfl rfl _ _ (Blk.new w2 (zeroS.cells (.slice none 0 0)) 25) 9 sg_info rfl rfl (sg_one _ _ _ _) ?_; intro W3 k3 p3)
  have b3 := p3.below (b2.alloc z2 _) z2
  have o3 := (o2.alloc (.cells (zeroS.cells (.slice none 0 0)) 25)).but p3 (tcr1.own_new o2 _ (Nat.le_refl _))
  have CM3 := CM _ W3 (Own.rd o3)
  clear b2 o2 o3 p3 CM
  go_wp2_with (refine blk_load _ rfl 25 _ rfl w2.heap.size rfl _ _ k3 _ Tryd.underlying25 rfl 9 sg_info rfl ?_)
  refine CM3.mono ?_
  rintro e w4 ⟨rfl, l4⟩
  have b4 := b3.trans (l4.mono b3.size)
  clear CM3 b3 l4 k3
  go_wp2_with fail
  go_ret
  exact ⟨rfl, b4⟩
end Go.Proofs.YtpcknkpddinccaaDoor.tcl
