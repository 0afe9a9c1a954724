/- custkeep.fragLives answers true. -/
import Derived.Test.YtlbpapngcgnepaaFragSplit
import Derived.Test.YtlbpapngcgnepaaFragMath
namespace Go.Proofs.Ytlbpapngcgnepaa.frl
open Go.ChangeShapes Go.WideShapes Go.ChangeAt Go.RowKit Go.BigFrame
open Go.Proofs.Ytlbpapngcgnepaa Go.Proofs.Ytlbpapngcgnepaa.ipb Go.Proofs.Ytlbpapngcgnepaa.boxes Go.Proofs.Ytlbpapngcgnepaa.ipr Go.Proofs.Ytlbpapngcgnepaa.frb Go.Proofs.Ytlbpapngcgnepaa.frs
open Go.Proofs.Ytlbpapngcgnepaa.rws (Own Knd)

def d0 : ByteArray := ⟨#[97, 98, 99, 100, 101, 102, 103, 104, 97, 98, 99, 100, 101, 102, 103, 104, 97, 98, 99, 100, 101, 102, 103, 104, 97, 98, 99, 100, 101, 102, 103, 104, 97, 98, 99, 100, 101, 102, 103, 104, 97, 98, 99, 100, 101, 102, 103, 104, 120]⟩
def p0 : Pk := ⟨0, 1, false, false, 0, 4, 0, 0, 0, ⟨#[]⟩, d0⟩
theorem ds : d0.size = 49 := rfl
theorem e0 : p0.err = 0 := by decide +kernel
theorem sp0 : spe p0 68 = 0 := by unfold spe; rw [if_neg (by rw [e0]; decide), if_neg (by decide), if_neg (by decide +kernel), if_neg (by decide +kernel), if_neg (by decide +kernel)]
theorem sl0 : spl p0 68 = [pc p0 48 0, pc p0 48 1] := by
  unfold spl
  rw [sp0, if_neg (by decide), if_neg (by decide +kernel)]
  rfl
theorem x1 : (pc p0 48 1).d.data.toList = [120] := by decide +kernel
theorem x1' : (pc p0 48 1).d = ⟨#[120]⟩ := ipm.bytes_ext x1
theorem lives (w : World) : Calls Try.prog 17 #[] w fun e w' => e = .returned (.bool true) ∧ Below w.heap.size w w' := by
  have CS := fun u => split_any p0 68 u (by decide +kernel) ⟨by decide, by decide, by decide, by decide⟩
  rw [sp0, sl0] at CS
  go_enter Try.func17, Try.ntmps17
  go_wp2_with (refine blk_store _ rfl 24 _ _ rfl w.heap.size p0.cells rfl rfl _ 24 (Blk.new _ _ _) 11 pk_info rfl rfl (pk_one p0) ?_)
  intro W1 B1 u1
  have b1 := u1.below ((Below.refl w.heap.size w).alloc (Nat.le_refl _) _) (Nat.le_refl _)
  go_wp2_with (refine blk_load _ rfl 24 _ rfl w.heap.size rfl _ _ B1 _ Try.underlying24 rfl 11 pk_info rfl ?_)
  refine (CS _).mono ?_
  rintro r w1 ⟨v, rfl, O, hb⟩
  have b2 := b1.trans (hb.mono b1.size)
  clear CS B1 u1
  obtain ⟨g, cap, rfl, hg0, hg1, hcap, hm, hc⟩ := O.form (by decide)
  have c10 : w1.cell? ⟨g, 21, none⟩ = some (.string ⟨#[120]⟩) := (hc 1 _ rfl 10 (by decide)).trans (by rw [← x1']; rfl)
  have c4 : w1.cell? ⟨g, 15, none⟩ = some (.int .i64 6) := (hc 1 _ rfl 4 (by decide)).trans rfl
  have c3 : w1.cell? ⟨g, 3, none⟩ = some (.bool true) := (hc 0 _ rfl 3 (by decide)).trans rfl
  clear hc O
  have hl : [pc p0 48 0, pc p0 48 1].length = 2 := rfl
  rw [hl]
  clear hl hcap
  go_wp2_with fail
  go_ret
  exact ⟨rfl, b2⟩
end Go.Proofs.Ytlbpapngcgnepaa.frl
