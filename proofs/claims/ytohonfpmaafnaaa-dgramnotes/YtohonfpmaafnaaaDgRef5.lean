/- What custref.TextNote answers. -/
import Derived.Test.YtohonfpmaafnaaaDgRef4
namespace Go.Proofs.Ytohonfpmaafnaaa.dgf
open Go.ChangeShapes Go.WideShapes Go.ChangeAt Go.RowKit Go.BigFrame
open Go.Proofs.Ytohonfpmaafnaaa Go.Proofs.Ytohonfpmaafnaaa.EM Go.Proofs.Ytohonfpmaafnaaa.ethb Go.Proofs.Ytohonfpmaafnaaa.SM Go.Proofs.Ytohonfpmaafnaaa.ipb Go.Proofs.Ytohonfpmaafnaaa.buf Go.Proofs.Ytohonfpmaafnaaa.boxes Go.Proofs.Ytohonfpmaafnaaa.wds Go.Proofs.Ytohonfpmaafnaaa.dgb Go.Proofs.Ytohonfpmaafnaaa.dgi
open Go.Proofs.Ytohonfpmaafnaaa.dgn (nt_info nt_one)
open Go.Proofs.Ytohonfpmaafnaaa.dgr (w64)

set_option maxHeartbeats 2000000 in
theorem textNote_any (s : ByteArray) (w : World) (hs : s.size ≤ 281474976710656) :
    Calls Try.prog 17 #[.string s] w fun e w' => e = .returned (.tuple #[.agg (rn s).cells, .int .i64 (rne s)]) ∧ Below w.heap.size w w' := by
  have k := Blk.new w zeroN.cells 34
  have bel := (Below.refl w.heap.size w).alloc (Nat.le_refl _) (.cells zeroN.cells 34)
  have CS := fun u => sumr.sumOf_any 0 s u (by omega) (by omega) hs
  have HE : Hid (rne s = if s.size < 8 then 3 else if 65515 < s.size then 2 else if wsum 0 s.data.toList ≠ 65535 then 5 else 0) := (rfl : _ = _)
  have HR : Hid (rn s = if rne s = 0 then rdn s else zeroN) := (rfl : _ = _)
  obtain ⟨er, eer⟩ : ∃ er, er = rne s := ⟨_, rfl⟩
  obtain ⟨R, eR⟩ : ∃ R, R = rn s := ⟨_, rfl⟩
  rw [← eer] at HE HR ⊢
  rw [← eR] at HR ⊢
  clear eer eR
  by_cases c0 : s.size < 8
  · have e1 : Hid (er = 3) := by show _ = _; rw [HE.out, if_pos c0]
    have r1 : Hid (R = zeroN) := by show _ = _; rw [HR.out, if_neg (by rw [e1.out]; omega)]
    clear HE HR CS
    go_enter Try.func17, Try.ntmps17
    go_wp2_with (refine blk_store _ rfl 34 _ _ rfl _ zeroN.cells rfl rfl _ _ k 7 nt_info rfl rfl (nt_one _) ?_; intro W2 k2 p2)
    exact blk_ret2 rfl rfl _ _ _ rfl k2 _ Try.underlying34 rfl 7 nt_info rfl ⟨ret_nt r1.out.symm e1.out.symm, p2.below bel (Nat.le_refl _)⟩
  have c0' : decide ((s.size : Int) < 8) = false := by simp; omega
  by_cases c1 : 65515 < s.size
  · have e1 : Hid (er = 2) := by show _ = _; rw [HE.out, if_neg c0, if_pos c1]
    have r1 : Hid (R = zeroN) := by show _ = _; rw [HR.out, if_neg (by rw [e1.out]; omega)]
    clear HE HR CS
    go_enter Try.func17, Try.ntmps17
    go_wp2_with (refine blk_store _ rfl 34 _ _ rfl _ zeroN.cells rfl rfl _ _ k 7 nt_info rfl rfl (nt_one _) ?_; intro W2 k2 p2)
    exact blk_ret2 rfl rfl _ _ _ rfl k2 _ Try.underlying34 rfl 7 nt_info rfl ⟨ret_nt r1.out.symm e1.out.symm, p2.below bel (Nat.le_refl _)⟩
  have HE2 : Hid (er = if wsum 0 s.data.toList ≠ 65535 then 5 else 0) := by show _ = _; rw [HE.out, if_neg c0, if_neg c1]
  clear HE
  generalize wsum 0 s.data.toList = sm at HE2 CS
  by_cases smz : sm = 65535
  case neg =>
    have e1 : Hid (er = 5) := by show _ = _; rw [HE2.out, if_pos smz]
    have r1 : Hid (R = zeroN) := by show _ = _; rw [HR.out, if_neg (by rw [e1.out]; omega)]
    have sb : (sm != 65535) = true := by simpa using smz
    clear HE2 HR smz
    go_enter Try.func17, Try.ntmps17
    go_wp2_with fail
    refine (CS _).mono ?_
    rintro e w6' ⟨rfl, rfl⟩
    go_wp2_with (refine blk_store _ rfl 34 _ _ rfl _ zeroN.cells rfl rfl _ _ k 7 nt_info rfl rfl (nt_one _) ?_; intro W2 k2 p2)
    exact blk_ret2 rfl rfl _ _ _ rfl k2 _ Try.underlying34 rfl 7 nt_info rfl ⟨ret_nt r1.out.symm e1.out.symm, p2.below bel (Nat.le_refl _)⟩
  subst smz
  have e1 : Hid (er = 0) := by show _ = _; rw [HE2.out, if_neg (by simp)]
  have r1 : Hid (R = rdn s) := by show _ = _; rw [HR.out, if_pos e1.out]
  clear HE2 HR
  have x0 : ∀ u, (Instr.index 9 (.string s) (.int .i64 0)).run Try.prog u = .ok (.int .u8 (bt s 0)) u := index_at s 0 (by omega)
  have x1 : ∀ u, (Instr.index 9 (.string s) (.int .i64 1)).run Try.prog u = .ok (.int .u8 (bt s 1)) u := index_at s 1 (by omega)
  have x4 : ∀ u, (Instr.index 9 (.string s) (.int .i64 4)).run Try.prog u = .ok (.int .u8 (bt s 4)) u := index_at s 4 (by omega)
  have x5 : ∀ u, (Instr.index 9 (.string s) (.int .i64 5)).run Try.prog u = .ok (.int .u8 (bt s 5)) u := index_at s 5 (by omega)
  have x6 : ∀ u, (Instr.index 9 (.string s) (.int .i64 6)).run Try.prog u = .ok (.int .u8 (bt s 6)) u := index_at s 6 (by omega)
  have x7 : ∀ u, (Instr.index 9 (.string s) (.int .i64 7)).run Try.prog u = .ok (.int .u8 (bt s 7)) u := index_at s 7 (by omega)
  have sd : ∀ u, (Instr.slice 9 (.string s) (some (.int .i64 8)) none none).run Try.prog u = .ok (.string (s.extract 8 s.size)) u := fun u =>
    run_slice_string_l u 9 s Try.underlying9 .i64 8 (by omega) (by omega)
  have b0 := bt_bd s 0
  have b1 := bt_bd s 1
  have z8 : (8 : Int) ≤ s.size := by omega
  have i0 : (0 : Int) < s.size := by omega
  have i1 : (1 : Int) < s.size := by omega
  have i4 : (4 : Int) < s.size := by omega
  have i5 : (5 : Int) < s.size := by omega
  have i6 : (6 : Int) < s.size := by omega
  have i7 : (7 : Int) < s.size := by omega
  go_enter Try.func17, Try.ntmps17
  go_wp2_with fail
  refine (CS _).mono ?_
  rintro e V ⟨rfl, hV⟩
  have hV' : V = w.alloc (.cells zeroN.cells 34) := hV
  rw [← hV'] at k bel
  clear hV hV'
  go_upto_region 7 with fail
  have ne := ab.ne V
  refine lst.wp_region_last2 (ab.Ab V) (by kernel_rfl) (by simp only [List.dropLast]; exact rfl) (by simp only [List.getLast?_cons_cons, List.getLast?_singleton]; exact rfl) (by simp only [List.dropLast]; exact rfl) (by simp only [List.getLast?_cons_cons, List.getLast?_singleton]; exact rfl) rfl (by kernel_rfl) (by kernel_rfl) (by kernel_rfl) (ab.Ab.drew _) ?_
  repeat (go_big_quiet_step (fail))
  refine wpQuiet_nil ?_
  intro _ hx
  obtain ⟨x, rfl⟩ := hx
  have Kx := x.h
  generalize x.W = W at Kx ⊢
  have k8 := k.below Kx k.lt
  have bel8 := bel.trans (Kx.mono bel.size)
  clear ne x0 x1 x4 x5 x6 x7 sd
  refine blk_store W rfl 34 _ _ rfl _ (rdn s).cells rfl ?e1 _ _ k8 7 nt_info rfl rfl (nt_one _) ?_
  case e1 =>
    simp [Act.eval, rdn, bb_at]
    try exact ⟨w64 _ (by omega) (by omega), w64 _ (by omega) (by omega)⟩
  intro W9 k9 p9
  go_wp2_with fail
  exact blk_ret2 rfl rfl _ _ _ rfl k9 _ Try.underlying34 rfl 7 nt_info rfl ⟨ret_nt r1.out.symm e1.out.symm, p9.below bel8 (Nat.le_refl _)⟩
end Go.Proofs.Ytohonfpmaafnaaa.dgf
