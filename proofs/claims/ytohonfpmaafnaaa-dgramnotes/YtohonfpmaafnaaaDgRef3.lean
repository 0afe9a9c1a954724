/- What custref.TextLetter answers. -/
import Derived.Test.YtohonfpmaafnaaaDgRef2
namespace Go.Proofs.Ytohonfpmaafnaaa.dgf
open Go.ChangeShapes Go.WideShapes Go.ChangeAt Go.RowKit Go.BigFrame
open Go.Proofs.Ytohonfpmaafnaaa Go.Proofs.Ytohonfpmaafnaaa.EM Go.Proofs.Ytohonfpmaafnaaa.ethb Go.Proofs.Ytohonfpmaafnaaa.SM Go.Proofs.Ytohonfpmaafnaaa.ipb Go.Proofs.Ytohonfpmaafnaaa.buf Go.Proofs.Ytohonfpmaafnaaa.boxes Go.Proofs.Ytohonfpmaafnaaa.wds Go.Proofs.Ytohonfpmaafnaaa.dgb Go.Proofs.Ytohonfpmaafnaaa.dgi Go.Proofs.Ytohonfpmaafnaaa.dgw
open Go.Proofs.Ytohonfpmaafnaaa.sumw (Qd)
open Go.Proofs.Ytohonfpmaafnaaa.refb (bytes_any word_ref between_any)
open Go.Proofs.Ytohonfpmaafnaaa.ipm (bytes_ext ext_list size_list)

/-- the result's block and the block of 'no' -/
structure KL (w : World) (W : World) : Prop where
  r : Blk W w.heap.size zeroL.cells 23
  n : Blk W (w.heap.size + 1) zeroL.cells 23
  bel : Below w.heap.size w W
theorem KL.call {w W w' : World} (h : KL w W) (hb : Below W.heap.size W w') : KL w w' := ⟨h.r.below hb h.r.lt, h.n.below hb h.n.lt, h.bel.trans (hb.mono h.bel.size)⟩
set_option maxHeartbeats 2000000 in
theorem textLetter_any (s : ByteArray) (f t : Int) (w : World) (hs : s.size ≤ 281474976710656) (hf : Ad f) (ht : Ad t) :
    Calls Try.prog 11 #[.string s, .int .u32 f, .int .u32 t] w fun e w' => e = .returned (.tuple #[.agg (rl s f t).cells, .int .i64 (rle s f t)]) ∧ Below w.heap.size w w' := by
  have HE : Hid (rle s f t = if s.size < 8 then 3 else if s.size < ln s then 3 else if ln s < 8 ∨ 65515 < ln s then 4
    else if wd s 6 ≠ 0 ∧ wsum 0 (und f t 17 (ln s) ++ s.data.toList.take (ln s)) ≠ 65535 then 5 else 0) := (rfl : _ = _)
  have HR : Hid (rl s f t = if rle s f t = 0 then rdl s else zeroL) := (rfl : _ = _)
  obtain ⟨er, eer⟩ : ∃ er, er = rle s f t := ⟨_, rfl⟩
  obtain ⟨R, eR⟩ : ∃ R, R = rl s f t := ⟨_, rfl⟩
  rw [← eer] at HE HR ⊢
  rw [← eR] at HR ⊢
  clear eer eR
  have k0 : KL w ((w.alloc (.cells zeroL.cells 23)).alloc (.cells zeroL.cells 23)) :=
    ⟨(Blk.new w _ _).alloc _, Blk.newAt _ _ _ (by simp), ((Below.refl w.heap.size w).alloc (Nat.le_refl _) _).alloc (by simp) _⟩
  go_enter Try.func11, Try.ntmps11
  go_upto_region 2 with (refine blk_store _ rfl 23 _ _ rfl _ zeroL.cells rfl rfl _ _ k0.n 3 lt_info rfl rfl (lt_one _) ?_; intro W2 k2 p2)
  have K2 : KL w W2 := ⟨p2.blk k0.r (by omega), k2, p2.below k0.bel (by omega)⟩
  clear k0 k2 p2
  by_cases c0 : s.size < 8
  · have c0' : decide ((s.size : Int) < 8) = true := by simp; omega
    have e1 : Hid (er = 3) := by show _ = _; rw [HE.out, if_pos c0]
    have r1 : Hid (R = zeroL) := by show _ = _; rw [HR.out, if_neg (by rw [e1.out]; omega)]
    clear HE HR
    go_wp2_with (first | (refine blk_load _ rfl 23 _ rfl _ rfl _ _ K2.n _ Try.underlying23 rfl 3 lt_info rfl ?_) | (refine blk_store _ rfl 23 _ _ rfl _ zeroL.cells rfl rfl _ _ K2.r 3 lt_info rfl rfl (lt_one _) ?_; intro W5 k5 p5))
    exact blk_ret2 rfl rfl _ _ _ rfl k5 _ Try.underlying23 rfl 3 lt_info rfl ⟨ret_lt r1.out.symm e1.out.symm, p5.below K2.bel (Nat.le_refl _)⟩
  have c0' : decide ((s.size : Int) < 8) = false := by simp; omega
  have HE1 : Hid (er = if s.size < ln s then 3 else if ln s < 8 ∨ 65515 < ln s then 4
    else if wd s 6 ≠ 0 ∧ wsum 0 (und f t 17 (ln s) ++ s.data.toList.take (ln s)) ≠ 65535 then 5 else 0) := by show _ = _; rw [HE.out, if_neg c0]
  clear HE
  have CA := fun (k : Int) u h0 h1 => wordAt_refi s k u hs h0 h1
  have CN : ∀ u, Calls Try.prog 31 #[.string s, .int .i64 4] u fun e w' => e = .returned (.int .i64 (ln s)) ∧ w' = u := fun u => by
    have := wordAt_ref s 4 u hs (by omega)
    have e : ((ln s : Nat) : Int) = wd s 4 := by unfold ln; have := wd_bd s 4; omega
    rw [e]; exact this
  have lb : ln s ≤ 65535 := by unfold ln; have := wd_bd s 4; omega
  have HD : Hid (rdl s = ⟨wd s 0, wd s 2, s.extract 8 (ln s)⟩) := (rfl : _ = _)
  generalize ln s = n at HE1 CN lb HD
  go_wp2_with fail
  refine (CN _).mono ?_
  rintro e W2 ⟨rfl, rfl⟩
  by_cases c1 : s.size < n
  · have c1' : decide ((s.size : Int) < n) = true := by simp; omega
    have e1 : Hid (er = 3) := by show _ = _; rw [HE1.out, if_pos c1]
    have r1 : Hid (R = zeroL) := by show _ = _; rw [HR.out, if_neg (by rw [e1.out]; omega)]
    clear HE1 HR
    go_wp2_with (first | (refine blk_load _ rfl 23 _ rfl _ rfl _ _ K2.n _ Try.underlying23 rfl 3 lt_info rfl ?_) | (refine blk_store _ rfl 23 _ _ rfl _ zeroL.cells rfl rfl _ _ K2.r 3 lt_info rfl rfl (lt_one _) ?_; intro W5 k5 p5))
    exact blk_ret2 rfl rfl _ _ _ rfl k5 _ Try.underlying23 rfl 3 lt_info rfl ⟨ret_lt r1.out.symm e1.out.symm, p5.below K2.bel (Nat.le_refl _)⟩
  have c1' : decide ((s.size : Int) < n) = false := by simp; omega
  have HE2 : Hid (er = if n < 8 ∨ 65515 < n then 4 else if wd s 6 ≠ 0 ∧ wsum 0 (und f t 17 n ++ s.data.toList.take n) ≠ 65535 then 5 else 0) := by show _ = _; rw [HE1.out, if_neg c1]
  clear HE1
  go_wp2_with fail
  refine (CN _).mono ?_
  rintro e W2 ⟨rfl, rfl⟩
  clear CN
  go_wp2_with fail
  refine (between_any n 8 65515 _).mono ?_
  rintro e W2 ⟨rfl, rfl⟩
  by_cases c2 : (8 : Int) ≤ n ∧ (n : Int) ≤ 65515
  case neg =>
    rw [decide_eq_false c2]
    have e1 : Hid (er = 4) := by show _ = _; rw [HE2.out, if_pos (by omega)]
    have r1 : Hid (R = zeroL) := by show _ = _; rw [HR.out, if_neg (by rw [e1.out]; omega)]
    clear HE2 HR
    go_wp2_with (first | (refine blk_load _ rfl 23 _ rfl _ rfl _ _ K2.n _ Try.underlying23 rfl 3 lt_info rfl ?_) | (refine blk_store _ rfl 23 _ _ rfl _ zeroL.cells rfl rfl _ _ K2.r 3 lt_info rfl rfl (lt_one _) ?_; intro W5 k5 p5))
    exact blk_ret2 rfl rfl _ _ _ rfl k5 _ Try.underlying23 rfl 3 lt_info rfl ⟨ret_lt r1.out.symm e1.out.symm, p5.below K2.bel (Nat.le_refl _)⟩
  rw [decide_eq_true c2]
  have HE3 : Hid (er = if wd s 6 ≠ 0 ∧ wsum 0 (und f t 17 n ++ s.data.toList.take n) ≠ 65535 then 5 else 0) := by show _ = _; rw [HE2.out, if_neg (by omega)]
  clear HE2
  have n' : (n : Int) ≤ s.size := by omega
  have n8 : (8 : Int) ≤ n := c2.1
  have sl : ∀ u, (Instr.slice 9 (.string s) none (some (.int .i64 n)) none).run Try.prog u = .ok (.string (s.extract 0 n)) u := fun u => by
    have := run_slice_string_h u 9 s Try.underlying9 .i64 n (by omega) n'
    simpa using this
  have sd : ∀ u, (Instr.slice 9 (.string s) (some (.int .i64 8)) (some (.int .i64 n)) none).run Try.prog u = .ok (.string (s.extract 8 n)) u := fun u => by
    have := run_slice_string (P := Try.prog) u 9 s .i64 .i64 8 n Try.underlying9 (by omega) (by omega) (by omega)
    simpa using this
  have zS : (s.extract 0 n).size = n := by rw [ByteArray.size_extract]; omega
  have CU := fun u => underText_any f t 17 n u hf ht
  have zU : (⟨(und f t 17 n).toArray⟩ : ByteArray).size = 12 := by show (und _ _ _ _).toArray.size = 12; rw [List.size_toArray, und_len]
  have CS : ∀ u, Calls Try.prog 32 #[.int .i64 0, .string ((⟨(und f t 17 n).toArray⟩ : ByteArray) ++ s.extract 0 n)] u fun e w' => e = .returned (.int .i64 (wsum 0 (und f t 17 n ++ s.data.toList.take n))) ∧ w' = u := fun u => by
    have := sumr.sumOf_any 0 ((⟨(und f t 17 n).toArray⟩ : ByteArray) ++ s.extract 0 n) u (by omega) (by omega) (by rw [ByteArray.size_append]; omega)
    rw [app_list, ext_list, List.drop_zero] at this
    exact this
  generalize (⟨(und f t 17 n).toArray⟩ : ByteArray) = U at CU CS zU
  generalize s.extract 0 n = S at sl zS CS
  generalize s.extract 8 n = D at HD sd
  generalize wsum 0 (und f t 17 n ++ s.data.toList.take n) = sm at HE3 CS
  clear c1 c2 lb
  have w6 := wd_bd s 6
  by_cases c6z : wd s 6 = 0
  · have e1 : Hid (er = 0) := by show _ = _; rw [HE3.out, if_neg (by simp [c6z])]
    have r1 : Hid (R = ⟨wd s 0, wd s 2, D⟩) := by show _ = _; rw [HR.out, if_pos e1.out, HD.out]
    clear HE3 HR HD
    have c6' : decide (0 < wd s 6) = false := by rw [c6z]; rfl
    clear c6z w6
    go_upto_region 7 with fail
    have ne := ab.ne W2
    refine ab.region (by kernel_rfl) (by kernel_rfl) ?_
    repeat (go_big_quiet_step (first
      | (go_at_call 31; exact ab.call_same (CA _ _ (by omega) (by omega)))
      | (go_at_call 13; exact ab.call (CU _))
      | (go_at_call 32; exact ab.call_same (CS _))))
    refine wpQuiet_nil ?_
    intro _ hx
    obtain ⟨x, rfl⟩ := hx
    have Kx := x.h
    generalize x.W = W3 at Kx ⊢
    have K3 := K2.call Kx
    clear ne K2 Kx CU CS
    go_upto_region 9 with fail
    have KE := ab.ne W3
    refine lst.wp_region_last2 (ab.Ab W3) (by kernel_rfl) (by simp only [List.dropLast]; exact rfl) (by simp only [List.getLast?_cons_cons, List.getLast?_singleton]; exact rfl) (by simp only [List.dropLast]; exact rfl) (by simp only [List.getLast?_cons_cons, List.getLast?_singleton]; exact rfl) rfl (by kernel_rfl) (by kernel_rfl) (by kernel_rfl) (ab.Ab.drew _) ?_
    repeat (go_big_quiet_step ((go_at_call 31; exact ab.call_same (CA _ _ (by omega) (by omega)))))
    refine wpQuiet_nil ?_
    intro _ hx
    obtain ⟨x, rfl⟩ := hx
    have Kx := x.h
    generalize x.W = W at Kx ⊢
    have K8 := K3.call Kx
    clear KE CA sd sl
    refine blk_store W rfl 23 _ _ rfl _ (Lt.cells ⟨wd s 0, wd s 2, D⟩) rfl rfl _ _ K8.r 3 lt_info rfl rfl (lt_one _) ?_
    intro W9 k9 p9
    go_wp2_with fail
    exact blk_ret2 rfl rfl _ _ _ rfl k9 _ Try.underlying23 rfl 3 lt_info rfl ⟨ret_lt r1.out.symm e1.out.symm, p9.below K8.bel (Nat.le_refl _)⟩
  have c6' : decide (0 < wd s 6) = true := by simp; omega
  have HE4 : Hid (er = if sm ≠ 65535 then 5 else 0) := by show _ = _; rw [HE3.out]; simp [c6z]
  clear HE3 c6z w6
  by_cases smz : sm = 65535
  · subst smz
    have e1 : Hid (er = 0) := by show _ = _; rw [HE4.out, if_neg (by simp)]
    have r1 : Hid (R = ⟨wd s 0, wd s 2, D⟩) := by show _ = _; rw [HR.out, if_pos e1.out, HD.out]
    clear HE4 HR HD
    go_upto_region 7 with fail
    have ne := ab.ne W2
    refine ab.region (by kernel_rfl) (by kernel_rfl) ?_
    repeat (go_big_quiet_step (first
      | (go_at_call 31; exact ab.call_same (CA _ _ (by omega) (by omega)))
      | (go_at_call 13; exact ab.call (CU _))
      | (go_at_call 32; exact ab.call_same (CS _))))
    refine wpQuiet_nil ?_
    intro _ hx
    obtain ⟨x, rfl⟩ := hx
    have Kx := x.h
    generalize x.W = W3 at Kx ⊢
    have K3 := K2.call Kx
    clear ne K2 Kx CU CS
    go_upto_region 9 with fail
    have KE := ab.ne W3
    refine lst.wp_region_last2 (ab.Ab W3) (by kernel_rfl) (by simp only [List.dropLast]; exact rfl) (by simp only [List.getLast?_cons_cons, List.getLast?_singleton]; exact rfl) (by simp only [List.dropLast]; exact rfl) (by simp only [List.getLast?_cons_cons, List.getLast?_singleton]; exact rfl) rfl (by kernel_rfl) (by kernel_rfl) (by kernel_rfl) (ab.Ab.drew _) ?_
    repeat (go_big_quiet_step ((go_at_call 31; exact ab.call_same (CA _ _ (by omega) (by omega)))))
    refine wpQuiet_nil ?_
    intro _ hx
    obtain ⟨x, rfl⟩ := hx
    have Kx := x.h
    generalize x.W = W at Kx ⊢
    have K8 := K3.call Kx
    clear KE CA sd sl
    refine blk_store W rfl 23 _ _ rfl _ (Lt.cells ⟨wd s 0, wd s 2, D⟩) rfl rfl _ _ K8.r 3 lt_info rfl rfl (lt_one _) ?_
    intro W9 k9 p9
    go_wp2_with fail
    exact blk_ret2 rfl rfl _ _ _ rfl k9 _ Try.underlying23 rfl 3 lt_info rfl ⟨ret_lt r1.out.symm e1.out.symm, p9.below K8.bel (Nat.le_refl _)⟩
  · have e1 : Hid (er = 5) := by show _ = _; rw [HE4.out, if_pos smz]
    have r1 : Hid (R = zeroL) := by show _ = _; rw [HR.out, if_neg (by rw [e1.out]; omega)]
    have sb : (sm != 65535) = true := by simpa using smz
    clear HE4 HR HD smz
    go_upto_region 7 with fail
    have ne := ab.ne W2
    refine ab.region (by kernel_rfl) (by kernel_rfl) ?_
    repeat (go_big_quiet_step (first
      | (go_at_call 31; exact ab.call_same (CA _ _ (by omega) (by omega)))
      | (go_at_call 13; exact ab.call (CU _))
      | (go_at_call 32; exact ab.call_same (CS _))))
    refine wpQuiet_nil ?_
    intro _ hx
    obtain ⟨x, rfl⟩ := hx
    have Kx := x.h
    generalize x.W = W3 at Kx ⊢
    have K3 := K2.call Kx
    clear ne K2 Kx CU CS
    go_wp2_with (first | (refine blk_load _ rfl 23 _ rfl _ rfl _ _ K3.n _ Try.underlying23 rfl 3 lt_info rfl ?_) | (refine blk_store _ rfl 23 _ _ rfl _ zeroL.cells rfl rfl _ _ K3.r 3 lt_info rfl rfl (lt_one _) ?_; intro W5 k5 p5))
    exact blk_ret2 rfl rfl _ _ _ rfl k5 _ Try.underlying23 rfl 3 lt_info rfl ⟨ret_lt r1.out.symm e1.out.symm, p5.below K3.bel (Nat.le_refl _)⟩
end Go.Proofs.Ytohonfpmaafnaaa.dgf
