/- What dgram.Read answers, and that it changes nothing that was there. -/
import Derived.Test.YtohonfpmaafnaaaDgWrite
import Derived.Test.YtohonfpmaafnaaaLast2
namespace Go.Proofs.Ytohonfpmaafnaaa.dgr
open Go.ChangeShapes Go.WideShapes Go.ChangeAt Go.RowKit Go.BigFrame
open Go.Proofs.Ytohonfpmaafnaaa Go.Proofs.Ytohonfpmaafnaaa.EM Go.Proofs.Ytohonfpmaafnaaa.ethb Go.Proofs.Ytohonfpmaafnaaa.SM Go.Proofs.Ytohonfpmaafnaaa.ipb Go.Proofs.Ytohonfpmaafnaaa.buf Go.Proofs.Ytohonfpmaafnaaa.boxes Go.Proofs.Ytohonfpmaafnaaa.wds Go.Proofs.Ytohonfpmaafnaaa.dgb Go.Proofs.Ytohonfpmaafnaaa.dgi Go.Proofs.Ytohonfpmaafnaaa.dgw
open Go.Proofs.Ytohonfpmaafnaaa.sumw (Qd)
open Go.Proofs.Ytohonfpmaafnaaa.ipm (bytes_ext ext_list)

theorem bt_cut (s : ByteArray) (n k : Nat) (h : k < n) : bt (s.extract 0 n) k = bt s k := by
  unfold bt
  rw [ext_list, List.drop_zero, List.getD_eq_getElem?_getD, List.getD_eq_getElem?_getD, List.getElem?_take, if_pos h]
theorem wd_cut (s : ByteArray) (n k : Nat) (h : k + 1 < n) : wd (s.extract 0 n) k = wd s k := by unfold wd; rw [bt_cut s n k (by omega), bt_cut s n (k + 1) h]
theorem cut_cut (s : ByteArray) (n : Nat) (h : n ≤ s.size) : (s.extract 0 n).extract 8 (s.extract 0 n).size = s.extract 8 n := by
  apply bytes_ext
  have : (s.extract 0 n).size = n := by rw [ByteArray.size_extract]; omega
  rw [this, ext_list, ext_list, ext_list, List.drop_zero, List.take_take, Nat.min_self]
theorem w64 (n : Int) (h0 : 0 ≤ n) (h1 : n ≤ 65535) : wrap64 n = n := by unfold wrap64; omega
set_option maxHeartbeats 2000000 in
theorem read_any (s : ByteArray) (f t : Int) (w : World) (hs : s.size ≤ 281474976710656) (hf : Ad f) (ht : Ad t) :
    Calls Try.prog 10 #[.string s, .int .u32 f, .int .u32 t] w fun e w' => e = .returned (.tuple #[.agg (rl s f t).cells, .int .i64 (rle s f t)]) ∧ Below w.heap.size w w' := by
  have k := Blk.new w zeroL.cells 23
  have bel := (Below.refl w.heap.size w).alloc (Nat.le_refl _) (.cells zeroL.cells 23)
  have HE : Hid (rle s f t = if s.size < 8 then 3 else if s.size < ln s then 3 else if ln s < 8 ∨ 65515 < ln s then 4
    else if wd s 6 ≠ 0 ∧ wsum 0 (und f t 17 (ln s) ++ s.data.toList.take (ln s)) ≠ 65535 then 5 else 0) := (rfl : _ = _)
  have HR : Hid (rl s f t = if rle s f t = 0 then rdl s else zeroL) := (rfl : _ = _)
  obtain ⟨er, eer⟩ : ∃ er, er = rle s f t := ⟨_, rfl⟩
  obtain ⟨R, eR⟩ : ∃ R, R = rl s f t := ⟨_, rfl⟩
  rw [← eer] at HE HR ⊢
  rw [← eR] at HR ⊢
  clear eer eR
  by_cases c0 : s.size < 8
  · have e1 : Hid (er = 3) := by show _ = _; rw [HE.out, if_pos c0]
    have r1 : Hid (R = zeroL) := by show _ = _; rw [HR.out, if_neg (by rw [e1.out]; omega)]
    clear HE HR
    go_enter Try.func10, Try.ntmps10
    go_wp2_with (refine blk_store _ rfl 23 _ _ rfl _ zeroL.cells rfl rfl _ _ k 3 lt_info rfl rfl (lt_one _) ?_; intro W2 k2 p2)
    exact blk_ret2 rfl rfl _ _ _ rfl k2 _ Try.underlying23 rfl 3 lt_info rfl ⟨ret_lt r1.out.symm e1.out.symm, p2.below bel (Nat.le_refl _)⟩
  have CW : ∀ u, Calls Try.prog 29 #[.string s, .int .i64 4] u fun e w' => e = .returned (.int .u16 (ln s)) ∧ Qd u w' := fun u => by
    have := wordAt_any s 4 u hs (by omega)
    have e : ((ln s : Nat) : Int) = wd s 4 := by unfold ln; have := wd_bd s 4; omega
    rw [e]; exact this
  have lb : ln s ≤ 65535 := by unfold ln; have := wd_bd s 4; omega
  obtain ⟨n, en⟩ : ∃ n, n = ln s := ⟨_, rfl⟩
  have HD : Hid (rdl s = ⟨wd s 0, wd s 2, s.extract 8 n⟩) := by rw [en]; exact (rfl : _ = _)
  have HE1 : Hid (er = if s.size < n then 3 else if n < 8 ∨ 65515 < n then 4
    else if wd s 6 ≠ 0 ∧ wsum 0 (und f t 17 n ++ s.data.toList.take n) ≠ 65535 then 5 else 0) := by show _ = _; rw [HE.out, if_neg c0, ← en]
  rw [← en] at CW lb
  clear HE en
  have c0' : decide ((s.size : Int) < 8) = false := by simp; omega
  by_cases c1 : s.size < n
  · have e1 : Hid (er = 3) := by show _ = _; rw [HE1.out, if_pos c1]
    have r1 : Hid (R = zeroL) := by show _ = _; rw [HR.out, if_neg (by rw [e1.out]; omega)]
    clear HE1 HR
    go_enter Try.func10, Try.ntmps10
    go_wp2_with fail
    refine (CW _).mono ?_
    rintro e w1 ⟨rfl, q⟩
    have k1 := qd_blk q k
    have bel1 := bel.trans (qd_below q)
    clear k bel q CW
    go_wp2_with (refine blk_store _ rfl 23 _ _ rfl _ zeroL.cells rfl rfl _ _ k1 3 lt_info rfl rfl (lt_one _) ?_; intro W2 k2 p2)
    exact blk_ret2 rfl rfl _ _ _ rfl k2 _ Try.underlying23 rfl 3 lt_info rfl ⟨ret_lt r1.out.symm e1.out.symm, p2.below bel1 (Nat.le_refl _)⟩
  by_cases c2 : n < 8
  · have e1 : Hid (er = 4) := by show _ = _; rw [HE1.out, if_neg c1, if_pos (Or.inl c2)]
    have r1 : Hid (R = zeroL) := by show _ = _; rw [HR.out, if_neg (by rw [e1.out]; omega)]
    clear HE1 HR
    go_enter Try.func10, Try.ntmps10
    go_wp2_with fail
    refine (CW _).mono ?_
    rintro e w1 ⟨rfl, q⟩
    have k1 := qd_blk q k
    have bel1 := bel.trans (qd_below q)
    clear k bel q CW
    go_wp2_with (refine blk_store _ rfl 23 _ _ rfl _ zeroL.cells rfl rfl _ _ k1 3 lt_info rfl rfl (lt_one _) ?_; intro W2 k2 p2)
    exact blk_ret2 rfl rfl _ _ _ rfl k2 _ Try.underlying23 rfl 3 lt_info rfl ⟨ret_lt r1.out.symm e1.out.symm, p2.below bel1 (Nat.le_refl _)⟩
  by_cases c3 : 65515 < n
  · have e1 : Hid (er = 4) := by show _ = _; rw [HE1.out, if_neg c1, if_pos (Or.inr c3)]
    have r1 : Hid (R = zeroL) := by show _ = _; rw [HR.out, if_neg (by rw [e1.out]; omega)]
    clear HE1 HR
    go_enter Try.func10, Try.ntmps10
    go_wp2_with fail
    refine (CW _).mono ?_
    rintro e w1 ⟨rfl, q⟩
    have k1 := qd_blk q k
    have bel1 := bel.trans (qd_below q)
    clear k bel q CW
    go_wp2_with (refine blk_store _ rfl 23 _ _ rfl _ zeroL.cells rfl rfl _ _ k1 3 lt_info rfl rfl (lt_one _) ?_; intro W2 k2 p2)
    exact blk_ret2 rfl rfl _ _ _ rfl k2 _ Try.underlying23 rfl 3 lt_info rfl ⟨ret_lt r1.out.symm e1.out.symm, p2.below bel1 (Nat.le_refl _)⟩
  have HE2 : Hid (er = if wd s 6 ≠ 0 ∧ wsum 0 (und f t 17 n ++ s.data.toList.take n) ≠ 65535 then 5 else 0) := by show _ = _; rw [HE1.out, if_neg c1, if_neg (by omega)]
  clear HE1
  have n' : (n : Int) ≤ s.size := by omega
  have sl : ∀ u, (Instr.slice 9 (.string s) none (some (.int .i64 n)) none).run Try.prog u = .ok (.string (s.extract 0 n)) u := fun u => by
    have := run_slice_string_h u 9 s Try.underlying9 .i64 n (by omega) n'
    simpa using this
  have zS : (s.extract 0 n).size = n := by rw [ByteArray.size_extract]; omega
  have C6 : ∀ u, Calls Try.prog 29 #[.string (s.extract 0 n), .int .i64 6] u fun e w' => e = .returned (.int .u16 (wd s 6)) ∧ Qd u w' := fun u => by
    have := wordAt_any (s.extract 0 n) 6 u (by omega) (by omega)
    rw [wd_cut s n 6 (by omega)] at this; exact this
  have B0 : ∀ (i : Int) u, 0 ≤ i → i + 1 < (s.extract 0 n).size → Calls Try.prog 29 #[.string (s.extract 0 n), .int .i64 i] u fun e w' => e = .returned (.int .u16 (wd (s.extract 0 n) i.toNat)) ∧ Below u.heap.size u w' := fun i u h0 h1 =>
    (wordAt_int (s.extract 0 n) i u (by omega) h0 h1).mono fun _ _ hx => ⟨hx.1, qd_below hx.2⟩
  have HD2 : Hid (rdl s = ⟨wd (s.extract 0 n) 0, wd (s.extract 0 n) 2, s.extract 8 n⟩) := by
    show _ = _
    rw [wd_cut s n 0 (by omega), wd_cut s n 2 (by omega)]; exact HD.out
  have CU := fun u => under_any f t (s.extract 0 n) u (by omega) hf ht
  have CR := fun u => sumw.right_any (uns f t (s.extract 0 n)) u (by rw [uns_size]; omega)
  rw [uns_list, zS, show (s.extract 0 n).data.toList = s.data.toList.take n by rw [ext_list, List.drop_zero]] at CR
  have sd : ∀ u, (Instr.slice 9 (.string (s.extract 0 n)) (some (.int .i64 8)) none none).run Try.prog u = .ok (.string (s.extract 8 n)) u := fun u => by
    have := run_slice_string_l u 9 (s.extract 0 n) Try.underlying9 .i64 8 (by omega) (by omega)
    rw [show (8 : Int).toNat = 8 from rfl, cut_cut s n (by omega)] at this
    exact this
  have w0 := wd_bd (s.extract 0 n) 0
  have w2 := wd_bd (s.extract 0 n) 2
  have w6 := wd_bd s 6
  generalize uns f t (s.extract 0 n) = U at CU CR
  generalize wsum 0 (und f t 17 n ++ s.data.toList.take n) = sm at HE2 CR
  generalize s.extract 8 n = D at HD2 sd
  generalize s.extract 0 n = S at sl zS C6 B0 HD2 w0 w2 CU sd
  generalize wd s 6 = c6 at HE2 C6 w6
  clear HD
  have zS' : (8 : Int) ≤ S.size := by omega
  go_enter Try.func10, Try.ntmps10
  go_wp2_with fail
  refine (CW _).mono ?_
  rintro e w1 ⟨rfl, q⟩
  have k1 := qd_blk q k
  have bel1 := bel.trans (qd_below q)
  clear k bel q CW
  go_wp2_with fail
  refine (C6 _).mono ?_
  rintro e w4 ⟨rfl, q⟩
  have k4 := qd_blk q k1
  have bel4 := bel1.trans (qd_below q)
  clear k1 bel1 q C6
  by_cases c6z : c6 = 0
  · subst c6z
    have e1 : Hid (er = 0) := by show _ = _; rw [HE2.out, if_neg (by simp)]
    have r1 : Hid (R = ⟨wd S 0, wd S 2, D⟩) := by show _ = _; rw [HR.out, if_pos e1.out, HD2.out]
    clear HE2 HR HD2 CU CR
    go_upto_region 11 with fail
    have ne := ab.ne w4
    refine lst.wp_region_last2 (ab.Ab w4) (by kernel_rfl) (by simp only [List.dropLast]; exact rfl) (by simp only [List.getLast?_cons_cons, List.getLast?_singleton]; exact rfl) (by simp only [List.dropLast]; exact rfl) (by simp only [List.getLast?_cons_cons, List.getLast?_singleton]; exact rfl) rfl (by kernel_rfl) (by kernel_rfl) (by kernel_rfl) (ab.Ab.drew _) ?_
    repeat (go_big_quiet_step ((go_at_call 29; exact ab.call (B0 _ _ (by omega) (by omega)))))
    refine wpQuiet_nil ?_
    intro _ hx
    obtain ⟨x, rfl⟩ := hx
    obtain ⟨W, Kx⟩ := x
    have kx : Blk W w.heap.size zeroL.cells 23 := k4.below Kx k4.lt
    have bx : Below w.heap.size w W := bel4.trans (Kx.mono bel4.size)
    clear ne B0 sd sl
    refine blk_store W rfl 23 _ _ rfl _ (Lt.cells ⟨wd S 0, wd S 2, D⟩) rfl ?e1 _ _ kx 3 lt_info rfl rfl (lt_one _) ?_
    case e1 =>
      simp [Act.eval]
      try exact ⟨w64 _ w0.1 w0.2, w64 _ w2.1 w2.2⟩
    intro W2 k2 p2
    go_wp2_with fail
    exact blk_ret2 rfl rfl _ _ _ rfl k2 _ Try.underlying23 rfl 3 lt_info rfl ⟨ret_lt r1.out.symm e1.out.symm, p2.below bx (Nat.le_refl _)⟩
  have c6b : (c6 != 0) = true := by simpa using c6z
  have HE3 : Hid (er = if sm ≠ 65535 then 5 else 0) := by show _ = _; rw [HE2.out]; simp [c6z]
  clear HE2 c6z
  go_wp2_with fail
  refine (CU _).mono ?_
  rintro e w5 ⟨rfl, hb⟩
  have k5 := k4.below hb k4.lt
  have bel5 := bel4.trans (hb.mono bel4.size)
  clear k4 bel4 hb CU
  go_wp2_with fail
  refine (CR _).mono ?_
  rintro e w6' ⟨rfl, q⟩
  have k6 := qd_blk q k5
  have bel6 := bel5.trans (qd_below q)
  clear k5 bel5 q CR
  by_cases smz : sm = 65535
  · subst smz
    have e1 : Hid (er = 0) := by show _ = _; rw [HE3.out, if_neg (by simp)]
    have r1 : Hid (R = ⟨wd S 0, wd S 2, D⟩) := by show _ = _; rw [HR.out, if_pos e1.out, HD2.out]
    clear HE3 HR HD2
    rw [show ((65535 : Int) == 65535) = true from rfl]
    go_upto_region 11 with fail
    have ne := ab.ne w6'
    refine lst.wp_region_last2 (ab.Ab w6') (by kernel_rfl) (by simp only [List.dropLast]; exact rfl) (by simp only [List.getLast?_cons_cons, List.getLast?_singleton]; exact rfl) (by simp only [List.dropLast]; exact rfl) (by simp only [List.getLast?_cons_cons, List.getLast?_singleton]; exact rfl) rfl (by kernel_rfl) (by kernel_rfl) (by kernel_rfl) (ab.Ab.drew _) ?_
    repeat (go_big_quiet_step ((go_at_call 29; exact ab.call (B0 _ _ (by omega) (by omega)))))
    refine wpQuiet_nil ?_
    intro _ hx
    obtain ⟨x, rfl⟩ := hx
    obtain ⟨W, Kx⟩ := x
    have kx : Blk W w.heap.size zeroL.cells 23 := k6.below Kx k6.lt
    have bx : Below w.heap.size w W := bel6.trans (Kx.mono bel6.size)
    clear ne B0 sd sl
    refine blk_store W rfl 23 _ _ rfl _ (Lt.cells ⟨wd S 0, wd S 2, D⟩) rfl ?e1 _ _ kx 3 lt_info rfl rfl (lt_one _) ?_
    case e1 =>
      simp [Act.eval]
      try exact ⟨w64 _ w0.1 w0.2, w64 _ w2.1 w2.2⟩
    intro W2 k2 p2
    go_wp2_with fail
    exact blk_ret2 rfl rfl _ _ _ rfl k2 _ Try.underlying23 rfl 3 lt_info rfl ⟨ret_lt r1.out.symm e1.out.symm, p2.below bx (Nat.le_refl _)⟩
  · have e1 : Hid (er = 5) := by show _ = _; rw [HE3.out, if_pos smz]
    have r1 : Hid (R = zeroL) := by show _ = _; rw [HR.out, if_neg (by rw [e1.out]; omega)]
    have sb : (sm == 65535) = false := by simpa using smz
    rw [sb]
    clear HE3 HR HD2 smz sb B0
    go_wp2_with (refine blk_store _ rfl 23 _ _ rfl _ zeroL.cells rfl rfl _ _ k6 3 lt_info rfl rfl (lt_one _) ?_; intro W2 k2 p2)
    exact blk_ret2 rfl rfl _ _ _ rfl k2 _ Try.underlying23 rfl 3 lt_info rfl ⟨ret_lt r1.out.symm e1.out.symm, p2.below bel6 (Nat.le_refl _)⟩
end Go.Proofs.Ytohonfpmaafnaaa.dgr
