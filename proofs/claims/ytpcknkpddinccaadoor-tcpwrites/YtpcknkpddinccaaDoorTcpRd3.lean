/- What tcp.Read answers: a segment of its own, and that it changes nothing that was there. -/
import Derived.Test.YtpcknkpddinccaaDoorTcpRd2
import Derived.Test.YtpcknkpddinccaaDoorTcpWr1
import Derived.Test.YtpcknkpddinccaaDoorTcpMvIn
import Derived.Test.YtpcknkpddinccaaDoorLast2
namespace Go.Proofs.YtpcknkpddinccaaDoor.tcr3
open Go.ChangeShapes Go.WideShapes Go.ChangeAt Go.RowKit Go.BigFrame
open Go.Proofs.YtpcknkpddinccaaDoor Go.Proofs.YtpcknkpddinccaaDoor.EM Go.Proofs.YtpcknkpddinccaaDoor.ethb Go.Proofs.YtpcknkpddinccaaDoor.SM Go.Proofs.YtpcknkpddinccaaDoor.ipb Go.Proofs.YtpcknkpddinccaaDoor.boxes Go.Proofs.YtpcknkpddinccaaDoor.wds Go.Proofs.YtpcknkpddinccaaDoor.tcb Go.Proofs.YtpcknkpddinccaaDoor.tci Go.Proofs.YtpcknkpddinccaaDoor.tcrb Go.Proofs.YtpcknkpddinccaaDoor.rwr Go.Proofs.YtpcknkpddinccaaDoor.tcr1 Go.Proofs.YtpcknkpddinccaaDoor.tcr2 Go.Proofs.YtpcknkpddinccaaDoor.tcw1 Go.Proofs.YtpcknkpddinccaaDoor.dgb
open Go.Proofs.YtpcknkpddinccaaDoor.sumw (Qd)
open Go.Proofs.YtpcknkpddinccaaDoor.dgi (Ad)
open Go.Proofs.YtpcknkpddinccaaDoor.rws (Knd Own)
open Go.Proofs.YtpcknkpddinccaaDoor.ipm (bytes_ext ext_list size_list)

theorem w64 (n : Int) (h0 : 0 ≤ n) (h1 : n ≤ 4294967295) : wrap64 n = n := by unfold wrap64; omega
theorem ret_sg {p q : Sh} {v : Value} {a b : Int} (h : p = q) (h' : a = b) : Ending.returned (.tuple #[.agg (p.cells v), .int .i64 a]) = .returned (.tuple #[.agg (q.cells v), .int .i64 b]) := by rw [h, h']
set_option maxRecDepth 20000 in
set_option maxHeartbeats 4000000 in
theorem read_any (s : ByteArray) (f t : Int) (w : World) (hs : s.size ≤ 140737488355328) (hf : Ad f) (ht : Ad t) :
    Calls Tryd.prog 10 #[.string s, .int .u32 f, .int .u32 t] w fun e w' => ∃ v, e = .returned (.tuple #[.agg ((rgh s f t).cells v), .int .i64 (rse s f t)]) ∧ Own OK w' w.heap.size v (rgo s f t) ∧ Below w.heap.size w w' := by
  have k := Blk.new w (zeroS.cells (.slice none 0 0)) 25
  have bel := (Below.refl w.heap.size w).alloc (Nat.le_refl _) (.cells (zeroS.cells (.slice none 0 0)) 25)
  have HE : Hid (rse s f t = if s.size < 20 then 3 else if s.size < hl s then 3 else if hl s < 20 ∨ bt s 12 % 16 ≠ 0 then 4 else if 65455 < s.size - hl s then 2
    else if rdo (s.extract 20 (hl s)).data.toList = none then 4 else if wsum 0 (und f t 6 s.size ++ s.data.toList) ≠ 65535 then 5 else 0) := (rfl : _ = _)
  have HR : Hid (rgh s f t = if rse s f t = 0 then rdh s else zeroS) := (rfl : _ = _)
  have HO : Hid (rgo s f t = if rse s f t = 0 then rds s else []) := (rfl : _ = _)
  obtain ⟨er, eer⟩ : ∃ er, er = rse s f t := ⟨_, rfl⟩
  obtain ⟨R, eR⟩ : ∃ R, R = rgh s f t := ⟨_, rfl⟩
  obtain ⟨O, eO⟩ : ∃ O, O = rgo s f t := ⟨_, rfl⟩
  rw [← eer] at HE HR HO ⊢
  rw [← eR] at HR ⊢
  rw [← eO] at HO ⊢
  clear eer eR eO
  have RZ : Hid (er ≠ 0 → R = zeroS) := fun h => by rw [HR.out, if_neg h]
  have OZ : Hid (er ≠ 0 → O = []) := fun h => by rw [HO.out, if_neg h]
  by_cases c0 : s.size < 20
  · have e1 : Hid (er = 3) := by show _ = _; rw [HE.out, if_pos c0]
    have r1 : Hid (R = zeroS) := RZ.out (by rw [e1.out]; omega)
    have o1 : Hid (O = []) := OZ.out (by rw [e1.out]; omega)
    have c0' : (s.size : Int) < 20 := by omega
    clear HE HR HO RZ OZ
    go_enter Tryd.func10, Tryd.ntmps10
    go_wp2_with (refine blk_store _ rfl 25 _ _ rfl _ (zeroS.cells (.slice none 0 0)) rfl rfl _ _ k 9 sg_info rfl rfl (sg_one _ _ _ _) ?_; intro W2 k2 p2)
    exact blk_ret2 rfl rfl _ _ _ rfl k2 _ Tryd.underlying25 rfl 9 sg_info rfl ⟨_, ret_sg r1.out.symm e1.out.symm, by rw [o1.out]; exact Own.nil _ _ _, p2.below bel (Nat.le_refl _)⟩
  have c0' : ¬ (s.size : Int) < 20 := by omega
  have hi : ∀ u, (Instr.index 9 (.string s) (.int .i64 12)).run Tryd.prog u = .ok (.int .u8 (bt s 12)) u := fun u => by simpa using index_at s 12 (by omega) u
  have hi13 : ∀ u, (Instr.index 9 (.string s) (.int .i64 13)).run Tryd.prog u = .ok (.int .u8 (bt s 13)) u := fun u => by simpa using index_at s 13 (by omega) u
  have b12 := bt_bd s 12
  obtain ⟨n, en⟩ : ∃ n, n = hl s := ⟨_, rfl⟩
  have hH : (4 * (bt s 12 / 16) : Int) = (n : Int) := by rw [en]; unfold hl; omega
  have nb : n ≤ 60 := by omega
  have HD : Hid (rdh s = ⟨wd s 0, wd s 2, 65536 * wd s 4 + wd s 6, 65536 * wd s 8 + wd s 10, bt s 13, wd s 14, wd s 18, s.extract n s.size⟩) := by rw [en]; exact (rfl : _ = _)
  have HS : Hid (rds s = (rdo (s.extract 20 n).data.toList).getD []) := by rw [en]; exact (rfl : _ = _)
  have HE1 : Hid (er = if s.size < n then 3 else if n < 20 ∨ bt s 12 % 16 ≠ 0 then 4 else if 65455 < s.size - n then 2
    else if rdo (s.extract 20 n).data.toList = none then 4 else if wsum 0 (und f t 6 s.size ++ s.data.toList) ≠ 65535 then 5 else 0) := by show _ = _; rw [HE.out, if_neg c0, ← en]
  have C0 := fun u => readOptions_any (s.extract 20 n) u (by rw [ByteArray.size_extract]; omega)
  have CU := fun u => under_any f t s u (by omega) hf ht
  have CR := fun u => sumw.right_any (uns f t s) u (by rw [uns_size]; omega)
  rw [uns_list] at CR
  have BW : ∀ (i : Int) u, 0 ≤ i → i + 1 < s.size → Calls Tryd.prog 36 #[.string s, .int .i64 i] u fun e w' => e = .returned (.int .u16 (wd s i.toNat)) ∧ Below u.heap.size u w' := fun i u h0 h1 =>
    (wordAt_int s i u (by omega) h0 h1).mono fun _ _ hx => ⟨hx.1, qd_below hx.2⟩
  have BL : ∀ (i : Int) u, 0 ≤ i → i + 3 < s.size → Calls Tryd.prog 37 #[.string s, .int .i64 i] u fun e w' => e = .returned (.int .u32 (65536 * wd s i.toNat + wd s (i.toNat + 2))) ∧ Below u.heap.size u w' := fun i u h0 h1 =>
    (longAt_int s i u (by omega) h0 h1).mono fun _ _ hx => ⟨hx.1, qd_below hx.2⟩
  have HH : Hid ((4 * (bt s 12 / 16) : Int) = (n : Int)) := hH
  clear HE en hH
  generalize uns f t s = U at CU CR
  generalize wsum 0 (und f t 6 s.size ++ s.data.toList) = sm at HE1 CR
  generalize bt s 12 = c at *
  obtain ⟨cb0, cb1⟩ := b12
  go_enter Tryd.func10, Tryd.ntmps10
  go_upto_region 4 with fail
  rw [HH.out]
  by_cases c1 : s.size < n
  · have e1 : Hid (er = 3) := by show _ = _; rw [HE1.out, if_pos c1]
    have r1 : Hid (R = zeroS) := RZ.out (by rw [e1.out]; omega)
    have o1 : Hid (O = []) := OZ.out (by rw [e1.out]; omega)
    have c1' : (s.size : Int) < n := by omega
    clear HE1 HR HO RZ OZ HD HS C0 CU CR BW BL HH
    go_wp2_with (refine blk_store _ rfl 25 _ _ rfl _ (zeroS.cells (.slice none 0 0)) rfl rfl _ _ k 9 sg_info rfl rfl (sg_one _ _ _ _) ?_; intro W2 k2 p2)
    exact blk_ret2 rfl rfl _ _ _ rfl k2 _ Tryd.underlying25 rfl 9 sg_info rfl ⟨_, ret_sg r1.out.symm e1.out.symm, by rw [o1.out]; exact Own.nil _ _ _, p2.below bel (Nat.le_refl _)⟩
  have c1' : ¬ (s.size : Int) < n := by omega
  by_cases c2 : n < 20
  · have e1 : Hid (er = 4) := by show _ = _; rw [HE1.out, if_neg c1, if_pos (Or.inl c2)]
    have r1 : Hid (R = zeroS) := RZ.out (by rw [e1.out]; omega)
    have o1 : Hid (O = []) := OZ.out (by rw [e1.out]; omega)
    have c2' : (n : Int) < 20 := by omega
    clear HE1 HR HO RZ OZ HD HS C0 CU CR BW BL HH
    go_wp2_with (refine blk_store _ rfl 25 _ _ rfl _ (zeroS.cells (.slice none 0 0)) rfl rfl _ _ k 9 sg_info rfl rfl (sg_one _ _ _ _) ?_; intro W2 k2 p2)
    exact blk_ret2 rfl rfl _ _ _ rfl k2 _ Tryd.underlying25 rfl 9 sg_info rfl ⟨_, ret_sg r1.out.symm e1.out.symm, by rw [o1.out]; exact Own.nil _ _ _, p2.below bel (Nat.le_refl _)⟩
  have c2' : ¬ (n : Int) < 20 := by omega
  by_cases c3 : c % 16 = 0
  case neg =>
    have e1 : Hid (er = 4) := by show _ = _; rw [HE1.out, if_neg c1, if_pos (Or.inr c3)]
    have r1 : Hid (R = zeroS) := RZ.out (by rw [e1.out]; omega)
    have o1 : Hid (O = []) := OZ.out (by rw [e1.out]; omega)
    have c3' : (c % 16 != 0) = true := by simpa using c3
    clear HE1 HR HO RZ OZ HD HS C0 CU CR BW BL HH c3
    go_wp2_with (refine blk_store _ rfl 25 _ _ rfl _ (zeroS.cells (.slice none 0 0)) rfl rfl _ _ k 9 sg_info rfl rfl (sg_one _ _ _ _) ?_; intro W2 k2 p2)
    exact blk_ret2 rfl rfl _ _ _ rfl k2 _ Tryd.underlying25 rfl 9 sg_info rfl ⟨_, ret_sg r1.out.symm e1.out.symm, by rw [o1.out]; exact Own.nil _ _ _, p2.below bel (Nat.le_refl _)⟩
  have c3' : (c % 16 != 0) = false := by simpa using c3
  have HE2 : Hid (er = if 65455 < s.size - n then 2
    else if rdo (s.extract 20 n).data.toList = none then 4 else if sm ≠ 65535 then 5 else 0) := by show _ = _; rw [HE1.out, if_neg c1, if_neg (by omega)]
  clear HE1 c3
  by_cases c4 : 65455 < s.size - n
  · have e1 : Hid (er = 2) := by show _ = _; rw [HE2.out, if_pos c4]
    have r1 : Hid (R = zeroS) := RZ.out (by rw [e1.out]; omega)
    have o1 : Hid (O = []) := OZ.out (by rw [e1.out]; omega)
    have c4' : (65455 : Int) < (s.size : Int) - n := by omega
    clear HE2 HR HO RZ OZ HD HS C0 CU CR BW BL HH
    go_wp2_with (refine blk_store _ rfl 25 _ _ rfl _ (zeroS.cells (.slice none 0 0)) rfl rfl _ _ k 9 sg_info rfl rfl (sg_one _ _ _ _) ?_; intro W2 k2 p2)
    exact blk_ret2 rfl rfl _ _ _ rfl k2 _ Tryd.underlying25 rfl 9 sg_info rfl ⟨_, ret_sg r1.out.symm e1.out.symm, by rw [o1.out]; exact Own.nil _ _ _, p2.below bel (Nat.le_refl _)⟩
  have c4' : ¬ (65455 : Int) < (s.size : Int) - n := by omega
  have sm20 : ∀ u, (Instr.slice 9 (.string s) (some (.int .i64 20)) (some (.int .i64 (n : Int))) none).run Tryd.prog u = .ok (.string (s.extract 20 n)) u := fun u => by
    have := run_slice_string u 9 s .i64 .i64 20 (n : Int) Tryd.underlying9 (by omega) (by omega) (by omega)
    simpa using this
  have sd : ∀ u, (Instr.slice 9 (.string s) (some (.int .i64 (n : Int))) none none).run Tryd.prog u = .ok (.string (s.extract n s.size)) u := fun u => by
    have := run_slice_string_l u 9 s Tryd.underlying9 .i64 (n : Int) (by omega) (by omega)
    simpa using this
  have HE3 : Hid (er = if rdo (s.extract 20 n).data.toList = none then 4 else if sm ≠ 65535 then 5 else 0) := by show _ = _; rw [HE2.out, if_neg c4]
  clear HE2
  generalize s.extract n s.size = D at *
  generalize rdo (s.extract 20 n).data.toList = r at *
  generalize s.extract 20 n = X at *
  go_wp2_with fail
  refine (C0 _).mono ?_
  rintro e w1 ⟨⟨v1, b1, rfl, hb1, ho1⟩, l1⟩
  have k1 := k.below l1 k.lt
  have bel1 := bel.trans (l1.mono bel.size)
  clear k bel l1 C0
  cases r with
  | none =>
    have hb2 : b1 = false := hb1
    subst hb2
    have e1 : Hid (er = 4) := by show _ = _; rw [HE3.out, if_pos rfl]
    have r1 : Hid (R = zeroS) := RZ.out (by rw [e1.out]; omega)
    have o1 : Hid (O = []) := OZ.out (by rw [e1.out]; omega)
    clear HE3 HR HO RZ OZ HD HS CU CR BW BL HH hb1 ho1
    go_wp2_with (refine blk_store _ rfl 25 _ _ rfl _ (zeroS.cells (.slice none 0 0)) rfl rfl _ _ k1 9 sg_info rfl rfl (sg_one _ _ _ _) ?_; intro W2 k2 p2)
    exact blk_ret2 rfl rfl _ _ _ rfl k2 _ Tryd.underlying25 rfl 9 sg_info rfl ⟨_, ret_sg r1.out.symm e1.out.symm, by rw [o1.out]; exact Own.nil _ _ _, p2.below bel1 (Nat.le_refl _)⟩
  | some os =>
    have hb2 : b1 = true := hb1
    subst hb2
    have own1 := ho1 os rfl
    have HE4 : Hid (er = if sm ≠ 65535 then 5 else 0) := by show _ = _; rw [HE3.out, if_neg (by simp)]
    clear HE3 hb1 ho1
    obtain ⟨sa, sc, rfl⟩ := (Own.rd own1).form
    go_wp2_with fail
    refine (CU _).mono ?_
    rintro e w5 ⟨rfl, hb⟩
    have k5 := k1.below hb k1.lt
    have bel5 := bel1.trans (hb.mono bel1.size)
    have own5 := own1.kept hb
    clear k1 bel1 own1 hb CU
    go_wp2_with fail
    refine (CR _).mono ?_
    rintro e w6 ⟨rfl, q⟩
    have k6 := qd_blk q k5
    have bel6 := bel5.trans (qd_below q)
    have own6 := own5.kept (qd_below q)
    clear k5 bel5 own5 q CR
    by_cases smz : sm = 65535
    case neg =>
      have e1 : Hid (er = 5) := by show _ = _; rw [HE4.out, if_pos smz]
      have r1 : Hid (R = zeroS) := RZ.out (by rw [e1.out]; omega)
      have o1 : Hid (O = []) := OZ.out (by rw [e1.out]; omega)
      have sb : (sm == 65535) = false := by simpa using smz
      rw [sb]
      clear HE4 HR HO RZ OZ HD HS BW BL HH smz sb own6
      go_wp2_with (refine blk_store _ rfl 25 _ _ rfl _ (zeroS.cells (.slice none 0 0)) rfl rfl _ _ k6 9 sg_info rfl rfl (sg_one _ _ _ _) ?_; intro W2 k2 p2)
      exact blk_ret2 rfl rfl _ _ _ rfl k2 _ Tryd.underlying25 rfl 9 sg_info rfl ⟨_, ret_sg r1.out.symm e1.out.symm, by rw [o1.out]; exact Own.nil _ _ _, p2.below bel6 (Nat.le_refl _)⟩
    subst smz
    have e1 : Hid (er = 0) := by show _ = _; rw [HE4.out, if_neg (by simp)]
    have r1 : Hid (R = ⟨wd s 0, wd s 2, 65536 * wd s 4 + wd s 6, 65536 * wd s 8 + wd s 10, bt s 13, wd s 14, wd s 18, D⟩) := by show _ = _; rw [HR.out, if_pos e1.out, HD.out]
    have o1 : Hid (O = os) := by show _ = _; rw [HO.out, if_pos e1.out, HS.out]; rfl
    clear HE4 HR HO RZ OZ HD HS HH
    rw [show ((65535 : Int) == 65535) = true from rfl]
    have w0 := wd_bd s 0
    have w2 := wd_bd s 2
    have w14 := wd_bd s 14
    have w18 := wd_bd s 18
    have w13 := bt_bd s 13
    go_upto_region 15 with fail
    have ne := ab.ne w6
    refine lst.wp_region_last2 (ab.Ab w6) (by kernel_rfl) (by simp only [List.dropLast]; exact rfl) (by simp only [List.getLast?_cons_cons, List.getLast?_singleton]; exact rfl) (by simp only [List.dropLast]; exact rfl) (by simp only [List.getLast?_cons_cons, List.getLast?_singleton]; exact rfl) rfl (by kernel_rfl) (by kernel_rfl) (by kernel_rfl) (ab.Ab.drew _) ?_
    repeat (go_big_quiet_step (first
      | (go_at_call 36; exact ab.call (BW _ _ (by omega) (by omega)))
      | (go_at_call 37; exact ab.call (BL _ _ (by omega) (by omega)))))
    refine wpQuiet_nil ?_
    intro _ hx
    obtain ⟨x, rfl⟩ := hx
    obtain ⟨W, Kx⟩ := x
    have kx : Blk W w.heap.size (zeroS.cells (.slice none 0 0)) 25 := k6.below Kx k6.lt
    have bx : Below w.heap.size w W := bel6.trans (Kx.mono bel6.size)
    have ox := own6.kept Kx
    clear ne BW BL sd sm20 own6 k6 bel6
    refine blk_store W rfl 25 _ _ rfl _ (Sh.cells ⟨wd s 0, wd s 2, 65536 * wd s 4 + wd s 6, 65536 * wd s 8 + wd s 10, bt s 13, wd s 14, wd s 18, D⟩ (.slice sa os.length sc)) rfl ?e1 _ _ kx 9 sg_info rfl rfl (sg_one _ _ _ _) ?_
    case e1 =>
      simp [Act.eval]
      try exact ⟨w64 _ w0.1 (by omega), w64 _ w2.1 (by omega), w64 _ w13.1 (by omega), w64 _ w14.1 (by omega), w64 _ w18.1 (by omega)⟩
    intro W2 k2 p2
    go_wp2_with fail
    exact blk_ret2 rfl rfl _ _ _ rfl k2 _ Tryd.underlying25 rfl 9 sg_info rfl ⟨_, ret_sg r1.out.symm e1.out.symm, by rw [o1.out]; exact (ox.but p2 (fun e => by have := (World.ownsRow.lt ox _ e).1; simp at this; omega)).mono (by simp), p2.below bx (Nat.le_refl _)⟩
end Go.Proofs.YtpcknkpddinccaaDoor.tcr3
