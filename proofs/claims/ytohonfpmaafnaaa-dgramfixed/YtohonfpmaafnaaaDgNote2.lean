/- What dgram.ReadNote answers, and that it changes nothing that was there. -/
import Derived.Test.YtohonfpmaafnaaaDgNote
namespace Go.Proofs.Ytohonfpmaafnaaa.dgn
open Go.ChangeShapes Go.WideShapes Go.ChangeAt Go.RowKit Go.BigFrame
open Go.Proofs.Ytohonfpmaafnaaa Go.Proofs.Ytohonfpmaafnaaa.EM Go.Proofs.Ytohonfpmaafnaaa.ethb Go.Proofs.Ytohonfpmaafnaaa.SM Go.Proofs.Ytohonfpmaafnaaa.ipb Go.Proofs.Ytohonfpmaafnaaa.buf Go.Proofs.Ytohonfpmaafnaaa.boxes Go.Proofs.Ytohonfpmaafnaaa.wds Go.Proofs.Ytohonfpmaafnaaa.dgb Go.Proofs.Ytohonfpmaafnaaa.dgi
open Go.Proofs.Ytohonfpmaafnaaa.sumw (Qd)
open Go.Proofs.Ytohonfpmaafnaaa.dgr (w64)
open Go.Proofs.Ytohonfpmaafnaaa.ipm (bytes_ext ext_list)

/-- copy inside a region that draws its order -/
theorem step_copy {ops : Array Oper} {o : Oper} {a : Act} {w : World} {K : Act → World → Prop} {Q : Exit → Act → World → Prop} {E : Prop}
    (hg : o.guard = none) (d x : Operand) (dT sT : TypeId) (hop : o.op = Op.call { callee := Callee.builtin Builtin.copy, args := #[d, x], argTypes := #[dT, sT] })
    (v u : Value) (hd : a.eval d = v) (hx : a.eval x = u) {v' : Value} {w' : World} (hr : (Builtin.copy_ #[dT, sT] o.type #[v, u]).run Try.prog w = .ok v' w') (hK : K (a.put o.dst v') w') :
    if Region.wanted o (yielded ops a.tmps) = true then Oper.wp Try.prog o a w K Q else E := by
  have hw : Region.wanted o (yielded ops a.tmps) = true := by simp [Region.wanted, hg]
  rw [if_pos hw]
  unfold Oper.wp
  simp [execOp, hop, resolve, invoke, builtin, hd, hx, hr, Result.andThen]
  exact hK
/-- four bytes -/
theorem four (s : ByteArray) (h : 8 ≤ s.size) : (s.extract 4 8).data.toList = [bb s 4, bb s 5, bb s 6, bb s 7] := by
  rw [ext_list]
  have hl : 8 ≤ s.data.toList.length := by simpa using h
  unfold bb
  generalize s.data.toList = l at hl
  match l, hl with
  | _ :: _ :: _ :: _ :: _ :: _ :: _ :: _ :: _, _ => simp
structure KN (w : World) (W : World) : Prop where
  m : Blk W w.heap.size zeroN.cells 34
  bel : Below w.heap.size w W
theorem KN.call {w W w' : World} (h : KN w W) (hb : Below W.heap.size W w') : KN w w' := ⟨h.m.below hb h.m.lt, h.bel.trans (hb.mono h.bel.size)⟩
theorem KN.drew {w W : World} (h : KN w W) : KN w W.drew := ⟨h.m, Below.drew h.bel⟩
set_option maxHeartbeats 2000000 in
theorem readNote_any (s : ByteArray) (w : World) (hs : s.size ≤ 281474976710656) :
    Calls Try.prog 16 #[.string s] w fun e w' => e = .returned (.tuple #[.agg (rn s).cells, .int .i64 (rne s)]) ∧ Below w.heap.size w w' := by
  have k := Blk.new w zeroN.cells 34
  have bel := (Below.refl w.heap.size w).alloc (Nat.le_refl _) (.cells zeroN.cells 34)
  have CR := fun u => sumw.right_any s u hs
  have HE : Hid (rne s = if s.size < 8 then 3 else if 65515 < s.size then 2 else if wsum 0 s.data.toList ≠ 65535 then 5 else 0) := (rfl : _ = _)
  have HR : Hid (rn s = if rne s = 0 then rdn s else zeroN) := (rfl : _ = _)
  obtain ⟨er, eer⟩ : ∃ er, er = rne s := ⟨_, rfl⟩
  obtain ⟨R, eR⟩ : ∃ R, R = rn s := ⟨_, rfl⟩
  rw [← eer] at HE HR ⊢
  rw [← eR] at HR ⊢
  clear eer eR
  by_cases c0 : s.size < 8
  · have e1 : Hid (er = 3) := by show _ = _; rw [HE.out, if_pos c0]
    have r1 : Hid (R = zeroN) := by show _ = _; rw [HR.out, if_neg (by rw [e1.out]; omega)]
    clear HE HR CR
    go_enter Try.func16, Try.ntmps16
    go_wp2_with (refine blk_store _ rfl 34 _ _ rfl _ zeroN.cells rfl rfl _ _ k 7 nt_info rfl rfl (nt_one _) ?_; intro W2 k2 p2)
    exact blk_ret2 rfl rfl _ _ _ rfl k2 _ Try.underlying34 rfl 7 nt_info rfl ⟨ret_nt r1.out.symm e1.out.symm, p2.below bel (Nat.le_refl _)⟩
  have c0' : decide ((s.size : Int) < 8) = false := by simp; omega
  by_cases c1 : 65515 < s.size
  · have e1 : Hid (er = 2) := by show _ = _; rw [HE.out, if_neg c0, if_pos c1]
    have r1 : Hid (R = zeroN) := by show _ = _; rw [HR.out, if_neg (by rw [e1.out]; omega)]
    clear HE HR CR
    go_enter Try.func16, Try.ntmps16
    go_wp2_with (refine blk_store _ rfl 34 _ _ rfl _ zeroN.cells rfl rfl _ _ k 7 nt_info rfl rfl (nt_one _) ?_; intro W2 k2 p2)
    exact blk_ret2 rfl rfl _ _ _ rfl k2 _ Try.underlying34 rfl 7 nt_info rfl ⟨ret_nt r1.out.symm e1.out.symm, p2.below bel (Nat.le_refl _)⟩
  have HE2 : Hid (er = if wsum 0 s.data.toList ≠ 65535 then 5 else 0) := by show _ = _; rw [HE.out, if_neg c0, if_neg c1]
  clear HE
  generalize wsum 0 s.data.toList = sm at HE2 CR
  by_cases smz : sm = 65535
  case neg =>
    have e1 : Hid (er = 5) := by show _ = _; rw [HE2.out, if_pos smz]
    have r1 : Hid (R = zeroN) := by show _ = _; rw [HR.out, if_neg (by rw [e1.out]; omega)]
    have sb : (sm == 65535) = false := by simpa using smz
    rw [sb] at CR
    clear HE2 HR smz sb
    go_enter Try.func16, Try.ntmps16
    go_wp2_with fail
    refine (CR _).mono ?_
    rintro e w6' ⟨rfl, q⟩
    have k6 := qd_blk q k
    have bel6 := bel.trans (qd_below q)
    clear k bel q CR
    go_wp2_with (refine blk_store _ rfl 34 _ _ rfl _ zeroN.cells rfl rfl _ _ k6 7 nt_info rfl rfl (nt_one _) ?_; intro W2 k2 p2)
    exact blk_ret2 rfl rfl _ _ _ rfl k2 _ Try.underlying34 rfl 7 nt_info rfl ⟨ret_nt r1.out.symm e1.out.symm, p2.below bel6 (Nat.le_refl _)⟩
  subst smz
  have e1 : Hid (er = 0) := by show _ = _; rw [HE2.out, if_neg (by simp)]
  have r1 : Hid (R = rdn s) := by show _ = _; rw [HR.out, if_pos e1.out]
  clear HE2 HR
  rw [show ((65535 : Int) == 65535) = true from rfl] at CR
  have x0 : ∀ u, (Instr.index 9 (.string s) (.int .i64 0)).run Try.prog u = .ok (.int .u8 (bt s 0)) u := index_at s 0 (by omega)
  have x1 : ∀ u, (Instr.index 9 (.string s) (.int .i64 1)).run Try.prog u = .ok (.int .u8 (bt s 1)) u := index_at s 1 (by omega)
  have sd : ∀ u, (Instr.slice 9 (.string s) (some (.int .i64 8)) none none).run Try.prog u = .ok (.string (s.extract 8 s.size)) u := fun u =>
    run_slice_string_l u 9 s Try.underlying9 .i64 8 (by omega) (by omega)
  have s4 : ∀ u, (Instr.slice 9 (.string s) (some (.int .i64 4)) (some (.int .i64 8)) none).run Try.prog u = .ok (.string (s.extract 4 8)) u := fun u => by
    have := run_slice_string (P := Try.prog) u 9 s .i64 .i64 4 8 Try.underlying9 (by omega) (by omega) (by omega)
    simpa using this
  have z4 : (s.extract 4 8).size = 4 := by rw [ByteArray.size_extract]; omega
  have f4 := four s (by omega)
  have b0 := bt_bd s 0
  have b1 := bt_bd s 1
  have HD : Hid (rdn s = ⟨bt s 0, bt s 1, bb s 4, bb s 5, bb s 6, bb s 7, s.extract 8 s.size⟩) := (rfl : _ = _)
  have z8 : (8 : Int) ≤ s.size := by omega
  generalize s.extract 4 8 = F at s4 z4 f4
  go_enter Try.func16, Try.ntmps16
  go_wp2_with fail
  refine (CR _).mono ?_
  rintro e w6 ⟨rfl, q⟩
  have K : KN w w6 := ⟨qd_blk q k, bel.trans (qd_below q)⟩
  clear k bel q CR
  go_upto_region 7 with fail
  have ne : Nonempty (spc.In (KN w)) := ⟨⟨_, K⟩⟩
  refine' lst.wp_region_told_last [(9, undef)] [(9, 4)] (fun k v W => k = 9 → ∃ b, v = .pointer (some ⟨b, 0, none⟩) ∧ Blk W b zeroN.cells 34 ∧ w.heap.size < b) (KN w) (fun W W' => Below W.heap.size W W') (by kernel_rfl)
    (by simp only [List.dropLast]; exact rfl) (by simp only [List.getLast?_cons_cons, List.getLast?_singleton]; exact rfl) (by kernel_rfl) (by kernel_rfl) (KN.drew K) (fun k v W W' hb h hk => ?_) (by simp only [spc.rep, List.lookup, Nat.zero_add, Nat.reduceAdd, Nat.reduceBEq]; exact rfl) ?_
  · obtain ⟨b, e, B, l⟩ := h hk
    exact ⟨b, e, B.below hb B.lt, l⟩
  repeat (go_big_quiet_step (fail))
  refine wpQuiet_nil ⟨?_, ?_⟩
  · simp only [List.forall_mem_cons, List.not_mem_nil, false_imp_iff, implies_true, and_true]
    rintro _ ⟨⟩ x w3 hC - -
    simp [spc.yieldsTo, go_sem]
    exact ⟨KN.call hC ((Below.refl _ _).alloc (Nat.le_refl _) _), (Below.refl _ _).alloc (Nat.le_refl _) _, Blk.new _ _ _, hC.m.lt⟩
  intro x W hC hS
  obtain ⟨b, e, B, l⟩ := hS (9, 4) (by simp) rfl
  simp only at e
  simp only [spc.jn, e]
  refine blk_store W rfl 34 _ _ rfl b (Nt.cells ⟨bt s 0, bt s 1, 0, 0, 0, 0, s.extract 8 s.size⟩) rfl ?e1 _ _ B 7 nt_info rfl rfl (nt_one _) ?_
  case e1 =>
    simp [Act.eval, Act.put]
    try exact ⟨w64 _ (by omega) (by omega), w64 _ (by omega) (by omega)⟩
  intro W3 B3 p3
  have k3 : Blk W3 w.heap.size zeroN.cells 34 := p3.blk hC.m (by omega)
  have bel3 := p3.below hC.bel (by omega)
  clear B hC K ne hS p3 x0 x1 sd
  simp only [Act.put, List.setIfInBounds_toArray, List.set_cons_succ, List.set_cons_zero]
  have hcp : ∀ ty, (Builtin.copy_ #[41, 9] ty #[.slice (some ⟨b, 2, none⟩) 4 4, .string F]).run Try.prog W3.drew = .ok (goInt (4 : Nat)) (W3.drew.setRow b (Nt.cells ⟨bt s 0, bt s 1, bb s 4, bb s 5, bb s 6, bb s 7, s.extract 8 s.size⟩)) := fun ty => by
    have := Lib.run_copy_row_string (P := Try.prog) W3.drew 41 9 ty 5 b 2 4 4 F _ 34 Try.underlying41 (by kernel_rfl) B3.drew (by omega) (by rw [z4]; simp)
    rw [z4, f4] at this
    rw [this]
    rfl
  have B4 : Blk (W3.drew.setRow b (Nt.cells ⟨bt s 0, bt s 1, bb s 4, bb s 5, bb s 6, bb s 7, s.extract 8 s.size⟩)) b (Nt.cells ⟨bt s 0, bt s 1, bb s 4, bb s 5, bb s 6, bb s 7, s.extract 8 s.size⟩) 34 := setRow_heap W3.drew b _ _ _ _ B3.drew
  have p4 := but_setRow W3.drew b (Nt.cells ⟨bt s 0, bt s 1, bb s 4, bb s 5, bb s 6, bb s 7, s.extract 8 s.size⟩)
  have k4 := p4.blk k3.drew (by omega)
  have bel4 := p4.below (Below.drew bel3) (by omega)
  clear p4 f4
  obtain ⟨W4, hW4⟩ : ∃ W4, W4 = W3.drew.setRow b (Nt.cells ⟨bt s 0, bt s 1, bb s 4, bb s 5, bb s 6, bb s 7, s.extract 8 s.size⟩) := ⟨_, rfl⟩
  rw [← hW4] at hcp B4 k4 bel4
  clear hW4
  rw [← HD.out] at B4
  go_upto_region 8 with fail
  go_region_law (refine step_copy rfl (.tmp 30) (.tmp 32) 41 9 rfl (.slice (some ⟨b, 2, none⟩) 4 4) (.string F) (by simp [Act.eval, Act.put]) (by simp [Act.eval, Act.put]) (hcp _) ?_)
  go_wp2_with (first | (refine blk_load _ rfl 34 _ rfl b rfl _ _ B4 _ Try.underlying34 rfl 7 nt_info rfl ?_) | (refine blk_store _ rfl 34 _ _ rfl _ (rdn s).cells rfl rfl _ _ k4 7 nt_info rfl rfl (nt_one _) ?_; intro W5 k5 p5))
  exact blk_ret2 rfl rfl _ _ _ rfl k5 _ Try.underlying34 rfl 7 nt_info rfl ⟨ret_nt r1.out.symm e1.out.symm, p5.below bel4 (Nat.le_refl _)⟩
end Go.Proofs.Ytohonfpmaafnaaa.dgn
