/- What ip.Read answers, and that it changes nothing that was there. -/
import Derived.Test.YtedbjhpajpakpaaDoorIpRead
namespace Go.Proofs.YtedbjhpajpakpaaDoor.ipr
open Go.ChangeShapes Go.WideShapes Go.ChangeAt Go.RowKit Go.BigFrame
open Go.Proofs.YtedbjhpajpakpaaDoor Go.Proofs.YtedbjhpajpakpaaDoor.EM Go.Proofs.YtedbjhpajpakpaaDoor.ethb Go.Proofs.YtedbjhpajpakpaaDoor.SM Go.Proofs.YtedbjhpajpakpaaDoor.ipb Go.Proofs.YtedbjhpajpakpaaDoor.buf Go.Proofs.YtedbjhpajpakpaaDoor.boxes Go.Proofs.YtedbjhpajpakpaaDoor.ipi Go.Proofs.YtedbjhpajpakpaaDoor.ipw
open Go.Proofs.YtedbjhpajpakpaaDoor.sumw (Qd)
open Go.Proofs.YtedbjhpajpakpaaDoor.ipm (bytes_ext ext_list)

theorem wordAt_two (s : ByteArray) (k : Int) (w : World) (n : Int) (hs : s.size ≤ 281474976710656) (h0 : 0 ≤ k) (h : k + 1 < s.size) (hn : wd s k.toNat = n) :
    Calls Tryd.prog 18 #[.string s, .int .i64 k] w fun e w' => e = .returned (.int .u16 n) ∧ Qd w w' := by
  subst hn; exact wordAt_int s k w hs h0 h
set_option maxRecDepth 20000 in
set_option maxHeartbeats 2000000 in
theorem read_any (s : ByteArray) (w : World) (hs : s.size ≤ 281474976710656) :
    Calls Tryd.prog 14 #[.string s] w fun e w' => e = .returned (.tuple #[.agg (ird s).cells, .int .i64 (ire s)]) ∧ Below w.heap.size w w' := by
  by_cases h20 : s.size < 20
  · refine (read_short s w h20).mono ?_
    rintro e w' ⟨rfl, hb⟩
    have e1 : ire s = 3 := by unfold ire; rw [if_pos h20]
    exact ⟨ret_pk (by unfold ird; rw [if_neg (by omega)]) e1.symm, hb⟩
  have E0 : ire s = if s.size < hn s ∨ s.size < an s then 3 else if bt s 0 < 69 ∨ 79 < bt s 0 ∨ an s < hn s ∨ 32768 ≤ wd s 6 then 4
  else if (rdp s).err ≠ 0 then 4 else if wsum 0 (s.data.toList.take (hn s)) ≠ 65535 then 5 else 0 := by
    unfold ire; rw [if_neg h20]
  have z0 : ∀ e, ire s = e → e ≠ 0 → ird s = zeroP := fun e he hn => by unfold ird; rw [if_neg (by omega)]
  have z1 : ire s = 0 → ird s = rdp s := fun he => by unfold ird; rw [if_pos he]
  obtain ⟨er, her⟩ : ∃ er, er = ire s := ⟨_, rfl⟩
  obtain ⟨R, hR⟩ : ∃ R, R = ird s := ⟨_, rfl⟩
  rw [← her] at E0 z1 ⊢
  rw [← hR] at z1 ⊢
  have HE : Hid (er = _) := E0
  have HZ : Hid (∀ e, er = e → e ≠ 0 → R = zeroP) := by
    show ∀ e, er = e → e ≠ 0 → R = zeroP
    intro e he hn
    rw [hR]; exact z0 e (by rw [← her]; exact he) hn
  have H1 : Hid (er = 0 → R = rdp s) := z1
  clear E0 z0 z1 her hR
  have k := Blk.new w zeroP.cells 31
  have bel := (Below.refl w.heap.size w).alloc (Nat.le_refl _) (.cells zeroP.cells 31)
  have hall := wd_bd s 2
  have ha : (an s : Int) = wd s 2 := by unfold an; omega
  have b0 := bt_bd s 0
  have hix : ∀ u, (Instr.index 9 (.string s) (.int .i64 0)).run Tryd.prog u = .ok (.int .u8 (bt s 0)) u := index_at s 0 (by omega)
  obtain ⟨hd, Hd⟩ : ∃ hd, hd = hn s := ⟨_, rfl⟩
  obtain ⟨al, Al⟩ : ∃ al, al = an s := ⟨_, rfl⟩
  have chl := fun u => headLong_any s u (by omega)
  rw [← Hd] at chl HE
  rw [← Al] at HE ha
  have cw2 := fun u => wordAt_two s 2 u al hs (by omega) (by omega) ha.symm
  have al1 : (al : Int) ≤ 65535 := by omega
  clear ha hall
  have hf := wd_bd s 6
  have A15 := and_bit16 (wd s 6) 15 (by omega) 32768 (by decide) hf.1 hf.2
  have cpk : Hid (hd < s.size + 1 → al < s.size + 1 → 20 ≤ hd → ∀ u, Calls Tryd.prog 38 #[.string (s.extract 0 hd), .string (s.extract hd al)] u fun e w' => e = .returned (.agg (rdp s).cells) ∧ Below u.heap.size u w') := by
    show _ → _
    intro h1 h2 h3 u
    subst Hd Al
    have := packetOf_any (s.extract 0 (hn s)) (s.extract (hn s) (an s)) u (by rw [ByteArray.size_extract]; omega) (by rw [ByteArray.size_extract]; omega)
    rw [pof_rdp s h3 (by omega)] at this
    exact this
  have hdb : Hid (hd < s.size + 1 → 69 ≤ bt s 0 → bt s 0 ≤ 79 → 20 ≤ hd) := by
    show _ → _
    intro h1 h2 h3
    rw [Hd]; unfold hn; omega
  have hck : Hid (hd < s.size + 1 → al < s.size + 1 → hd < al + 1 → ∀ u, Calls Tryd.prog 32 #[.agg (rdp s).cells] u fun e w' => e = .returned (.int .i64 (rdp s).err) ∧ Below u.heap.size u w') := by
    show _ → _
    intro h1 h2 h3 u
    refine check_any (rdp s) u ?_
    simp only [rdp, ByteArray.size_extract]
    omega
  have hrt : Hid (hd < s.size + 1 → ∀ u, Calls Tryd.prog 15 #[.string (s.extract 0 hd)] u fun e w' => e = .returned (.bool (wsum 0 (s.data.toList.take hd) == 65535)) ∧ Qd u w') := by
    show _ → _
    intro h1 u
    have := sumw.right_any (s.extract 0 hd) u (by rw [ByteArray.size_extract]; omega)
    rw [ext_list, List.drop_zero] at this
    exact this
  clear Hd Al
  go_enter Tryd.func14, Tryd.ntmps14
  go_wp2_with fail
  refine (chl _).mono ?_
  rintro e w1 ⟨rfl, rfl⟩
  go_wp2_with fail
  refine (cw2 _).mono ?_
  rintro e w1 ⟨rfl, q1⟩
  clear chl cw2
  have k1 := qd_blk q1 k
  have bel1 := bel.trans (qd_below q1)
  clear k bel q1
  by_cases c0 : s.size < hd
  · have e1 : Hid (er = 3) := by show _ = _; rw [HE.out, if_pos (Or.inl c0)]
    go_wp2_with (refine blk_store _ rfl 31 _ _ rfl _ zeroP.cells rfl rfl _ _ k1 11 pk_info rfl rfl (pk_one _) ?_; intro W2 k2 p2)
    exact blk_ret2 rfl rfl _ _ _ rfl k2 _ Tryd.underlying31 rfl 11 pk_info rfl ⟨ret_pk (HZ.out 3 e1.out (by omega)).symm e1.out.symm, p2.below bel1 (Nat.le_refl _)⟩
  by_cases c1 : s.size < al
  · have e1 : Hid (er = 3) := by show _ = _; rw [HE.out, if_pos (Or.inr c1)]
    go_wp2_with (refine blk_store _ rfl 31 _ _ rfl _ zeroP.cells rfl rfl _ _ k1 11 pk_info rfl rfl (pk_one _) ?_; intro W2 k2 p2)
    exact blk_ret2 rfl rfl _ _ _ rfl k2 _ Tryd.underlying31 rfl 11 pk_info rfl ⟨ret_pk (HZ.out 3 e1.out (by omega)).symm e1.out.symm, p2.below bel1 (Nat.le_refl _)⟩
  by_cases d0 : bt s 0 < 69
  · have e1 : Hid (er = 4) := by show _ = _; rw [HE.out, if_neg (by omega), if_pos (by omega)]
    go_wp2_with (refine blk_store _ rfl 31 _ _ rfl _ zeroP.cells rfl rfl _ _ k1 11 pk_info rfl rfl (pk_one _) ?_; intro W2 k2 p2)
    exact blk_ret2 rfl rfl _ _ _ rfl k2 _ Tryd.underlying31 rfl 11 pk_info rfl ⟨ret_pk (HZ.out 4 e1.out (by omega)).symm e1.out.symm, p2.below bel1 (Nat.le_refl _)⟩
  by_cases d1 : 79 < bt s 0
  · have e1 : Hid (er = 4) := by show _ = _; rw [HE.out, if_neg (by omega), if_pos (by omega)]
    go_wp2_with (refine blk_store _ rfl 31 _ _ rfl _ zeroP.cells rfl rfl _ _ k1 11 pk_info rfl rfl (pk_one _) ?_; intro W2 k2 p2)
    exact blk_ret2 rfl rfl _ _ _ rfl k2 _ Tryd.underlying31 rfl 11 pk_info rfl ⟨ret_pk (HZ.out 4 e1.out (by omega)).symm e1.out.symm, p2.below bel1 (Nat.le_refl _)⟩
  by_cases d2 : al < hd
  · have e1 : Hid (er = 4) := by show _ = _; rw [HE.out, if_neg (by omega), if_pos (by omega)]
    go_wp2_with (refine blk_store _ rfl 31 _ _ rfl _ zeroP.cells rfl rfl _ _ k1 11 pk_info rfl rfl (pk_one _) ?_; intro W2 k2 p2)
    exact blk_ret2 rfl rfl _ _ _ rfl k2 _ Tryd.underlying31 rfl 11 pk_info rfl ⟨ret_pk (HZ.out 4 e1.out (by omega)).symm e1.out.symm, p2.below bel1 (Nat.le_refl _)⟩
  go_wp2_with fail
  refine (wordAt_any s 6 _ hs (by omega)).mono ?_
  rintro e w2 ⟨rfl, q2⟩
  have k2 := qd_blk q2 k1
  have bel2 := bel1.trans (qd_below q2)
  clear k1 bel1 q2
  by_cases d3 : 32768 ≤ wd s 6
  · have e1 : Hid (er = 4) := by show _ = _; rw [HE.out, if_neg (by omega), if_pos (by omega)]
    have B15 : (bits .and .u16 (wd s 6) 32768 != 0) = true := by rw [A15, show wd s 6 / 32768 % 2 = 1 by omega]; rfl
    clear A15
    go_wp2_with (refine blk_store _ rfl 31 _ _ rfl _ zeroP.cells rfl rfl _ _ k2 11 pk_info rfl rfl (pk_one _) ?_; intro W2 k3 p2)
    exact blk_ret2 rfl rfl _ _ _ rfl k3 _ Tryd.underlying31 rfl 11 pk_info rfl ⟨ret_pk (HZ.out 4 e1.out (by omega)).symm e1.out.symm, p2.below bel2 (Nat.le_refl _)⟩
  have B15 : bits .and .u16 (wd s 6) 32768 = 0 := by rw [A15, show wd s 6 / 32768 % 2 = 0 by omega]; rfl
  clear A15
  have G1 : Hid (er = if (rdp s).err ≠ 0 then 4 else if wsum 0 (s.data.toList.take hd) ≠ 65535 then 5 else 0) := by
    show _ = _; rw [HE.out, if_neg (by omega), if_neg (by omega)]
  clear HE
  have h20' := hdb.out (by omega) (by omega) (by omega)
  clear hdb
  have cpk := cpk.out (by omega) (by omega) h20'
  have hck := hck.out (by omega) (by omega) (by omega)
  have hrt := hrt.out (by omega)
  obtain ⟨P, hP⟩ : ∃ P, P = rdp s := ⟨_, rfl⟩
  rw [← hP] at cpk hck G1 H1
  clear hP
  have hd' : (hd : Int) ≤ s.size := by omega
  have al' : (al : Int) ≤ s.size := by omega
  have ha' : (hd : Int) ≤ al := by omega
  clear d3 hf hix
  have hd0 : (0 : Int) ≤ hd := by omega
  have s1 : ∀ u, (Instr.slice 9 (.string s) none (some (.int .i64 hd)) none).run Tryd.prog u = .ok (.string (s.extract 0 hd)) u := fun u => by
    have := run_slice_string_h u 9 s Tryd.underlying9 .i64 hd (by omega) hd'
    simpa using this
  have s2 : ∀ u, (Instr.slice 9 (.string s) (some (.int .i64 hd)) (some (.int .i64 al)) none).run Tryd.prog u = .ok (.string (s.extract hd al)) u := fun u => by
    have := run_slice_string (P := Tryd.prog) u 9 s .i64 .i64 hd al Tryd.underlying9 (by omega) ha' al'
    simpa using this
  go_upto_region 8 with fail
  have K : KP w zeroP w2 := ⟨k2, bel2⟩
  have ne : Nonempty (spc.In (KP w zeroP)) := ⟨⟨_, K⟩⟩
  refine' lst.wp_region_told_last [(7, .agg P.cells), (8, undef)] [(8, 6)] (fun k v W => k = 8 → ∃ b, v = .pointer (some ⟨b, 0, none⟩) ∧ Blk W b zeroP.cells 31 ∧ w.heap.size < b) (KP w zeroP) (fun W W' => Below W.heap.size W W') (by kernel_rfl)
    (by simp only [List.dropLast]; exact rfl) (by simp only [List.getLast?_cons_cons, List.getLast?_singleton]; exact rfl) (by kernel_rfl) (by kernel_rfl) (KP.drew K) (fun k v W W' hb h hk => ?_) (by simp only [spc.rep, List.lookup, Nat.zero_add, Nat.reduceAdd, Nat.reduceBEq]; exact rfl) ?_
  · obtain ⟨b, e, B, l⟩ := h hk
    exact ⟨b, e, B.below hb B.lt, l⟩
  repeat (go_big_quiet_step (fail))
  refine wpQuiet_nil ⟨?_, ?_⟩
  · simp only [List.forall_mem_cons, List.not_mem_nil, false_imp_iff, implies_true, and_true]
    refine ⟨?_, ?_⟩
    · rintro _ ⟨⟩ x w3 hC - -
      simp [spc.yieldsTo, spc.jn, go_sem]
      exact (cpk _).mono fun e w4 ⟨he, hb⟩ => ⟨_, he, KP.call hC hb, hb, rfl⟩
    · rintro _ ⟨⟩ x w3 hC - -
      simp [spc.yieldsTo, go_sem]
      exact ⟨KP.call hC ((Below.refl _ _).alloc (Nat.le_refl _) _), (Below.refl _ _).alloc (Nat.le_refl _) _, Blk.new _ _ _, hC.m.lt⟩
  intro x W hC hS
  obtain ⟨b, e, B, l⟩ := hS (8, 6) (by simp) rfl
  simp only at e
  simp only [spc.jn, e]
  refine blk_store W rfl 31 _ _ rfl _ P.cells rfl rfl _ _ B 11 pk_info rfl rfl (pk_one _) ?_
  intro W3 B3 p3
  have k3 : Blk W3 w.heap.size zeroP.cells 31 := p3.blk hC.m (by omega)
  have bel3 := p3.below hC.bel (by omega)
  clear B hC K ne k2 bel2 hS p3
  go_wp2_with (refine blk_load _ rfl 31 _ rfl _ rfl _ _ B3 _ Tryd.underlying31 rfl 11 pk_info rfl ?_)
  refine (hck _).mono ?_
  rintro e' w4 ⟨rfl, hb4⟩
  have k4 := k3.below hb4 k3.lt
  have B4 := B3.below hb4 B3.lt
  have bel4 := bel3.trans (hb4.mono bel3.size)
  clear k3 B3 bel3 hb4
  by_cases ne0 : P.err = 0
  case neg =>
    have e1 : Hid (er = 4) := by show _ = _; rw [G1.out, if_pos ne0]
    have n' : (P.err != 0) = true := by simpa using ne0
    clear G1
    obtain ⟨pe, hpe⟩ : ∃ pe, pe = P.err := ⟨_, rfl⟩
    rw [← hpe] at n' ⊢
    clear ne0 hpe
    go_wp2_with (refine blk_store _ rfl 31 _ _ rfl _ zeroP.cells rfl rfl _ _ k4 11 pk_info rfl rfl (pk_one _) ?_; intro W2 k5 p2)
    exact blk_ret2 rfl rfl _ _ _ rfl k5 _ Tryd.underlying31 rfl 11 pk_info rfl ⟨ret_pk (HZ.out 4 e1.out (by omega)).symm e1.out.symm, p2.below bel4 (Nat.le_refl _)⟩
  rw [ne0]
  have G2 : Hid (er = if wsum 0 (s.data.toList.take hd) ≠ 65535 then 5 else 0) := by show _ = _; rw [G1.out, if_neg (by simpa using ne0)]
  clear G1 ne0
  go_wp2_with fail
  refine (hrt _).mono ?_
  rintro e' w5 ⟨rfl, q5⟩
  have k5 := qd_blk q5 k4
  have B5 := qd_blk q5 B4
  have bel5 := bel4.trans (qd_below q5)
  clear k4 B4 bel4 q5 hrt
  obtain ⟨sm, hsm⟩ : ∃ sm, sm = wsum 0 (s.data.toList.take hd) := ⟨_, rfl⟩
  rw [← hsm] at G2 ⊢
  clear hsm
  by_cases n5 : sm = 65535
  · subst n5
    have e1 : Hid (er = 0) := by show _ = _; rw [G2.out]; rfl
    go_wp2_with (first | (refine blk_load _ rfl 31 _ rfl _ rfl _ _ B5 _ Tryd.underlying31 rfl 11 pk_info rfl ?_) | (refine blk_store _ rfl 31 _ _ rfl _ P.cells rfl rfl _ _ k5 11 pk_info rfl rfl (pk_one _) ?_; intro W2 k6 p2))
    exact blk_ret2 rfl rfl _ _ _ rfl k6 _ Tryd.underlying31 rfl 11 pk_info rfl ⟨ret_pk (H1.out e1.out).symm e1.out.symm, p2.below bel5 (Nat.le_refl _)⟩
  · have e1 : Hid (er = 5) := by show _ = _; rw [G2.out, if_pos n5]
    have n' : (sm == 65535) = false := by simpa using n5
    rw [n']
    clear n5 n'
    go_wp2_with (refine blk_store _ rfl 31 _ _ rfl _ zeroP.cells rfl rfl _ _ k5 11 pk_info rfl rfl (pk_one _) ?_; intro W2 k6 p2)
    exact blk_ret2 rfl rfl _ _ _ rfl k6 _ Tryd.underlying31 rfl 11 pk_info rfl ⟨ret_pk (HZ.out 5 e1.out (by omega)).symm e1.out.symm, p2.below bel5 (Nat.le_refl _)⟩
end Go.Proofs.YtedbjhpajpakpaaDoor.ipr
