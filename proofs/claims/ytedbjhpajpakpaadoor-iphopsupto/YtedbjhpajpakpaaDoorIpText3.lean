/- What custref.TextPacket answers: the same as ip.Read. -/
import Derived.Test.YtedbjhpajpakpaaDoorIpText2
import Derived.Test.YtedbjhpajpakpaaDoorIpRead
namespace Go.Proofs.YtedbjhpajpakpaaDoor.ipt
open Go.ChangeShapes Go.WideShapes Go.ChangeAt Go.RowKit Go.BigFrame
open Go.Proofs.YtedbjhpajpakpaaDoor Go.Proofs.YtedbjhpajpakpaaDoor.EM Go.Proofs.YtedbjhpajpakpaaDoor.ethb Go.Proofs.YtedbjhpajpakpaaDoor.SM Go.Proofs.YtedbjhpajpakpaaDoor.ipb Go.Proofs.YtedbjhpajpakpaaDoor.buf Go.Proofs.YtedbjhpajpakpaaDoor.boxes Go.Proofs.YtedbjhpajpakpaaDoor.ipi Go.Proofs.YtedbjhpajpakpaaDoor.ipw Go.Proofs.YtedbjhpajpakpaaDoor.ipr
open Go.Proofs.YtedbjhpajpakpaaDoor.refb (between_any)
open Go.Proofs.YtedbjhpajpakpaaDoor.ipm (bytes_ext ext_list rdp_adr)

/-- two blocks stand while calls make others -/
structure KT (w : World) (W : World) : Prop where
  r : Blk W w.heap.size zeroP.cells 31
  n : Blk W (w.heap.size + 1) zeroP.cells 31
  bel : Below w.heap.size w W
theorem KT.call {w W w' : World} (h : KT w W) (hb : Below W.heap.size W w') : KT w w' := ⟨h.r.below hb h.r.lt, h.n.below hb h.n.lt, h.bel.trans (hb.mono h.bel.size)⟩
theorem KT.drew {w W : World} (h : KT w W) : KT w W.drew := ⟨h.r, h.n, Below.drew h.bel⟩
theorem KT.drewN {w W : World} (h : KT w W) (m : Nat) : KT w (W.drewN m) := ⟨h.r.drewN m, h.n.drewN m, bdrewN h.bel m⟩
theorem KT.new (w : World) : KT w ((w.alloc (.cells zeroP.cells 31)).alloc (.cells zeroP.cells 31)) :=
  ⟨(Blk.new _ _ _).alloc _, Blk.newAt _ _ _ (by simp), ((Below.refl _ _).alloc (Nat.le_refl _) _).alloc (by simp) _⟩
theorem same {f : FuncId} {args : Array Value} {C : World → Prop} {x : spc.In C} {v : Value} (h : Calls Tryd.prog f args x.W fun e w' => e = .returned v ∧ w' = x.W) : Calls Tryd.prog f args x.W fun e w' => e = .returned v ∧ ∃ i : spc.In C, w' = i.W :=
  h.mono fun _ _ ⟨he, hw⟩ => ⟨he, x, hw⟩
set_option maxRecDepth 20000 in
set_option maxHeartbeats 4000000 in
theorem text_any (s : ByteArray) (w : World) (hs : s.size ≤ 281474976710656) :
    Calls Tryd.prog 21 #[.string s] w fun e w' => e = .returned (.tuple #[.agg (ird s).cells, .int .i64 (ire s)]) ∧ Below w.heap.size w w' := by
  have E0 : s.size < 20 → ire s = 3 := fun h => by unfold ire; rw [if_pos h]
  have E1 : ¬ s.size < 20 → ire s = if s.size < hn s ∨ s.size < an s then 3 else if bt s 0 < 69 ∨ 79 < bt s 0 ∨ an s < hn s ∨ 32768 ≤ wd s 6 then 4
    else if (rdp s).err ≠ 0 then 4 else if wsum 0 (s.data.toList.take (hn s)) ≠ 65535 then 5 else 0 := fun h => by
    unfold ire; rw [if_neg h]
  have z0 : ∀ e, ire s = e → e ≠ 0 → ird s = zeroP := fun e he hn => by unfold ird; rw [if_neg (by omega)]
  have z1 : ire s = 0 → ird s = rdp s := fun he => by unfold ird; rw [if_pos he]
  obtain ⟨er, her⟩ : ∃ er, er = ire s := ⟨_, rfl⟩
  obtain ⟨R, hR⟩ : ∃ R, R = ird s := ⟨_, rfl⟩
  rw [← her] at E0 E1 z1 ⊢
  rw [← hR] at z1 ⊢
  have HE0 : Hid (_ → er = 3) := E0
  have HE : Hid (_ → er = _) := E1
  have HZ : Hid (∀ e, er = e → e ≠ 0 → R = zeroP) := by
    show ∀ e, er = e → e ≠ 0 → R = zeroP
    intro e he hn
    rw [hR]; exact z0 e (by rw [← her]; exact he) hn
  have H1 : Hid (er = 0 → R = rdp s) := z1
  clear E0 E1 z0 z1 her hR
  have K0 := KT.new w
  have k0 := K0.r
  have n0 := K0.n
  by_cases h20 : s.size < 20
  · have e1 : Hid (er = 3) := HE0.out h20
    go_enter Tryd.func21, Tryd.ntmps21
    go_wp2_with (first | (refine blk_load _ rfl 31 _ rfl _ rfl _ _ (by assumption) _ Tryd.underlying31 rfl 11 pk_info rfl ?_) | (refine blk_store _ rfl 31 _ _ rfl w.heap.size zeroP.cells rfl rfl _ _ (by assumption) 11 pk_info rfl rfl (pk_one _) ?_; intro W2 k6 p2))
    exact blk_ret2 rfl rfl _ _ _ rfl k6 _ Tryd.underlying31 rfl 11 pk_info rfl ⟨ret_pk (HZ.out 3 e1.out (by omega)).symm e1.out.symm, p2.below K0.bel (Nat.le_refl _)⟩
  have HF := HE.out h20
  have HE : Hid (er = _) := HF
  clear HE0 HF k0 n0
  have hall := wd_bd s 2
  have ha : (an s : Int) = wd s 2 := by unfold an; omega
  have b0 := bt_bd s 0
  have hix : ∀ u, (Instr.index 9 (.string s) (.int .i64 0)).run Tryd.prog u = .ok (.int .u8 (bt s 0)) u := index_at s 0 (by omega)
  have q16 : 4 * (bt s 0 % 16) = (hn s : Int) := by unfold hn; omega
  obtain ⟨hd, Hd⟩ : ∃ hd, hd = hn s := ⟨_, rfl⟩
  obtain ⟨al, Al⟩ : ∃ al, al = an s := ⟨_, rfl⟩
  rw [← Hd] at HE q16
  rw [← Al] at HE ha
  have cw2 : ∀ u, Calls Tryd.prog 22 #[.string s, .int .i64 2] u fun e w' => e = .returned (.int .i64 al) ∧ w' = u := fun u => by
    have := wordAt_ref s 2 u hs (by omega)
    rw [← ha] at this; exact this
  have al1 : (al : Int) ≤ 65535 := by omega
  have hd1 : (hd : Int) ≤ 60 := by omega
  have hd0 : (0 : Int) ≤ hd := by omega
  clear ha hall
  have hf := wd_bd s 6
  have hrd : Hid (hd < s.size + 1 → al < s.size + 1 → hd < al + 1 → 20 + (rdp s).o.size + (rdp s).d.size ≤ 9223372036854775807) := by
    show _ → _
    intro h1 h2 h3
    simp only [rdp, ByteArray.size_extract]
    omega
  have hdb : Hid (69 ≤ bt s 0 → bt s 0 ≤ 79 → 20 ≤ hd) := by
    show _ → _
    intro h2 h3
    rw [Hd]; unfold hn; omega
  have hsm : Hid (hd < s.size + 1 → ∀ u, Calls Tryd.prog 45 #[.int .i64 0, .string (s.extract 0 hd)] u fun e w' => e = .returned (.int .i64 (wsum 0 (s.data.toList.take hd))) ∧ w' = u) := by
    show _ → _
    intro h1 u
    have := sumr.sumOf_any 0 (s.extract 0 hd) u (by omega) (by omega) (by rw [ByteArray.size_extract]; omega)
    rw [ext_list, List.drop_zero] at this
    exact this
  have hRD : Hid ((rdp s) = ⟨bt s 1, wd s 4, decide (wd s 6 / 16384 % 2 = 1), decide (wd s 6 / 8192 % 2 = 1), wd s 6 % 8192, bt s 8, bt s 9, 65536 * wd s 12 + wd s 14, 65536 * wd s 16 + wd s 18, s.extract 20 hd, s.extract hd al⟩) := by
    show _ = _
    rw [Hd, Al]; rfl
  clear Hd Al
  obtain ⟨M, hM⟩ : ∃ M : Int, (if hd < al then (al : Int) else (hd : Int)) = M := ⟨_, rfl⟩
  have hM1 : Hid ((s.size < hd ∨ s.size < al → (s.size : Int) < M) ∧ (¬ (s.size < hd ∨ s.size < al) → ¬ (s.size : Int) < M)) := by
    show _ ∧ _
    rw [← hM]
    split <;> constructor <;> intro <;> omega
  go_enter Tryd.func21, Tryd.ntmps21
  go_upto_region 4 with fail
  go_quiet ((go_at_call 22; exact Calls.quiet_of_same (cw2 _)))
  by_cases c0 : s.size < hd ∨ s.size < al
  · have e1 : Hid (er = 3) := by show _ = _; rw [HE.out, if_pos c0]
    have hlt := hM1.out.1 c0
    go_wp2_with (first | (refine blk_load _ rfl 31 _ rfl (w.heap.size + 1) rfl _ _ (K0.drewN _).n _ Tryd.underlying31 rfl 11 pk_info rfl ?_) | (refine blk_store _ rfl 31 _ _ rfl w.heap.size zeroP.cells rfl rfl _ _ (K0.drewN _).r 11 pk_info rfl rfl (pk_one _) ?_; intro W2 k6 p2))
    exact blk_ret2 rfl rfl _ _ _ rfl k6 _ Tryd.underlying31 rfl 11 pk_info rfl ⟨ret_pk (HZ.out 3 e1.out (by omega)).symm e1.out.symm, p2.below (K0.drewN _).bel (Nat.le_refl _)⟩
  have hge := hM1.out.2 c0
  have c1 : ¬ s.size < hd := by omega
  have c2 : ¬ s.size < al := by omega
  clear hM1
  go_wp2_with fail
  refine (wordAt_ref s 6 _ hs (by omega)).mono ?_
  rintro e w1 ⟨rfl, rfl⟩
  go_wp2_with fail
  refine (between_any _ _ _ _).mono ?_
  rintro e w1 ⟨rfl, rfl⟩
  clear hM hge
  have K1 := K0.drewN nq
  clear K0
  by_cases d0 : 69 ≤ bt s 0 ∧ bt s 0 ≤ 79
  case neg =>
    have e1 : Hid (er = 4) := by show _ = _; rw [HE.out, if_neg (by omega), if_pos (by omega)]
    rw [decide_eq_false d0]
    go_wp2_with (first | (refine blk_load _ rfl 31 _ rfl (w.heap.size + 1) rfl _ _ (K1).n _ Tryd.underlying31 rfl 11 pk_info rfl ?_) | (refine blk_store _ rfl 31 _ _ rfl w.heap.size zeroP.cells rfl rfl _ _ (K1).r 11 pk_info rfl rfl (pk_one _) ?_; intro W2 k6 p2))
    exact blk_ret2 rfl rfl _ _ _ rfl k6 _ Tryd.underlying31 rfl 11 pk_info rfl ⟨ret_pk (HZ.out 4 e1.out (by omega)).symm e1.out.symm, p2.below (K1).bel (Nat.le_refl _)⟩
  rw [decide_eq_true d0]
  by_cases d2 : al < hd
  · have e1 : Hid (er = 4) := by show _ = _; rw [HE.out, if_neg (by omega), if_pos (by omega)]
    have d2' : decide ((al : Int) < hd) = true := by simp; omega
    go_wp2_with (first | (refine blk_load _ rfl 31 _ rfl (w.heap.size + 1) rfl _ _ (K1).n _ Tryd.underlying31 rfl 11 pk_info rfl ?_) | (refine blk_store _ rfl 31 _ _ rfl w.heap.size zeroP.cells rfl rfl _ _ (K1).r 11 pk_info rfl rfl (pk_one _) ?_; intro W2 k6 p2))
    exact blk_ret2 rfl rfl _ _ _ rfl k6 _ Tryd.underlying31 rfl 11 pk_info rfl ⟨ret_pk (HZ.out 4 e1.out (by omega)).symm e1.out.symm, p2.below (K1).bel (Nat.le_refl _)⟩
  have d2' : decide ((al : Int) < hd) = false := by simp; omega
  by_cases d3 : 32768 ≤ wd s 6
  · have e1 : Hid (er = 4) := by show _ = _; rw [HE.out, if_neg (by omega), if_pos (by omega)]
    go_wp2_with (first | (refine blk_load _ rfl 31 _ rfl (w.heap.size + 1) rfl _ _ (K1).n _ Tryd.underlying31 rfl 11 pk_info rfl ?_) | (refine blk_store _ rfl 31 _ _ rfl w.heap.size zeroP.cells rfl rfl _ _ (K1).r 11 pk_info rfl rfl (pk_one _) ?_; intro W2 k6 p2))
    exact blk_ret2 rfl rfl _ _ _ rfl k6 _ Tryd.underlying31 rfl 11 pk_info rfl ⟨ret_pk (HZ.out 4 e1.out (by omega)).symm e1.out.symm, p2.below (K1).bel (Nat.le_refl _)⟩
  have G1 : Hid (er = if (rdp s).err ≠ 0 then 4 else if wsum 0 (s.data.toList.take hd) ≠ 65535 then 5 else 0) := by
    show _ = _; rw [HE.out, if_neg (by omega), if_neg (by omega)]
  have h20' := hdb.out d0.1 d0.2
  have hrd := hrd.out (by omega) (by omega) (by omega)
  have hsm := hsm.out (by omega)
  have cpt := fun u => pt_any (rdp s) u hrd (rdp_adr s)
  clear HE hdb hrd
  obtain ⟨P, hP⟩ : ∃ P, P = rdp s := ⟨_, rfl⟩
  rw [← hP] at cpt G1 H1 hRD
  clear hP
  have hd' : (hd : Int) ≤ s.size := by omega
  have al' : (al : Int) ≤ s.size := by omega
  have ha' : (hd : Int) ≤ al := by omega
  have h20i : (20 : Int) ≤ hd := by omega
  have x1 : ∀ u, (Instr.index 9 (.string s) (.int .i64 1)).run Tryd.prog u = .ok (.int .u8 (bt s 1)) u := index_at s 1 (by omega)
  have x8 : ∀ u, (Instr.index 9 (.string s) (.int .i64 8)).run Tryd.prog u = .ok (.int .u8 (bt s 8)) u := index_at s 8 (by omega)
  have x9 : ∀ u, (Instr.index 9 (.string s) (.int .i64 9)).run Tryd.prog u = .ok (.int .u8 (bt s 9)) u := index_at s 9 (by omega)
  have s1 : ∀ u, (Instr.slice 9 (.string s) (some (.int .i64 20)) (some (.int .i64 hd)) none).run Tryd.prog u = .ok (.string (s.extract 20 hd)) u := fun u => by
    have := run_slice_string (P := Tryd.prog) u 9 s .i64 .i64 20 hd Tryd.underlying9 (by omega) h20i hd'
    simpa using this
  have s2 : ∀ u, (Instr.slice 9 (.string s) (some (.int .i64 hd)) (some (.int .i64 al)) none).run Tryd.prog u = .ok (.string (s.extract hd al)) u := fun u => by
    have := run_slice_string (P := Tryd.prog) u 9 s .i64 .i64 hd al Tryd.underlying9 (by omega) ha' al'
    simpa using this
  have s3 : ∀ u, (Instr.slice 9 (.string s) none (some (.int .i64 hd)) none).run Tryd.prog u = .ok (.string (s.extract 0 hd)) u := fun u => by
    have := run_slice_string_h u 9 s Tryd.underlying9 .i64 hd (by omega) hd'
    simpa using this
  have HF : Hid (0 ≤ wd s 6 ∧ wd s 6 < 32768) := ⟨hf.1, by omega⟩
  have d3' : decide (32768 ≤ wd s 6) = false := by simp; omega
  clear d3 hf
  go_upto_region 10 with fail
  have hf := HF.out
  have r1 := bt_bd s 1
  have r8 := bt_bd s 8
  have r9 := bt_bd s 9
  have t1 : (wd s 6).tmod 8192 = wd s 6 % 8192 := Int.tmod_eq_emod_of_nonneg hf.1
  have t2 : (wd s 6).tdiv 8192 = wd s 6 / 8192 := Int.tdiv_eq_ediv_of_nonneg hf.1
  have t3 : (wd s 6).tdiv 16384 = wd s 6 / 16384 := Int.tdiv_eq_ediv_of_nonneg hf.1
  have t4 : (wd s 6 / 8192).tmod 2 = wd s 6 / 8192 % 2 := Int.tmod_eq_emod_of_nonneg (by omega)
  have ne : Nonempty (spc.In (KT w)) := ⟨⟨_, K1⟩⟩
  refine' lst.wp_region_told_last [(4, .int .i64 (wd s 4)), (21, .int .u32 (65536 * wd s 12 + wd s 14)), (23, .int .u32 (65536 * wd s 16 + wd s 18)), (32, undef)] [(32, 8)] (fun k v W => k = 32 → ∃ b, v = .pointer (some ⟨b, 0, none⟩) ∧ Blk W b zeroP.cells 31 ∧ w.heap.size + 1 < b) (KT w) (fun W W' => Below W.heap.size W W') (by kernel_rfl)
    (by simp only [List.dropLast]; exact rfl) (by simp only [List.getLast?_cons_cons, List.getLast?_singleton]; exact rfl) (by kernel_rfl) (by kernel_rfl) (KT.drew K1) (fun k v W W' hb h hk => ?_) (by simp only [spc.rep, List.lookup, Nat.zero_add, Nat.reduceAdd, Nat.reduceBEq]; exact rfl) ?_
  · obtain ⟨b, e, B, l⟩ := h hk
    exact ⟨b, e, B.below hb B.lt, l⟩
  repeat (go_big_quiet_step (fail))
  refine wpQuiet_nil ⟨?_, ?_⟩
  · simp only [List.forall_mem_cons, List.not_mem_nil, false_imp_iff, implies_true, and_true]
    refine ⟨?_, ?_, ?_, ?_⟩
    · rintro _ ⟨⟩ x w3 hC - -
      exact told.call2 22 _ _ _ _ _ rfl (by intro args w; simp [go_sem]) rfl rfl ((wordAt_ref s 4 _ hs (by omega)).mono fun e w4 ⟨he, hw⟩ => ⟨_, he, hw ▸ hC, hw ▸ Below.refl _ _, rfl⟩)
    · rintro _ ⟨⟩ x w3 hC - -
      exact told.call2 43 _ _ _ _ _ rfl (by intro args w; simp [go_sem]) rfl rfl ((longAt_ref s 12 _ hs (by omega)).mono fun e w4 ⟨he, hw⟩ => ⟨_, he, hw ▸ hC, hw ▸ Below.refl _ _, rfl⟩)
    · rintro _ ⟨⟩ x w3 hC - -
      exact told.call2 43 _ _ _ _ _ rfl (by intro args w; simp [go_sem]) rfl rfl ((longAt_ref s 16 _ hs (by omega)).mono fun e w4 ⟨he, hw⟩ => ⟨_, he, hw ▸ hC, hw ▸ Below.refl _ _, rfl⟩)
    · rintro _ ⟨⟩ x w3 hC - -
      simp [spc.yieldsTo, go_sem]
      exact ⟨KT.call hC ((Below.refl _ _).alloc (Nat.le_refl _) _), (Below.refl _ _).alloc (Nat.le_refl _) _, Blk.new _ _ _, hC.n.lt⟩
  intro x W hC hS
  obtain ⟨b, e, B, l⟩ := hS (32, 8) (by simp) rfl
  simp only at e
  simp only [spc.jn, e]
  refine blk_store W rfl 31 _ _ rfl b P.cells rfl ?e1 _ _ B 11 pk_info rfl rfl (pk_one _) ?_
  case e1 =>
    have hRD := hRD.out
    rw [hRD]
    simp [Act.eval, Act.put]
    have hx : wd s 6 / 16384 = 0 ∨ wd s 6 / 16384 = 1 := by omega
    refine ⟨?_, ?_⟩
    · rcases hx with e | e <;> rw [e] <;> rfl
    · rcases Int.emod_two_eq (wd s 6 / 8192) with e | e <;> rw [e] <;> rfl
  intro W3 B3 p3
  have K3 : KT w W3 := ⟨p3.blk hC.r (by omega), p3.blk hC.n (by omega), p3.below hC.bel (by omega)⟩
  clear B hC K1 ne hS p3 x1 x8 x9 s1 s2 t1 t2 t3 t4 hf r1 r8 r9
  go_wp2_with (refine blk_load _ rfl 31 _ rfl b rfl _ _ B3 _ Tryd.underlying31 rfl 11 pk_info rfl ?_)
  refine (cpt _).mono ?_
  rintro e' w4 ⟨rfl, hb4⟩
  have K4 := K3.call hb4
  have B4 := B3.below hb4 B3.lt
  clear K3 B3 hb4
  by_cases ne0 : P.err = 0
  case neg =>
    have e1 : Hid (er = 4) := by show _ = _; rw [G1.out, if_pos ne0]
    have n' : (P.err != 0) = true := by simpa using ne0
    clear G1 cpt
    obtain ⟨pe, hpe⟩ : ∃ pe, pe = P.err := ⟨_, rfl⟩
    rw [← hpe] at n' ⊢
    clear ne0 hpe
    go_wp2_with (first | (refine blk_load _ rfl 31 _ rfl (w.heap.size + 1) rfl _ _ (K4).n _ Tryd.underlying31 rfl 11 pk_info rfl ?_) | (refine blk_store _ rfl 31 _ _ rfl w.heap.size zeroP.cells rfl rfl _ _ (K4).r 11 pk_info rfl rfl (pk_one _) ?_; intro W2 k6 p2))
    exact blk_ret2 rfl rfl _ _ _ rfl k6 _ Tryd.underlying31 rfl 11 pk_info rfl ⟨ret_pk (HZ.out 4 e1.out (by omega)).symm e1.out.symm, p2.below (K4).bel (Nat.le_refl _)⟩
  rw [ne0]
  have G2 : Hid (er = if wsum 0 (s.data.toList.take hd) ≠ 65535 then 5 else 0) := by show _ = _; rw [G1.out, if_neg (by simpa using ne0)]
  clear G1 ne0 cpt
  go_wp2_with fail
  refine (hsm _).mono ?_
  rintro e' w5 ⟨rfl, rfl⟩
  clear hsm
  obtain ⟨sm, hsm⟩ : ∃ sm, sm = wsum 0 (s.data.toList.take hd) := ⟨_, rfl⟩
  rw [← hsm] at G2 ⊢
  clear hsm
  by_cases n5 : sm = 65535
  · subst n5
    have e1 : Hid (er = 0) := by show _ = _; rw [G2.out]; rfl
    go_wp2_with (first | (refine blk_load _ rfl 31 _ rfl b rfl _ _ B4 _ Tryd.underlying31 rfl 11 pk_info rfl ?_) | (refine blk_store _ rfl 31 _ _ rfl w.heap.size P.cells rfl rfl _ _ K4.r 11 pk_info rfl rfl (pk_one _) ?_; intro W2 k6 p2))
    exact blk_ret2 rfl rfl _ _ _ rfl k6 _ Tryd.underlying31 rfl 11 pk_info rfl ⟨ret_pk (H1.out e1.out).symm e1.out.symm, p2.below K4.bel (Nat.le_refl _)⟩
  · have e1 : Hid (er = 5) := by show _ = _; rw [G2.out, if_pos n5]
    have n' : (sm != 65535) = true := by simpa using n5
    clear n5
    go_wp2_with (first | (refine blk_load _ rfl 31 _ rfl (w.heap.size + 1) rfl _ _ (K4).n _ Tryd.underlying31 rfl 11 pk_info rfl ?_) | (refine blk_store _ rfl 31 _ _ rfl w.heap.size zeroP.cells rfl rfl _ _ (K4).r 11 pk_info rfl rfl (pk_one _) ?_; intro W2 k6 p2))
    exact blk_ret2 rfl rfl _ _ _ rfl k6 _ Tryd.underlying31 rfl 11 pk_info rfl ⟨ret_pk (HZ.out 5 e1.out (by omega)).symm e1.out.symm, p2.below (K4).bel (Nat.le_refl _)⟩
end Go.Proofs.YtedbjhpajpakpaaDoor.ipt
