/- What custref's TablePut answers. -/
import Derived.Test.YtmnmjmbfnecmoaaTabRef3
import Derived.Test.YtmnmjmbfnecmoaaTabPut
namespace Go.Proofs.Ytmnmjmbfnecmoaa.rp
open Go.ChangeShapes Go.WideShapes Go.ChangeAt Go.RowKit Go.BigFrame
open Go.Proofs.Ytmnmjmbfnecmoaa Go.Proofs.Ytmnmjmbfnecmoaa.tm Go.Proofs.Ytmnmjmbfnecmoaa.tb Go.Proofs.Ytmnmjmbfnecmoaa.ti Go.Proofs.Ytmnmjmbfnecmoaa.tsh Go.Proofs.Ytmnmjmbfnecmoaa.tg Go.Proofs.Ytmnmjmbfnecmoaa.tp Go.Proofs.Ytmnmjmbfnecmoaa.rh Go.Proofs.Ytmnmjmbfnecmoaa.ra Go.Proofs.Ytmnmjmbfnecmoaa.boxes Go.Proofs.Ytmnmjmbfnecmoaa.rwr
open Go.Proofs.Ytmnmjmbfnecmoaa.rr (fc fc_step fc_zero fc_le)
open Go.Proofs.Ytmnmjmbfnecmoaa.rws (Knd Own)

set_option maxRecDepth 20000 in
set_option maxHeartbeats 4000000 in
theorem rput_any (v : Value) (l : List St) (k : Nat) (y : Int) (w : World) (h : Rd SK w v l) (hk : ∀ i, (ax l i).k < 18446744073709551616) (hkk : k < 18446744073709551616) : Calls Try.prog 17 #[.agg #[v], .int .u64 (k : Int), .int .i64 y] w fun e w' => ∃ v', e = .returned (.tuple #[.agg #[v'], .int .i64 (pe l k)]) ∧ Own SK w' w.heap.size v' (pl l k y) ∧ Below w.heap.size w w' := by
  have F0 := (Blk.new w #[v] 24).alloc (.cells Z1 24)
  have G0 := Blk.newAt (w.alloc (.cells #[v] 24)) Z1 24 (b := w.heap.size + 1) (by simp)
  have b0 := ((Below.refl w.heap.size w).alloc (Nat.le_refl _) (.cells #[v] 24)).alloc (by simp) (.cells Z1 24)
  have r0 := h.below b0
  have CC := rr.right_any v l _ r0 hk
  obtain ⟨V, HV⟩ : ∃ V, Hid ((w.alloc (.cells #[v] 24)).alloc (.cells Z1 24) = V) := ⟨_, rfl⟩
  rw [HV.out] at F0 G0 b0 r0 CC
  have c0 := F0.cell
  have sz : w.heap.size + 1 < V.heap.size := G0.lt
  by_cases e2 : terr l = 0
  · obtain ⟨hb, hr⟩ := terr_zero e2
    have hbd := bn_bd hb
    have hf := fnd_spec (hl_lt hb) hr.free k
    have CL := fun u hu => clone_any v l u hu (by omega)
    have CT := fun u hu => tableAt_any v l k u hu
    have hlt2 := hf.lt
    rw [e2] at CC
    obtain ⟨b, off, sc, rfl, hlt, hm', hsc, hx⟩ := rd_at h (by omega)
    have hl0 : 0 < l.length := by omega
    cases hu : (ax l (fnd (hl l) l k)).u
    · have hix := ix_no (fnd_not (hl_lt hb) hr hf hu)
      have HAdd : Hid (addS (hm l.length) l ⟨true, k, y⟩ = l.set (fnd (hl l) l k) ⟨true, k, y⟩) := by
        have : Fre (hl l) l k (fnd (hl l) l k) := ⟨hf.lt, hu, fun q hq ho => (hf.way q hq ho).1⟩
        show addS (hl l) l ⟨true, k, y⟩ = _
        unfold addS
        rw [fre_eq (hl_lt hb k) this]
      have CA := fun B g cap u ho => tableAdd_any l ⟨true, k, y⟩ B g cap l.length u ho rfl hb hr.free hkk
      have HP : Hid ((fc l l.length = 1 ∧ pe l k = 6 ∧ pl l k y = []) ∨ (fc l l.length ≠ 1 ∧ pe l k = 0 ∧ pl l k y = l.set (fnd (hl l) l k) ⟨true, k, y⟩)) := by
        have hcl := free_iff.2 hr.free
        have hfc : fc l l.length = l.length - cnt l := by unfold fc; rw [List.take_length]
        rcases pe_cases l k y with ⟨_, a, _⟩ | ⟨a, _, _, c, d⟩ | ⟨a, _, c, d⟩
        · exact absurd e2 a
        · exact Or.inl ⟨by omega, a, d⟩
        · refine Or.inr ⟨?_, a, d⟩
          rcases c with c | c
          · rw [hu] at c; cases c
          · omega
      have HS : Hid (∀ i, i < l.length → fc l (i + 1) = fc l i + (if (ax l i).u then 0 else 1)) := fun i hi => fc_step hi
      have HZ := fc_zero l
      have HC := fc_le l
      have hG : ∀ i, i < l.length → l[i]? = some (ax l i) := fun i hi => ax_get hi
      rw [hix] at CT
      clear hix hf hr hx h hk e2 hb hu
      generalize pe l k = PE at *
      generalize pl l k y = PL at *
      generalize fnd (hl l) l k = R at *
      generalize fc l = C at *
      generalize hn : l.length = n at *
      have HN : Hid (l.length = n) := hn
      clear hn
      go_enter Try.func17, Try.ntmps17
      go_upto_region 1 with fail
      rw [HV.out]
      go_wp2_with fail
      refine CC.mono ?_
      rintro e w1 ⟨rfl, z⟩
      have b1 := b0.trans (z.mono b0.size)
      have r1 := r0.below z
      have F1 := F0.below z F0.lt
      have G1 := G0.below z G0.lt
      have c1 := F1.cell
      have CL1 := CL w1 r1
      clear r0 F0 c0 z b0 CC HV G0 sz CL
      go_wp2_with fail
      refine CL1.mono ?_
      rintro e w4 ⟨v4, rfl, O4, z⟩
      obtain ⟨g, cap, rfl, hgB, hgl, hnc, hcm, _⟩ := O4.form (by rw [HN.out]; omega)
      have O5 := O4.mono b1.size
      have G4 := G1.below z G1.lt
      have F4 := F1.below z F1.lt
      have c4 := F4.cell
      have b4 := b1.trans (z.mono b1.size)
      have r4 := r1.below z
      have hgne : g ≠ w.heap.size + 1 := by have := G1.lt; omega
      have hgw : w.heap.size ≤ g := by have := b1.size; omega
      rw [HN.out] at O5
      try rw [HN.out]
      have CT4 := CT w4 r4
      clear CL1 c1 z O4 G1 F1 r1 CT
      go_wp2_with fail
      refine CT4.mono ?_
      rintro e w5 ⟨rfl, z⟩
      have O6 := O5.kept z
      have G6 := G4.below z G4.lt
      have b6 := b4.trans (z.mono b4.size)
      clear CT4 c4 z O5 G4 F4 b4 r4
      go_wp2_with fail
      go_loopw [11, 37] (fun s11 s37 wr => ∃ i : Nat, s37 = .int .i64 (i : Int) ∧ i ≤ n ∧ s11 = .int .i64 (C i : Int) ∧ Own SK wr w.heap.size (.slice (some ⟨g, 0, none⟩) n cap) l ∧ Blk wr (w.heap.size + 1) Z1 24 ∧ Below w.heap.size w wr) (fun _ i _ => n - (intOf i).toNat)
      case atStart => exact ⟨0, rfl, Nat.zero_le _, by rw [HZ]; rfl, O6, G6, b6⟩
      case round =>
        clear O6 G6 b6
        obtain ⟨i, rfl, hi, rfl, O, G, bel⟩ := hrel
        by_cases hlt : i < n
        · have hlt' : (i : Int) < (n : Int) := by omega
          have gi := hG i hlt
          have hS : Hid (C (i + 1) = C i + (if (ax l i).u then 0 else 1)) := HS.out i hlt
          have hC := HC i
          generalize ax l i = s at *
          obtain ⟨su, sk, sv⟩ := s
          have O' := O.alloc (.cells #[.bool su, .int .u64 (sk : Int), .int .i64 sv] 40)
          have G' := G.alloc (.cells #[.bool su, .int .u64 (sk : Int), .int .i64 sv] 40)
          have bel' := bel.trans (((Below.refl wr.heap.size wr).alloc (Nat.le_refl _) (.cells #[.bool su, .int .u64 (sk : Int), .int .i64 sv] 40)).mono bel.size)
          clear HS HC G bel hG CA HP HAdd
          cases su
          · go_upto_region 13 with (refine rws.elem_load SK _ rfl _ rfl w.heap.size g n cap l O i _ rfl rfl _ gi #[.bool false, .int .u64 (sk : Int), .int .i64 sv] rfl _ Try.underlying40 rfl ?_)
            go_wp2_with fail
            go_roundw
            case rel => exact ⟨i + 1, by go_num, by omega, by rw [hS.out]; go_num, O', G', bel'⟩
            case measure => simp [intOf]; omega
          · go_upto_region 13 with (refine rws.elem_load SK _ rfl _ rfl w.heap.size g n cap l O i _ rfl rfl _ gi #[.bool true, .int .u64 (sk : Int), .int .i64 sv] rfl _ Try.underlying40 rfl ?_)
            go_wp2_with fail
            go_roundw
            case rel => exact ⟨i + 1, by go_num, by omega, by rw [hS.out]; rfl, O', G', bel'⟩
            case measure => simp [intOf]; omega
        · have hlt' : ¬ (i : Int) < (n : Int) := by omega
          have e : i = n := by omega
          have hC := HC i
          clear HS HC hG
          rcases HP.out with ⟨p1, rfl, rfl⟩ | ⟨p1, rfl, rfl⟩
          · have HC1 : Hid (C i = 1) := by rw [e]; exact p1
            clear e p1 HP
            rw [HC1.out]
            go_wp2_with (refine blk_store _ rfl 24 _ _ rfl (w.heap.size + 1) Z1 rfl rfl _ _ G 1 tb_info rfl rfl (tb_one _ _ _) ?_; intro W3 K3 p3)
            have d1 := p3.below bel (by omega)
            exact blk_ret2 rfl rfl (w.heap.size + 1) Z1 24 rfl K3 _ Try.underlying24 rfl 1 tb_info rfl ⟨_, rfl, Own.nil _ _ _, d1⟩
          · have h1 : ((C i : Int) == 1) = false := by rw [← e] at p1; simp; omega
            clear e p1 HP
            go_wp2_with fail
            refine (CA _ _ _ _ O).mono ?_
            rintro e w6 ⟨rfl, O6, gr⟩
            rw [HAdd.out] at O6
            have G6 := grown_blk gr G (fun e => hgne e.symm)
            have b6 := bel.grown gr bel.size (fun k hk => by cases hk; exact hgw)
            go_wp2_with (refine blk_store _ rfl 24 _ _ rfl (w.heap.size + 1) _ rfl rfl _ _ G6 1 tb_info rfl rfl (tb_one _ _ _) ?_; intro W3 K3 p3)
            have d1 := p3.below b6 (by omega)
            have O7 := O6.but p3 (by simp [Value.ownBlock]; omega)
            exact blk_ret2 rfl rfl (w.heap.size + 1) _ 24 rfl K3 _ Try.underlying24 rfl 1 tb_info rfl ⟨_, rfl, O7, d1⟩
    · have hj : Has l k (fnd (hl l) l k) := fnd_yes hf hu
      have hix := ix_has (hl_lt hb) hr hj
      have HP : Hid (pe l k = 0 ∧ pl l k y = l.set (fnd (hl l) l k) ⟨true, k, y⟩) := by
        rcases pe_cases l k y with ⟨_, a, _⟩ | ⟨_, _, c, _⟩ | ⟨a, _, c, d⟩
        · exact absurd e2 a
        · rw [hu] at c; cases c
        · exact ⟨a, d⟩
      rw [hix] at CT
      rw [HP.out.1, HP.out.2]
      have hs := st_eta _ hj.2.1 hj.2.2
      have gR : l[fnd (hl l) l k]? = some (ax l (fnd (hl l) l k)) := ax_get hj.1
      clear hix hf hr hx h hk e2 hb hu HP hj
      generalize fnd (hl l) l k = R at *
      rw [hs] at gR
      generalize (ax l R).v = v0 at *
      clear hs
      generalize hn : l.length = n at *
      have HN : Hid (l.length = n) := hn
      clear hn
      have hR : (R : Int) < (n : Int) := by omega
      go_enter Try.func17, Try.ntmps17
      go_upto_region 1 with fail
      rw [HV.out]
      go_wp2_with fail
      refine CC.mono ?_
      rintro e w1 ⟨rfl, z⟩
      have b1 := b0.trans (z.mono b0.size)
      have r1 := r0.below z
      have F1 := F0.below z F0.lt
      have G1 := G0.below z G0.lt
      have c1 := F1.cell
      have CL1 := CL w1 r1
      clear r0 F0 c0 z b0 CC HV G0 sz CL
      go_wp2_with fail
      refine CL1.mono ?_
      rintro e w4 ⟨v4, rfl, O4, z⟩
      obtain ⟨g, cap, rfl, hgB, hgl, hnc, hcm, _⟩ := O4.form (by rw [HN.out]; omega)
      have O5 := O4.mono b1.size
      have G4 := G1.below z G1.lt
      have F4 := F1.below z F1.lt
      have c4 := F4.cell
      have b4 := b1.trans (z.mono b1.size)
      have r4 := r1.below z
      have hgne : g ≠ w.heap.size + 1 := by have := G1.lt; omega
      have hgw : w.heap.size ≤ g := by have := b1.size; omega
      rw [HN.out] at O5
      try rw [HN.out]
      have CT4 := CT w4 r4
      clear CL1 c1 z O4 G1 F1 r1 CT
      go_wp2_with fail
      refine CT4.mono ?_
      rintro e w5 ⟨rfl, z⟩
      have O6 := O5.kept z
      have G6 := G4.below z G4.lt
      have b6 := b4.trans (z.mono b4.size)
      obtain ⟨O7, fr, _⟩ := Own.put O6 R 2 ⟨true, k, v0⟩ ⟨true, k, y⟩ (.int .i64 y) gR (by decide) rfl
      have cv : w5.cell? ⟨g, R * 3 + 2, none⟩ = some (.int .i64 v0) := O6.cell (K := SK) gR (i := 2) (by decide)
      have fr' : w5.frozen? ⟨g, R * 3 + 2, none⟩ = false := fr
      have O8 : Own SK (w5.setCell ⟨g, R * 3 + 2, none⟩ (.int .i64 y)) w.heap.size (.slice (some ⟨g, 0, none⟩) n cap) (l.set R ⟨true, k, y⟩) := O7
      have G7 := (but_setCell w5 g (R * 3 + 2) (.int .i64 y)).blk G6 (fun e => hgne e.symm)
      have b7 := (but_setCell w5 g (R * 3 + 2) (.int .i64 y)).below b6 hgw
      clear CT4 c4 z O5 G4 F4 b4 r4 O7 fr O6 G6
      go_wp2_with (refine blk_store _ rfl 24 _ _ rfl (w.heap.size + 1) _ rfl rfl _ _ G7 1 tb_info rfl rfl (tb_one _ _ _) ?_; intro W3 K3 p3)
      have d1 := p3.below b7 (by omega)
      have O9 := O8.but p3 (by simp [Value.ownBlock]; omega)
      exact blk_ret2 rfl rfl (w.heap.size + 1) _ 24 rfl K3 _ Try.underlying24 rfl 1 tb_info rfl ⟨_, rfl, O9, d1⟩
  · have HP : Hid (pe l k = terr l ∧ pl l k y = []) := by
      rcases pe_cases l k y with ⟨a, _, c⟩ | ⟨_, a, _⟩ | ⟨_, a, _⟩
      · exact ⟨a, c⟩
      · exact absurd a e2
      · exact absurd a e2
    rw [HP.out.1, HP.out.2]
    have e2' : (terr l != 0) = true := by simpa using e2
    obtain ⟨sa, sc, rfl⟩ := h.form
    clear h r0 e2 hk HP
    generalize terr l = E at *
    generalize l.length = n at *
    go_enter Try.func17, Try.ntmps17
    go_upto_region 1 with fail
    rw [HV.out]
    go_wp2_with fail
    refine CC.mono ?_
    rintro e w1 ⟨rfl, z⟩
    have b1 := b0.trans (z.mono b0.size)
    have G1 := G0.below z G0.lt
    go_wp2_with (refine blk_store _ rfl 24 _ _ rfl (w.heap.size + 1) Z1 rfl rfl _ _ G1 1 tb_info rfl rfl (tb_one _ _ _) ?_; intro W3 K3 p3)
    have d1 := p3.below b1 (by omega)
    exact blk_ret2 rfl rfl (w.heap.size + 1) Z1 24 rfl K3 _ Try.underlying24 rfl 1 tb_info rfl ⟨_, rfl, Own.nil _ _ _, d1⟩
end Go.Proofs.Ytmnmjmbfnecmoaa.rp
