/- What custref's TableRemove answers. -/
import Derived.Test.YtmnmjmbfnecmoaaTabRef4
import Derived.Test.YtmnmjmbfnecmoaaTabMath2
import Derived.Test.YtmnmjmbfnecmoaaTabRemove
namespace Go.Proofs.Ytmnmjmbfnecmoaa.rq
open Go.ChangeShapes Go.WideShapes Go.ChangeAt Go.RowKit Go.BigFrame
open Go.Proofs.Ytmnmjmbfnecmoaa Go.Proofs.Ytmnmjmbfnecmoaa.tm Go.Proofs.Ytmnmjmbfnecmoaa.tb Go.Proofs.Ytmnmjmbfnecmoaa.ti Go.Proofs.Ytmnmjmbfnecmoaa.tsh Go.Proofs.Ytmnmjmbfnecmoaa.tg Go.Proofs.Ytmnmjmbfnecmoaa.tr Go.Proofs.Ytmnmjmbfnecmoaa.rh Go.Proofs.Ytmnmjmbfnecmoaa.ra Go.Proofs.Ytmnmjmbfnecmoaa.boxes Go.Proofs.Ytmnmjmbfnecmoaa.rwr
open Go.Proofs.Ytmnmjmbfnecmoaa.rws (Knd Own elem_load app_one)

theorem own_ne {w : World} {B g : Nat} {v : Value} {l : List St} (h : Own SK w B v l) (hg : g < B) : v.ownBlock ≠ some g := by
  rcases h.forms with ⟨rfl, _⟩ | ⟨g', cap, rfl, hB, _⟩
  · simp [Value.ownBlock]
  · simp [Value.ownBlock]; omega
theorem own_grown {w w' : World} {B : Nat} {v : Value} {l : List St} {r : Option Nat} (h : Own SK w B v l) (hg : w.grownBy w' r) (hne : v.ownBlock ≠ r) : Own SK w' B v l :=
  World.ownsRow.kept (row := r) h hg (Or.inr hne)
theorem blk_grown {w w' : World} {r : Option Nat} {b : Nat} {F : Array Value} {t : TypeId} (h : w.grownBy w' r) (k : Blk w b F t) (hb : r ≠ some b) : Blk w' b F t := (h.block b k.lt (fun e => hb e.symm)).trans k
theorem own_at {w : World} {B : Nat} {sa : Option Addr} {n sc : Nat} {l : List St} (h : Own SK w B (.slice sa n sc) l) (hl : 0 < l.length) : ∃ g, sa = some ⟨g, 0, none⟩ := by
  obtain ⟨g, cap, e, _⟩ := h.form hl
  simp only [Value.slice.injEq] at e
  exact ⟨g, e.1⟩
set_option maxRecDepth 20000 in
set_option maxHeartbeats 8000000 in
theorem rremove_any (v : Value) (l : List St) (k : Nat) (w : World) (h : Rd SK w v l) (hk : ∀ i, (ax l i).k < 18446744073709551616) : Calls Try.prog 19 #[.agg #[v], .int .u64 (k : Int)] w fun e w' => ∃ v', e = .returned (.tuple #[.agg #[v'], .int .i64 (fe l k)]) ∧ Own SK w' w.heap.size v' (rl l k) ∧ Below w.heap.size w w' := by
  have F0 := (Blk.new w #[v] 24).alloc (.cells Z1 24)
  have G0 := Blk.newAt (w.alloc (.cells #[v] 24)) Z1 24 (b := w.heap.size + 1) (by simp)
  have b0 := ((Below.refl w.heap.size w).alloc (Nat.le_refl _) (.cells #[v] 24)).alloc (by simp) (.cells Z1 24)
  have r0 := h.below b0
  have CC := rr.right_any v l _ r0 hk
  obtain ⟨V, HV⟩ : ∃ V, Hid ((w.alloc (.cells #[v] 24)).alloc (.cells Z1 24) = V) := ⟨_, rfl⟩
  rw [HV.out] at F0 G0 b0 r0 CC
  have c0 := F0.cell
  have sz : w.heap.size + 1 < V.heap.size := G0.lt
  rcases fe_cases l k with ⟨e1, e2, _, _⟩ | ⟨e1, e2, hu, _, _⟩ | ⟨e1, e2, hu, _, _⟩
  · have HP : Hid (rl l k = []) := by show rl l k = []; unfold rl; rw [e1, if_neg e2]
    rw [e1, HP.out]
    have e2' : (terr l != 0) = true := by simpa using e2
    obtain ⟨sa, sc, rfl⟩ := h.form
    clear h r0 e2 hk HP e1
    generalize terr l = E at *
    generalize l.length = n at *
    go_enter Try.func19, Try.ntmps19
    go_upto_region 1 with fail
    rw [HV.out]
    go_wp2_with fail
    refine CC.mono ?_
    rintro e w1 ⟨rfl, z⟩
    have b1 := b0.trans (z.mono b0.size)
    have G1 := G0.below z G0.lt
    go_wp2_with (refine blk_store _ rfl 24 _ _ rfl (w.heap.size + 1) Z1 rfl rfl _ _ G1 1 tb_info rfl rfl (tb_one _ _ _) ?_; intro W3 K3 p3)
    have d1 := p3.below b1 (by omega)
    exact blk_ret2 rfl rfl (w.heap.size + 1) Z1 24 rfl K3 _ Try.underlying24 rfl 1 tb_info rfl ⟨_, rfl, Own.nil _ _ _, d1⟩
  · obtain ⟨hb, hr⟩ := terr_zero e2
    have hf := fnd_spec (hl_lt hb) hr.free k
    have CT := fun u hu => tableAt_any v l k u hu
    rw [ix_no (fnd_not (hl_lt hb) hr hf hu)] at CT
    rw [e2] at CC
    have HP : Hid (rl l k = []) := by show rl l k = []; unfold rl; rw [e1]; rfl
    rw [e1, HP.out]
    obtain ⟨sa, sc, rfl⟩ := h.form
    have hbd := bn_bd hb
    clear h e2 hk HP e1 hf hr hu hb
    generalize hn : l.length = n at *
    go_enter Try.func19, Try.ntmps19
    go_upto_region 1 with fail
    rw [HV.out]
    go_wp2_with fail
    refine CC.mono ?_
    rintro e w1 ⟨rfl, z⟩
    have b1 := b0.trans (z.mono b0.size)
    have G1 := G0.below z G0.lt
    have F1 := F0.below z F0.lt
    have c1 := F1.cell
    have CT1 := CT w1 (r0.below z)
    clear r0 CT CC c0 F0 HV b0 z
    go_wp2_with fail
    refine CT1.mono ?_
    rintro e w2 ⟨rfl, z⟩
    have b2 := b1.trans (z.mono b1.size)
    have G2 := G1.below z G1.lt
    clear CT1 c1
    go_wp2_with (refine blk_store _ rfl 24 _ _ rfl (w.heap.size + 1) Z1 rfl rfl _ _ G2 1 tb_info rfl rfl (tb_one _ _ _) ?_; intro W3 K3 p3)
    have d1 := p3.below b2 (by omega)
    exact blk_ret2 rfl rfl (w.heap.size + 1) Z1 24 rfl K3 _ Try.underlying24 rfl 1 tb_info rfl ⟨_, rfl, Own.nil _ _ _, d1⟩
  · obtain ⟨hb, hr⟩ := terr_zero e2
    have hbd := bn_bd hb
    have hf := fnd_spec (hl_lt hb) hr.free k
    have hj : Has l k (fnd (hl l) l k) := fnd_yes hf hu
    have CL := fun u hu => clone_any v l u hu (by omega)
    have CT := fun u hu => tableAt_any v l k u hu
    rw [ix_has (hl_lt hb) hr hj] at CT
    rw [e2] at CC
    have HP : Hid (rl l k = rmv (hl l) l (fnd (hl l) l k)) := by show rl l k = _; unfold rl; rw [if_pos e1]
    rw [e1, HP.out]
    have HA : Hid (∀ e c, Ed l (nx l.length (fnd (hl l) l k)) e → Cl l (fnd (hl l) l k) e c → (sq l.length l (nx l.length (fnd (hl l) l k))).foldl (addS (hl l)) c = rmv (hl l) l (fnd (hl l) l k) ∧ Gd (hl l) c (sq l.length l (nx l.length (fnd (hl l) l k)))) := fun e c he hc => rmv_again (hl_lt hb) hr hj he hc
    have HM : Hid (∀ s ∈ sq l.length l (nx l.length (fnd (hl l) l k)), s.k < 18446744073709551616) := fun s hs => by
      obtain ⟨q, rfl⟩ := sq_mem _ _ _ _ hs
      exact hk q
    have HLen := sq_len l.length l (nx l.length (fnd (hl l) l k))
    have HFree : Hid (∃ j, j < l.length ∧ (ax l j).u = false) := hr.free
    have hR := hf.lt
    have CA := fun (c : List St) (s : St) B g cap u ho hn hf hs => tableAdd_any c s B g cap l.length u ho hn hb hf hs
    obtain ⟨b, off, sc, rfl, hlt, hm', hsc, hx⟩ := rd_at h (by omega)
    clear h e2 hk HP e1 hf hr hb hj hx
    simp only [hl] at HA ⊢ HLen
    generalize rmv (hm l.length) l (fnd (hm l.length) l k) = RES at *
    generalize fnd (hm l.length) l k = R at *
    generalize hn : l.length = n at *
    have HN : Hid (l.length = n) := hn
    have HLw : Hid (Lw l R n (nx n R) (l.set R z0) []) := lw_begin hn hR hu HFree.out
    clear hn hu
    have hR' : (R : Int) < (n : Int) := by omega
    have hmd := nx_tmod n R
    have hn0 : ¬ (n : Int) = 0 := by omega
    go_enter Try.func19, Try.ntmps19
    go_upto_region 1 with fail
    rw [HV.out]
    go_wp2_with fail
    refine CC.mono ?_
    rintro e w1 ⟨rfl, z⟩
    have b1 := b0.trans (z.mono b0.size)
    have r1 := r0.below z
    have F1 := F0.below z F0.lt
    have G1 := G0.below z G0.lt
    have c1 := F1.cell
    have CT1 := CT w1 r1
    clear r0 F0 c0 z b0 CC HV G0 sz CT
    go_wp2_with fail
    refine CT1.mono ?_
    rintro e w2 ⟨rfl, z⟩
    have b2 := b1.trans (z.mono b1.size)
    have r2 := r1.below z
    have F2 := F1.below z F1.lt
    have G2 := G1.below z G1.lt
    have c2 := F2.cell
    have CL2 := CL w2 r2
    clear r1 F1 c1 z b1 G1 CT1 CL
    go_wp2_with fail
    refine CL2.mono ?_
    rintro e w4 ⟨v4, rfl, O4, z⟩
    obtain ⟨g, cap, rfl, hgB, hgl, hnc, hcm, _⟩ := O4.form (by rw [HN.out]; omega)
    have O5 := O4.mono b2.size
    have G4 := G2.below z G2.lt
    have b4 := b2.trans (z.mono b2.size)
    have hgne : g ≠ w.heap.size + 1 := by have := G2.lt; omega
    have hgw : w.heap.size ≤ g := by have := b2.size; omega
    rw [HN.out] at O5
    try rw [HN.out]
    clear CL2 c2 z O4 G2 F2 r2 b2
    go_upto_region 9 with (refine elem_store SK _ rfl _ _ rfl w.heap.size g n cap l O5 R _ rfl rfl (by rw [HN.out]; exact hR) z0 rfl ?_; intro w6 O6 p6)
    have G6 := p6.blk G4 (fun e => hgne e.symm)
    have b6 := p6.below b4 hgw
    have hgl6 : g < w6.heap.size := by rw [p6.size]; exact hgl
    have hwl6 : w.heap.size + 1 < w6.heap.size := G6.lt
    obtain ⟨Bm, HBm⟩ : ∃ Bm, Hid (Bm = w6.heap.size) := ⟨_, rfl⟩
    have hBs : Bm ≤ w6.heap.size := Nat.le_of_eq HBm.out
    have hgB' : g < Bm := by rw [HBm.out]; exact hgl6
    have hwB' : w.heap.size + 1 < Bm := by rw [HBm.out]; exact hwl6
    clear O5 G4 b4 p6 hgl6 hwl6 HBm
    go_wp2_with fail
    go_loopw [9, 10] (fun s9 s10 wr => ∃ (p : Nat) (c mv : List St), s10 = .int .i64 (p : Int) ∧ p < n ∧ Hid (Lw l R n p c mv) ∧ mv.length ≤ n ∧ Own SK wr Bm s9 mv ∧ Bm ≤ wr.heap.size ∧ Own SK wr w.heap.size (.slice (some ⟨g, 0, none⟩) n cap) c ∧ Blk wr (w.heap.size + 1) Z1 24 ∧ Below w.heap.size w wr) (fun _ p _ => n - stp n R (intOf p).toNat)
    case atStart => exact ⟨nx n R, _, [], rfl, nx_lt hR, HLw, by simp, Own.nil _ _ _, hBs, O6, G6, b6⟩
    case round =>
      clear O6 G6 b6 HLw hBs
      obtain ⟨p, c, mv, rfl, hp, HY, hml, Om, hBw, O, G, bel⟩ := hrel
      have hap : ax c p = ax l p := lw_at HN.out HY.out
      have hcl : c.length = n := by rw [← HN.out]; exact HY.out.cl.len
      have HCl : Hid (c.length = n) := hcl
      have gp : c[p]? = some (ax l p) := by rw [← hap]; exact ax_get (by omega)
      have cu : wr.cell? ⟨g, p * 3, none⟩ = some (.bool (ax l p).u) := O.cell (K := SK) gp (i := 0) (by decide)
      have hp' : (p : Int) < (n : Int) := by omega
      have hmd := nx_tmod n p
      clear hcl hap
      cases hu : (ax l p).u
      · rw [hu] at cu
        obtain ⟨em, he⟩ := lw_end HN.out hR HY.out hu
        obtain ⟨ef, eg⟩ := HA.out p c (by rw [HN.out] at he; exact he) HY.out.cl
        have HF : Hid ((mv).foldl (addS (hm n)) c = RES) := by rw [em, HN.out]; exact ef
        have HG : Hid (Gd (hm n) c mv) := by rw [em, HN.out]; exact eg
        have HMm : Hid (∀ s ∈ mv, s.k < 18446744073709551616) := by rw [em, HN.out]; exact HM.out
        obtain ⟨sa, sc9, e9⟩ := (Own.rd Om).form
        clear em he ef eg HA HM HY hu gp HLen
        subst e9
        obtain ⟨m, hm9⟩ : ∃ m, m = mv.length := ⟨_, rfl⟩
        rw [← hm9] at Om hml ⊢
        have HM9 : Hid (m = mv.length) := hm9
        clear hm9
        go_wp2_with fail
        go_loopw [60] (fun s60 wr => ∃ (i : Nat) (c : List St), s60 = .int .i64 (i : Int) ∧ i ≤ m ∧ Hid ((mv.drop i).foldl (addS (hm n)) c = RES) ∧ Hid (Gd (hm n) c (mv.drop i)) ∧ Hid (c.length = n) ∧ Own SK wr Bm (.slice sa m sc9) mv ∧ Own SK wr w.heap.size (.slice (some ⟨g, 0, none⟩) n cap) c ∧ Blk wr (w.heap.size + 1) Z1 24 ∧ Below w.heap.size w wr) (fun i _ => m - (intOf i).toNat)
        case atStart => exact ⟨0, c, rfl, Nat.zero_le _, HF, HG, HCl, Om, O, G, bel⟩
        case round =>
          clear Om O G bel HF HG HCl cu hBw
          obtain ⟨i, c, rfl, hi, HF, HG, HCl, Om, O, G, bel⟩ := hrel
          by_cases hlt : i < m
          · have hlt' : (i : Int) < (m : Int) := by omega
            have hil : i < mv.length := by have := HM9.out; omega
            obtain ⟨g9, rfl⟩ := own_at Om (by omega)
            have gi : mv[i]? = some (ax mv i) := ax_get hil
            have hdr : mv.drop i = ax mv i :: mv.drop (i + 1) := by
              rw [List.drop_eq_getElem_cons hil]
              have := ax_get hil
              rw [List.getElem?_eq_getElem hil] at this
              rw [Option.some.inj this]
            have hf0 := HF.out
            have hg0 := HG.out
            rw [hdr] at hf0 hg0
            have HF' : Hid ((mv.drop (i + 1)).foldl (addS (hm n)) (addS (hm n) c (ax mv i)) = RES) := hf0
            have HG' : Hid (Gd (hm n) (addS (hm n) c (ax mv i)) (mv.drop (i + 1))) := hg0.2
            have HCl' : Hid ((addS (hm n) c (ax mv i)).length = n) := by rw [addS_len]; exact HCl.out
            have hk9 : (ax mv i).k < 18446744073709551616 := HMm.out _ (List.mem_of_getElem? gi)
            have hne9 := own_ne Om hgB'
            have hgw9 : g9 ≠ g := by simpa [Value.ownBlock] using hne9
            have CA' := fun u ho => CA c (ax mv i) w.heap.size g cap u ho HCl.out hg0.1 hk9
            clear hdr hf0 hg0 HF HG HCl HMm CA hk9
            generalize ax mv i = s at *
            obtain ⟨su, sk, sv⟩ := s
            have A0 := Blk.new wr #[.bool su, .int .u64 (sk : Int), .int .i64 sv] 40
            have cA := A0.cell
            have Om' := Om.alloc (.cells #[.bool su, .int .u64 (sk : Int), .int .i64 sv] 40)
            have O' := O.alloc (.cells #[.bool su, .int .u64 (sk : Int), .int .i64 sv] 40)
            have G' := G.alloc (.cells #[.bool su, .int .u64 (sk : Int), .int .i64 sv] 40)
            have bel' := bel.trans (((Below.refl wr.heap.size wr).alloc (Nat.le_refl _) (.cells #[.bool su, .int .u64 (sk : Int), .int .i64 sv] 40)).mono bel.size)
            have CA1 := CA' _ O'
            clear A0 O G bel CA'
            go_upto_region 18 with (refine elem_load SK _ rfl _ rfl Bm g9 m sc9 mv Om i _ rfl rfl _ gi #[.bool su, .int .u64 (sk : Int), .int .i64 sv] rfl _ Try.underlying40 rfl ?_)
            go_wp2_with fail
            refine CA1.mono ?_
            rintro e w7 ⟨rfl, O7, gr⟩
            have Om7 := own_grown Om' gr hne9
            have G7 := grown_blk gr G' (fun e => hgne e.symm)
            have b7 := bel'.grown gr bel'.size (fun k hk => by cases hk; exact hgw)
            clear CA1 Om Om' G' bel' cA
            go_wp2_with fail
            go_roundw
            case rel => exact ⟨i + 1, _, by go_num, by omega, HF', HG', HCl', Om7, O7, G7, b7⟩
            case measure => simp [intOf]; omega
          · have hlt' : ¬ (i : Int) < (m : Int) := by omega
            have HE : Hid (c = RES) := by
              have := HF.out
              rw [List.drop_of_length_le (by have := HM9.out; omega)] at this
              exact this
            rw [HE.out] at O
            clear HF HG HCl Om HMm CA
            go_wp2_with (refine blk_store _ rfl 24 _ _ rfl (w.heap.size + 1) _ rfl rfl _ _ G 1 tb_info rfl rfl (tb_one _ _ _) ?_; intro W3 K3 p3)
            have d1 := p3.below bel (by omega)
            have O9 := O.but p3 (by simp [Value.ownBlock]; omega)
            exact blk_ret2 rfl rfl (w.heap.size + 1) _ 24 rfl K3 _ Try.underlying24 rfl 1 tb_info rfl ⟨_, rfl, O9, d1⟩
      · rw [hu] at cu
        obtain ⟨hY, hS⟩ := lw_step HN.out hR (by have := HFree.out; exact this) HY.out hu
        have HS : Hid (stp n R (nx n p) = stp n R p + 1) := hS
        have h2 : stp n R p < n := stp_lt hR
        have h3 : stp n R (nx n p) < n := stp_lt hR
        obtain ⟨⟨su, sk, sv⟩, hs⟩ : ∃ s, ax l p = s := ⟨_, rfl⟩
        have HY' : Hid (Lw l R n (nx n p) (c.set p z0) (mv ++ [⟨su, sk, sv⟩])) := by rw [← hs]; exact hY
        rw [hs] at gp hu
        simp only at hu
        subst hu
        have hml' : Hid ((mv ++ [(⟨true, sk, sv⟩ : St)]).length ≤ n) := by
          obtain ⟨f, e1, e2⟩ := HY'.out.ex
          have := sq_len n l (nx n R)
          rw [← e1, List.length_append] at this
          show (mv ++ [(⟨true, sk, sv⟩ : St)]).length ≤ n
          omega
        have ne1 := own_ne Om hgB'
        have ne2 := own_ne Om hwB'
        clear hY hS hs HY CA HA HM
        go_upto_region 14 with (first | refine elem_load SK _ rfl _ rfl w.heap.size g n cap c O p _ rfl rfl _ gp #[.bool true, .int .u64 (sk : Int), .int .i64 sv] rfl _ Try.underlying40 rfl ?_ | (at_builtin; refine app_one SK _ rfl _ _ rfl Bm u9 mv rfl (Om.alloc _) wr.heap.size 1 ⟨true, sk, sv⟩ _ rfl (Blk.new _ _ _) (by unfold maxLen; omega) (by show (mv.length + 1) * 24 ≤ _; omega) (by simp; omega) ?_; intro v7 W7 O7 c7 g7))
        have OG := own_grown (O.alloc (.cells #[.bool true, .int .u64 (sk : Int), .int .i64 sv] 40)) g7 (fun e => ne1 e.symm)
        have G7 := blk_grown g7 (G.alloc (.cells #[.bool true, .int .u64 (sk : Int), .int .i64 sv] 40)) ne2
        have bel7 := (bel.alloc bel.size (.cells #[.bool true, .int .u64 (sk : Int), .int .i64 sv] 40)).trans (c7.mono (by omega))
        have hB7 : Bm ≤ W7.heap.size := by have := c7.size; simp at this; omega
        have ne7 := own_ne O7 hgB'
        clear Om O G bel ne1 ne2 cu hBw
        go_wp2_with (refine elem_store SK _ rfl _ _ rfl w.heap.size g n cap c OG p _ rfl rfl (by rw [HCl.out]; exact hp) z0 rfl ?_)
        intro W8 O8 p8
        have OM8 := O7.but p8 ne7
        have G8 := p8.blk G7 (fun e => hgne e.symm)
        have b8 := p8.below bel7 hgw
        have hB8 : Bm ≤ W8.heap.size := by rw [p8.size]; exact hB7
        clear OG G7 bel7 O7 c7 g7 p8
        go_wp2_with fail
        go_roundw
        case rel => exact ⟨nx n p, _, _, rfl, nx_lt hp, HY', hml'.out, OM8, hB8, O8, G8, b8⟩
        case measure => have := HS.out; simp [intOf]; omega
end Go.Proofs.Ytmnmjmbfnecmoaa.rq
