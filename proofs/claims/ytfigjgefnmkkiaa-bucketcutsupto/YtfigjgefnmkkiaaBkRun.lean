/- What bucket.Run answers. -/
import Derived.Test.YtfigjgefnmkkiaaBkRRun
namespace Go.Proofs.Ytfigjgefnmkkiaa.bkt
open Go.ChangeShapes Go.WideShapes Go.ChangeAt Go.RowKit Go.BigFrame
open Go.Proofs.Ytfigjgefnmkkiaa Go.Proofs.Ytfigjgefnmkkiaa.boxes Go.Proofs.Ytfigjgefnmkkiaa.rwr Go.Proofs.Ytfigjgefnmkkiaa.sto
open Go.Proofs.Ytfigjgefnmkkiaa.rws (Knd Own)

theorem own_old {α : Type} {K : Knd α} {w : World} {B g : Nat} {v : Value} {l : List α} (h : Own K w B v l) (hg : w.heap.size ≤ g) : v.ownBlock ≠ some g := fun e => by
  have := (World.ownsRow.lt h g e).2
  omega
theorem grown_blk {w w' : World} {row : Option Nat} {b : Nat} {F : Array Value} {t : TypeId} (h : w.grownBy w' row) (k : Blk w b F t) (hne : row ≠ some b) : Blk w' b F t := (h.block b k.lt (fun e => hne e.symm)).trans k
theorem blk4 {w : World} {b : Nat} {r m h a : Int} {t : TypeId} (k : Blk w b (BC r m h a) t) (r' m' h' a' : Int) : Blk ((((w.setCell ⟨b, 0, none⟩ (.int .i64 r')).setCell ⟨b, 1, none⟩ (.int .i64 m')).setCell ⟨b, 2, none⟩ (.int .i64 h')).setCell ⟨b, 3, none⟩ (.int .i64 a')) b (BC r' m' h' a') t :=
  (((k.setCell 0 (.int .i64 r')).setCell 1 (.int .i64 m')).setCell 2 (.int .i64 h')).setCell 3 (.int .i64 a')
theorem but4 (w : World) (b : Nat) (r' m' h' a' : Int) : But b w ((((w.setCell ⟨b, 0, none⟩ (.int .i64 r')).setCell ⟨b, 1, none⟩ (.int .i64 m')).setCell ⟨b, 2, none⟩ (.int .i64 h')).setCell ⟨b, 3, none⟩ (.int .i64 a')) := by
  have h1 := but_setCell w b 0 (.int .i64 r')
  have h2 := but_setCell (w.setCell ⟨b, 0, none⟩ (.int .i64 r')) b 1 (.int .i64 m')
  have h3 := but_setCell ((w.setCell ⟨b, 0, none⟩ (.int .i64 r')).setCell ⟨b, 1, none⟩ (.int .i64 m')) b 2 (.int .i64 h')
  have h4 := but_setCell (((w.setCell ⟨b, 0, none⟩ (.int .i64 r')).setCell ⟨b, 1, none⟩ (.int .i64 m')).setCell ⟨b, 2, none⟩ (.int .i64 h')) b 3 (.int .i64 a')
  exact ⟨(h4.os.trans h3.os).trans (h2.os.trans h1.os), (h4.tape.trans h3.tape).trans (h2.tape.trans h1.tape), (h4.output.trans h3.output).trans (h2.output.trans h1.output), (h4.size.trans h3.size).trans (h2.size.trans h1.size), fun k hk => ((h4.block k hk).trans (h3.block k hk)).trans ((h2.block k hk).trans (h1.block k hk))⟩
set_option maxRecDepth 20000 in
set_option maxHeartbeats 4000000 in
theorem run_any (b : Bu) (v : Value) (l : List Dp) (w : World) (hr : Rd DK w v l) : Calls Try.prog 10 #[.agg (Bu.cells b), v] w fun e w' => ∃ v', e = .returned (.tuple #[.agg (Bu.cells (rst b l)), v', .int .i64 (rerr b l)]) ∧ Own BK w' w.heap.size v' (rtd b l) ∧ Below w.heap.size w w' := by
  have CK := fun W => check_any b W
  have CT := fun s t n W => take_any s t n W
  have F0 := (Blk.new w (Bu.cells b) 23).alloc (.cells (BC 0 0 0 0) 23)
  have G0 := Blk.newAt (w.alloc (.cells (Bu.cells b) 23)) (BC 0 0 0 0) 23 (b := w.heap.size + 1) (by simp)
  have b0 := ((Below.refl w.heap.size w).alloc (Nat.le_refl _) (.cells (Bu.cells b) 23)).alloc (by simp) (.cells (BC 0 0 0 0) 23)
  have HK : Hid (chk b ≠ 0 → rerr b l = chk b ∧ rst b l = z0 ∧ rtd b l = []) := run_chk
  have HQ : Hid (chk b = 0 → 500 < l.length → rerr b l = 2 ∧ rst b l = z0 ∧ rtd b l = []) := run_large
  have HB : Hid (∀ i d, chk b = 0 → l.length ≤ 500 → l[i]? = some d → er b (l.take i) = 0 → terr (st b (l.take i)) d.a d.n ≠ 0 → rerr b l = terr (st b (l.take i)) d.a d.n ∧ rst b l = z0 ∧ rtd b l = []) := fun _ _ => run_bad
  have HS : Hid (∀ i d, l[i]? = some d → er b (l.take i) = 0 → er b (l.take (i + 1)) = terr (st b (l.take i)) d.a d.n ∧ st b (l.take (i + 1)) = tk (st b (l.take i)) d.a d.n ∧ td b (l.take (i + 1)) = td b (l.take i) ++ [pas (st b (l.take i)) d.a d.n]) := fun _ _ h h0 => ⟨er_step h b h0, st_step h b, td_step h b⟩
  have HE : Hid (∀ i, chk b = 0 → l.length ≤ 500 → i = l.length → er b (l.take i) = 0 → rerr b l = 0 ∧ rst b l = st b (l.take i) ∧ rtd b l = td b (l.take i)) := fun _ => run_end
  have HL : Hid (∀ i, (td b (l.take i)).length ≤ i) := fun i => by rw [td_len, List.length_take]; omega
  have H0 : Hid (er b (l.take 0) = 0 ∧ st b (l.take 0) = b ∧ td b (l.take 0) = []) := ⟨rfl, rfl, rfl⟩
  have HG : Hid (∀ i, i < l.length → ∃ d, l[i]? = some d) := fun i hi => ⟨_, List.getElem?_eq_getElem hi⟩
  have hml := rd_len hr
  obtain ⟨sa, sc, rfl⟩ := hr.form
  have HX : Hid (∀ u, Below w.heap.size w u → 0 < l.length → ∃ b off, sa = some ⟨b, off, none⟩ ∧ b < w.heap.size ∧ ∀ j x, l[j]? = some x → ∀ i, i < DK.k → u.cell? ⟨b, off + j * DK.k + i, none⟩ = (DK.enc x)[i]?) := fun u hu hp => by
    obtain ⟨b1, o1, e1, h1, _⟩ := rd_spot hr hp
    obtain ⟨b2, o2, e2, h2, h3⟩ := rd_spot (hr.below hu) hp
    have e3 := e1.symm.trans e2
    simp only [Option.some.injEq, Addr.mk.injEq, and_true] at e3
    exact ⟨b2, o2, e2, by rw [← e3.1]; exact h1, h3⟩
  clear hr
  generalize rst b l = R at *
  generalize rtd b l = D at *
  generalize rerr b l = E at *
  generalize hk : chk b = k at *
  clear hk
  generalize hm : l.length = m at *
  clear hm
  go_enter Try.func10, Try.ntmps10
  go_upto_region 1 with fail
  generalize hW : (w.alloc (Obj.cells (Bu.cells b) 23)).alloc (Obj.cells (BC 0 0 0 0) 23) = W at *
  clear hW
  go_wp2_with (refine blk_load _ rfl 23 _ rfl w.heap.size rfl _ _ F0 _ Try.underlying23 rfl 4 bu_info rfl ?_)
  refine (CK _).mono ?_
  rintro e w1 ⟨rfl, z⟩
  have F1 := F0.below z F0.lt
  have G1 := G0.below z G0.lt
  have b1 := b0.trans (z.mono b0.size)
  clear F0 G0 b0 z CK
  by_cases hk0 : k = 0
  rotate_left
  · obtain ⟨rfl, rfl, rfl⟩ := HK.out hk0
    clear HK HQ HB HS HE HL H0 HG HX
    go_wp2_with (refine blk_store _ rfl 23 _ _ rfl (w.heap.size + 1) (BC 0 0 0 0) rfl rfl _ _ G1 4 bu_info rfl rfl (bu_one z0) ?_; intro W3 K3 p3)
    exact blk_ret3 rfl rfl (w.heap.size + 1) (BC 0 0 0 0) 23 rfl K3 _ Try.underlying23 rfl 4 bu_info rfl ⟨_, rfl, Own.nil _ _ _, p3.below b1 (by omega)⟩
  subst hk0
  by_cases hm5 : 500 < m
  · obtain ⟨rfl, rfl, rfl⟩ := HQ.out rfl hm5
    clear HK HQ HB HS HE HL H0 HG HX
    have hm6 : (500 : Int) < (m : Int) := by omega
    go_wp2_with (refine blk_store _ rfl 23 _ _ rfl (w.heap.size + 1) (BC 0 0 0 0) rfl rfl _ _ G1 4 bu_info rfl rfl (bu_one z0) ?_; intro W3 K3 p3)
    exact blk_ret3 rfl rfl (w.heap.size + 1) (BC 0 0 0 0) 23 rfl K3 _ Try.underlying23 rfl 4 bu_info rfl ⟨_, rfl, Own.nil _ _ _, p3.below b1 (by omega)⟩
  have hm6 : ¬ (500 : Int) < (m : Int) := by omega
  have hm7 : m ≤ 500 := by omega
  clear HK HQ
  go_wp2_with fail
  go_loopw [8, 26] (fun s8 sI wr => ∃ (i : Nat) (v8 : Value), sI = .int .i64 (i : Int) ∧ v8 = s8 ∧ i ≤ m ∧ Hid (er b (l.take i) = 0) ∧ Own BK wr (w.heap.size + 2) v8 (td b (l.take i)) ∧ Blk wr w.heap.size (Bu.cells (st b (l.take i))) 23 ∧ Blk wr (w.heap.size + 1) (BC 0 0 0 0) 23 ∧ Below w.heap.size w wr) (fun _ s _ => m - (intOf s).toNat)
  case atStart => exact ⟨0, _, rfl, rfl, Nat.zero_le _, H0.out.1, by rw [H0.out.2.2]; exact Own.nil _ _ _, by rw [H0.out.2.1]; exact F1, G1, b1⟩
  case round =>
    obtain ⟨i, v8, rfl, rfl, hi, HR, O, F2, G2, b2⟩ := hrel
    have sz2 : w.heap.size + 2 ≤ wr.heap.size := G2.lt
    by_cases hlt : i < m
    · have hlt' : (i : Int) < (m : Int) := by omega
      obtain ⟨d, gd⟩ := HG.out i hlt
      obtain ⟨bb, off, rfl, hbb, hx⟩ := HX.out wr b2 (by omega)
      have hl := HL.out i
      have HS1 := show Hid _ from HS.out i d gd HR.out
      have HB1 := show Hid _ from HB.out i d (by trivial) hm7 gd HR.out
      have Z := Blk.new wr #[.int .i64 0, .int .i64 0] 40
      have dA := (Below.refl wr.heap.size wr).alloc (Nat.le_refl _) (.cells #[.int .i64 0, .int .i64 0] 40)
      clear HG HX HL HS HE HB H0 HR
      generalize st b (l.take i) = s at *
      generalize td b (l.take i) = g at *
      have CT1 := fun W => CT s d.a d.n W
      clear CT
      generalize tk s d.a d.n = T at *
      generalize pas s d.a d.n = p at *
      generalize terr s d.a d.n = q at *
      obtain ⟨da, dn⟩ := d
      dsimp only at CT1
      go_upto_region 10 with (first
        | (refine rd_load DK _ rfl _ rfl bb off l hx i _ rfl rfl _ gd (Dp.cells ⟨da, dn⟩) rfl _ Try.underlying40 rfl ?_)
        | (refine blk_store _ rfl 40 _ _ rfl wr.heap.size (Dp.cells ⟨da, dn⟩) rfl rfl _ _ Z 2 dp_info rfl rfl (dp_one ⟨da, dn⟩) ?_; intro W3 k3 p3))
      have d3 := p3.below dA (Nat.le_refl _)
      have O3 := O.kept d3
      have F3 := F2.below d3 F2.lt
      have G3 := G2.below d3 G2.lt
      have b3 := b2.trans (d3.mono (by omega))
      have ck3 := k3.cell
      have sz3 := d3.size
      clear Z dA hx p3 O F2 G2 b2 gd
      go_wp2_with (refine blk_load _ rfl 23 _ rfl w.heap.size rfl _ _ F3 _ Try.underlying23 rfl 4 bu_info rfl ?_)
      refine (CT1 _).mono ?_
      rintro e w4 ⟨rfl, z4⟩
      have O4 := O3.kept z4
      have F4 := F3.below z4 F3.lt
      have G4 := G3.below z4 G3.lt
      have b4 := b3.trans (z4.mono (by omega))
      have sz4 := z4.size
      clear ck3 k3 O3 F3 G3 b3 CT1 d3 z4
      have Z5 := Blk.new w4 (BC 0 0 0 0) 23
      have d5 := (Below.refl w4.heap.size w4).alloc (Nat.le_refl _) (.cells (BC 0 0 0 0) 23)
      go_upto_region 11 with (refine blk_store _ rfl 23 _ _ rfl w4.heap.size (Bu.cells T) rfl rfl _ _ Z5 4 bu_info rfl rfl (bu_one T) ?_; intro W5 K5 p5)
      have d6 := p5.below d5 (Nat.le_refl _)
      have O5 := O4.kept d6
      have F5 := F4.below d6 F4.lt
      have G5 := G4.below d6 G4.lt
      have b5 := b4.trans (d6.mono (by omega))
      have sz5 : w4.heap.size < W5.heap.size := K5.lt
      have hne5 : v8.ownBlock ≠ some w4.heap.size := own_old O4 (Nat.le_refl _)
      clear F4 G4 b4 O4 p5 Z5 d5 d6
      by_cases hq : q = 0
      · subst hq
        obtain ⟨s1, s2, s3⟩ := HS1.out
        have hs1 : Hid (er b (l.take (i + 1)) = 0) := s1
        have hs2 : Hid (st b (l.take (i + 1)) = T) := s2
        have hs3 : Hid (td b (l.take (i + 1)) = g ++ [p]) := s3
        clear HS1 HB1 s1 s2 s3
        go_upto_region 13 with fail
        have q1 : g.length + 1 ≤ maxLen := by unfold maxLen; omega
        have q2 : (g.length + 1) * BK.by_ ≤ 140737488355328 := by show (g.length + 1) * 1 ≤ _; omega
        obtain ⟨tr, tm, th, ta⟩ := T
        have K5 : Blk W5 w4.heap.size (BC tr tm th ta) 23 := K5
        have F5 : Blk W5 w.heap.size (BC s.r s.m s.h s.a) 23 := F5
        have ck5 := K5.cell
        have ck6 := (K5.alloc (.cells #[.bool p] 4)).cell
        go_region_law (first
          | (refine step_one BK rfl (.tmp 45) (.tmp 47) rfl (w.heap.size + 2) v8 g (by simp [Act.eval]) (O5.alloc _) W5.heap.size 1 p 4 (by simp [Act.eval]) (Blk.new W5 _ _) q1 q2 (by first | (simp; done) | (simp; omega)) ?_; intro v7 w7 o7 l7 g7; have b7 : Below w.heap.size w w7 := (by first | exact (b5.alloc b5.size (.cells #[.bool p] 4)).trans (l7.mono (by omega)) | exact (b5.alloc b5.size (.cells #[.bool p] 4)).drew.trans (l7.mono (by omega))); have R7 := Own.rd o7; obtain ⟨sa7, sc7, e7⟩ := R7.form; rw [show (g ++ [p]).length = g.length + 1 by simp] at e7; subst e7; have F7 := Blk.below (W := (W5.alloc (.cells #[.bool p] 4)).drew) (F5.alloc (.cells #[.bool p] 4)) l7 (by omega); have G7 := Blk.below (W := (W5.alloc (.cells #[.bool p] 4)).drew) (G5.alloc (.cells #[.bool p] 4)) l7 (by omega); have K7 := grown_blk (w := (W5.alloc (.cells #[.bool p] 4)).drew) g7 (K5.alloc (.cells #[.bool p] 4)) hne5; have ck7 := K7.cell; have cF7 := F7.cell; have fF7 := F7.free))
        all_goals
          have F8 := blk4 F7 tr tm th ta
          have u8 := but4 w7 w.heap.size tr tm th ta
          have O8 := o7.but u8 (own_ne (g := w.heap.size) o7 (by omega))
          have G8 := u8.blk G7 (by omega)
          have b8 := u8.below b7 (Nat.le_refl _)
          clear F7 G7 K7 b7 ck5 ck6 ck7 cF7 fF7 R7 o7 l7 u8 F5 G5 b5 O5 K5
          go_wp2_with fail
          go_roundw
          case rel => exact ⟨i + 1, _, by go_num, rfl, by omega, hs1, by rw [hs3.out]; exact O8, by rw [hs2.out]; exact F8, G8, b8⟩
          case measure => simp [intOf]; omega
      · obtain ⟨rfl, rfl, rfl⟩ := HB1.out hq
        clear HB1 HS1
        go_wp2_with (refine blk_store _ rfl 23 _ _ rfl (w.heap.size + 1) (BC 0 0 0 0) rfl rfl _ _ G5 4 bu_info rfl rfl (bu_one z0) ?_; intro W6 K6 p6)
        exact blk_ret3 rfl rfl (w.heap.size + 1) (BC 0 0 0 0) 23 rfl K6 _ Try.underlying23 rfl 4 bu_info rfl ⟨_, rfl, Own.nil _ _ _, p6.below b5 (by omega)⟩
    · have hlt' : ¬ (i : Int) < (m : Int) := by omega
      have ei : i = m := by omega
      obtain ⟨rfl, rfl, rfl⟩ := HE.out i (by trivial) hm7 ei HR.out
      clear HG HX HL HS HE HB H0 HR ei
      go_wp2_with (first
        | (refine blk_load _ rfl 23 _ rfl w.heap.size rfl _ _ F2 _ Try.underlying23 rfl 4 bu_info rfl ?_)
        | (refine blk_store _ rfl 23 _ _ rfl (w.heap.size + 1) (Bu.cells (st b (l.take i))) rfl rfl _ _ G2 4 bu_info rfl rfl (bu_one _) ?_; intro W4 K4 p4))
      exact blk_ret3 rfl rfl (w.heap.size + 1) (Bu.cells (st b (l.take i))) 23 rfl K4 _ Try.underlying23 rfl 4 bu_info rfl ⟨_, rfl, (O.but p4 (own_ne (g := w.heap.size + 1) O (by omega))).mono (B' := w.heap.size) (by omega), p4.below b2 (by omega)⟩
end Go.Proofs.Ytfigjgefnmkkiaa.bkt
