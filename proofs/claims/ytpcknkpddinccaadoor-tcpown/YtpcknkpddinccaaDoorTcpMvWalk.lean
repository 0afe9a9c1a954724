/- What tcp.Move answers: a segment of its own, and that it changes nothing that was there. -/
import Derived.Test.YtpcknkpddinccaaDoorTcpMove
namespace Go.Proofs.YtpcknkpddinccaaDoor.tcw
open Go.ChangeShapes Go.WideShapes Go.ChangeAt Go.RowKit Go.BigFrame
open Go.Proofs.YtpcknkpddinccaaDoor Go.Proofs.YtpcknkpddinccaaDoor.EM Go.Proofs.YtpcknkpddinccaaDoor.ethb Go.Proofs.YtpcknkpddinccaaDoor.SM Go.Proofs.YtpcknkpddinccaaDoor.ipb Go.Proofs.YtpcknkpddinccaaDoor.boxes Go.Proofs.YtpcknkpddinccaaDoor.wds Go.Proofs.YtpcknkpddinccaaDoor.tcb Go.Proofs.YtpcknkpddinccaaDoor.tci Go.Proofs.YtpcknkpddinccaaDoor.tcv Go.Proofs.YtpcknkpddinccaaDoor.rwr Go.Proofs.YtpcknkpddinccaaDoor.tcm
open Go.Proofs.YtpcknkpddinccaaDoor.sumw (Qd Qd.refl Qd.drewN Qd.trans)
open Go.Proofs.YtpcknkpddinccaaDoor.rws (Knd Own)

theorem own_ge {α : Type} {K : Knd α} {w : World} {B : Nat} {v : Value} {l : List α} (h : Own K w B v l) (b : Nat) (hb : b < B) : v.ownBlock ≠ some b := by
  intro e
  have := (World.ownsRow.lt h b e).1
  omega
/-- the options, so many of them moved -/
def mvk (b : Int) (os : List Opt) (k : Nat) : List Opt := (os.take k).map (mvo b) ++ os.drop k
theorem mvk_len (b : Int) (os : List Opt) (k : Nat) : (mvk b os k).length = os.length := by simp [mvk]; omega
theorem mvk_at (b : Int) (os : List Opt) (k : Nat) (o : Opt) (h : os[k]? = some o) : (mvk b os k)[k]? = some o := by
  have hk := (List.getElem?_eq_some_iff.1 h).1
  unfold mvk
  rw [List.getElem?_append_right (by simp; omega)]
  simp
  rw [show k - min k os.length = 0 by omega, Nat.add_zero]
  exact h
theorem mvk_set (b : Int) (os : List Opt) (k : Nat) (o : Opt) (h : os[k]? = some o) : (mvk b os k).set k (mvo b o) = mvk b os (k + 1) := by
  obtain ⟨hk, ho⟩ := List.getElem?_eq_some_iff.1 h
  unfold mvk
  have hl : ((os.take k).map (mvo b)).length = k := by simp; omega
  rw [List.set_append_right _ _ (by omega), hl, Nat.sub_self, List.drop_eq_getElem_cons hk, List.set_cons_zero, List.take_succ_eq_append_getElem hk, List.map_append, ho]
  simp
theorem mvk_same (b : Int) (os : List Opt) (k : Nat) (o : Opt) (h : os[k]? = some o) (hs : mvo b o = o) : mvk b os k = mvk b os (k + 1) := by
  rw [← mvk_set b os k o h, hs]
  apply List.ext_getElem?
  intro j
  rw [List.getElem?_set]
  split
  · rename_i e; subst e
    rw [mvk_at b os k o h, if_pos]
    rw [mvk_len]; exact (List.getElem?_eq_some_iff.1 h).1
  · rfl
theorem mvk_zero (b : Int) (os : List Opt) : mvk b os 0 = os := by simp [mvk]
theorem mvk_all (b : Int) (os : List Opt) : mvk b os os.length = os.map (mvo b) := by simp [mvk]
set_option maxRecDepth 20000 in
set_option maxHeartbeats 4000000 in
theorem move_any (h : Sh) (v : Value) (os : List Opt) (a b : Int) (w : World) (hr : Rd OK w v os) (hb : os.length * 24 ≤ 140737488355328) (hz : ∀ o ∈ os, o.d.size ≤ 140737488351232) :
    Calls Tryd.prog 14 #[.agg (h.cells v), .int .u32 a, .int .u32 b] w fun e w' => ∃ v', e = .returned (.agg ((mvh h a b).cells v')) ∧ Own OK w' w.heap.size v' (mvs h os b) ∧ Below w.heap.size w w' := by
  obtain ⟨sa, sc, rfl⟩ := hr.form
  have hm : os.length ≤ maxLen := by unfold maxLen; omega
  obtain ⟨x, X⟩ : ∃ x, x = (h.sq + a) % 4294967296 := ⟨_, rfl⟩
  have F1 : Blk ((w.alloc (.cells (Sh.cells { h with sq := x } (.slice sa os.length sc)) 25)).alloc (.cells (zeroS.cells (.slice none 0 0)) 25)) w.heap.size (Sh.cells { h with sq := x } (.slice sa os.length sc)) 25 := (Blk.new _ _ _).alloc _
  have Z1 : Blk ((w.alloc (.cells (Sh.cells { h with sq := x } (.slice sa os.length sc)) 25)).alloc (.cells (zeroS.cells (.slice none 0 0)) 25)) (w.heap.size + 1) (zeroS.cells (.slice none 0 0)) 25 := Blk.newAt _ _ _ (by simp)
  have b1 := ((Below.refl w.heap.size w).alloc (Nat.le_refl _) (.cells (Sh.cells { h with sq := x } (.slice sa os.length sc)) 25)).alloc (by simp) (.cells (zeroS.cells (.slice none 0 0)) 25)
  have r1 := hr.below b1
  have em : mvh h a b = if noAck h then { h with sq := x } else { h with sq := x, ak := (h.ak + b) % 4294967296 } := by
    rw [X]; unfold mvh; split <;> rfl
  have HX : Hid (x = (h.sq + a) % 4294967296) := X
  have EM : Hid (mvh h a b = _) := em
  have ES : Hid (mvs h os b = if noAck h then os else os.map (mvo b)) := (rfl : _ = _)
  obtain ⟨R, eR⟩ : ∃ R, R = mvh h a b := ⟨_, rfl⟩
  obtain ⟨S, eS⟩ : ∃ S, S = mvs h os b := ⟨_, rfl⟩
  rw [← eR] at EM ⊢
  rw [← eS] at ES ⊢
  clear em eR eS X
  go_enter Tryd.func14, Tryd.ntmps14
  go_upto_region 2 with fail
  rw [← HX.out]
  go_wp2_with (at_builtin; refine app_rd OK _ rfl _ _ rfl (w.heap.size + 2) _ [] rfl (Own.nil _ _ _) (.slice sa os.length sc) os rfl r1 (by simpa using hm) (by show ([].length + os.length) * 24 ≤ _; simpa using hb) (by simp) ?_)
  intro v4 W4 O4 c4 _
  obtain ⟨sa4, sc4, rfl⟩ := (Own.rd O4).form
  have F4 := F1.below c4 (by omega)
  have Z4 := Z1.below c4 (by omega)
  have b4 := b1.trans (c4.mono (by omega))
  have cf := F4.cell
  have ff := F4.free
  clear F1 Z1 b1 r1 c4 hr
  obtain ⟨n, N⟩ : ∃ n, n = os.length := ⟨_, rfl⟩
  have HN : Hid (n = os.length) := N
  have nb : n ≤ 9223372036854775807 := by unfold maxLen at hm; omega
  rw [← N] at O4 F4 hb ⊢
  clear N
  have F5 : Blk (W4.setCell ⟨w.heap.size, 7, none⟩ (.slice sa4 n sc4)) w.heap.size (Sh.cells { h with sq := x } (.slice sa4 n sc4)) 25 := F4.setCell 7 _
  have Z5 := (but_setCell W4 w.heap.size 7 (.slice sa4 n sc4)).blk Z4 (by omega)
  have O5 : Own OK (W4.setCell ⟨w.heap.size, 7, none⟩ (.slice sa4 n sc4)) (w.heap.size + 2) (.slice sa4 n sc4) os := O4.setCell (i := 7) (own_ge O4 w.heap.size (by omega))
  have b5 := b4.setCell (p := ⟨w.heap.size, 7, none⟩) (Nat.le_refl _) (.slice sa4 n sc4)
  go_upto_region 3 with fail
  generalize W4.setCell ⟨w.heap.size, 7, none⟩ (.slice sa4 n sc4) = W5 at *
  clear F4 Z4 O4 b4 cf ff
  have cf := F5.cell
  have ff := F5.free
  by_cases na : noAck h
  · have na' : (bits .and .i64 h.fl 16 == 0) = true := by unfold noAck at na; simpa using na
    have ER : Hid (R = { h with sq := x }) := by show _ = _; rw [EM.out, if_pos na]
    have ET : Hid (S = os) := by show _ = _; rw [ES.out, if_pos na]
    clear EM ES HX
    go_wp2_with (first
      | refine blk_load _ rfl 25 _ rfl w.heap.size rfl _ _ F5 _ Tryd.underlying25 rfl 9 sg_info rfl ?_
      | (refine blk_store _ rfl 25 _ _ rfl (w.heap.size + 1) (Sh.cells { h with sq := x } (.slice sa4 n sc4)) rfl rfl _ _ Z5 9 sg_info rfl rfl (sg_one _ _ _ _) ?_; intro W6 k6 u6))
    have O6 := O5.but u6 (own_ge O5 _ (by omega))
    exact blk_ret1 rfl rfl _ _ _ rfl k6 _ Tryd.underlying25 rfl 9 sg_info rfl ⟨_, by rw [ER.out], by rw [ET.out]; exact O6.mono (by omega), u6.below b5 (by omega)⟩
  · have na' : (bits .and .i64 h.fl 16 == 0) = false := by unfold noAck at na; simpa using na
    obtain ⟨y, Y⟩ : ∃ y, y = (h.ak + b) % 4294967296 := ⟨_, rfl⟩
    have ER : Hid (R = { h with sq := x, ak := y }) := by show _ = _; rw [EM.out, if_neg na, Y]
    have ET : Hid (S = os.map (mvo b)) := by show _ = _; rw [ES.out, if_neg na]
    have HY : Hid (y = (h.ak + b) % 4294967296) := Y
    clear EM ES HX Y
    have F6 : Blk (W5.setCell ⟨w.heap.size, 3, none⟩ (.int .u32 y)) w.heap.size (Sh.cells { h with sq := x, ak := y } (.slice sa4 n sc4)) 25 := F5.setCell 3 _
    have Z6 := (but_setCell W5 w.heap.size 3 (.int .u32 y)).blk Z5 (by omega)
    have O6 : Own OK (W5.setCell ⟨w.heap.size, 3, none⟩ (.int .u32 y)) (w.heap.size + 2) (.slice sa4 n sc4) os := O5.setCell (i := 3) (own_ge O5 w.heap.size (by omega))
    have b6 := b5.setCell (p := ⟨w.heap.size, 3, none⟩) (Nat.le_refl _) (.int .u32 y)
    go_upto_region 6 with fail
    rw [← HY.out]
    generalize W5.setCell ⟨w.heap.size, 3, none⟩ (.int .u32 y) = W6 at *
    clear F5 Z5 O5 b5 cf ff
    have cf := F6.cell
    go_wp2_with fail
    have HZ : Hid (∀ o ∈ os, o.d.size ≤ 140737488351232) := hz
    clear hz hb hm na na'
    go_loopw [31] (fun i wr => ∃ k : Nat, i = .int .i64 (k : Int) ∧ k ≤ n ∧ Own OK wr (w.heap.size + 2) (.slice sa4 n sc4) (mvk b os k) ∧ Blk wr w.heap.size (Sh.cells { h with sq := x, ak := y } (.slice sa4 n sc4)) 25 ∧ Blk wr (w.heap.size + 1) (zeroS.cells (.slice none 0 0)) 25 ∧ Below w.heap.size w wr) (fun i _ => n - (intOf i).toNat)
    case atStart => exact ⟨0, rfl, Nat.zero_le _, by rw [mvk_zero]; exact O6, F6, Z6, b6⟩
    case round =>
      obtain ⟨k, rfl, hk, own, F, Z, bel⟩ := hrel
      clear O6 F6 Z6 b6 cf
      by_cases hlt : k < n
      · have hN := HN.out
        obtain ⟨o, ho⟩ : ∃ o, os[k]? = some o := ⟨os[k]'(by omega), List.getElem?_eq_getElem _⟩
        have oz := HZ.out o (List.mem_of_getElem? ho)
        have hat := mvk_at b os k o ho
        have hst := mvk_set b os k o ho
        have hsm := mvk_same b os k o ho
        obtain ⟨g, cap, e, gB, gl, _, _, _⟩ := own.form (by rw [mvk_len]; omega)
        simp only [Value.slice.injEq] at e
        obtain ⟨rfl, hnn, rfl⟩ := e
        clear hnn
        have HS : Hid (mvo b o = o → mvk b os k = mvk b os (k + 1)) := hsm
        have HT : Hid ((mvk b os k).set k (mvo b o) = mvk b os (k + 1)) := hst
        have MO : Hid (mvo b o = if o.ki = 5 ∧ o.d.size % 8 = 0 then ⟨5, ⟨(lmv b o.d.data.toList).toArray⟩⟩ else o) := (rfl : _ = _)
        have hlt' : (k : Int) < (n : Int) := by omega
        have zB := bel.size
        obtain ⟨ki, d⟩ := o
        clear hsm hst hN
        have F2 := F.alloc (.cells (Opt.cells ⟨ki, d⟩) 40)
        have Z2 := Z.alloc (.cells (Opt.cells ⟨ki, d⟩) 40)
        have own2 := own.alloc (.cells (Opt.cells ⟨ki, d⟩) 40)
        have bel2 := bel.alloc zB (.cells (Opt.cells ⟨ki, d⟩) 40)
        have D2 := Blk.new wr (Opt.cells ⟨ki, d⟩) 40
        have E2 : wr.heap.size < (wr.alloc (.cells (Opt.cells ⟨ki, d⟩) 40)).heap.size := D2.lt
        go_upto_region 9 with (refine rws.elem_load OK _ rfl _ rfl (w.heap.size + 2) g n sc4 _ own k _ rfl rfl _ hat (Opt.cells ⟨ki, d⟩) rfl _ Tryd.underlying40 rfl ?_)
        by_cases k5 : ki = 5 ∧ d.size % 8 = 0
        case neg =>
          have same := HS.out (by rw [MO.out, if_neg k5])
          have own3 : Own OK (wr.alloc (.cells (Opt.cells ⟨ki, d⟩) 40)) (w.heap.size + 2) (.slice (some ⟨g, 0, none⟩) n sc4) (mvk b os (k + 1)) := by rw [← same]; exact own2
          clear HS HT MO own own2 hat same
          by_cases k5' : ki = 5
          · have d8 : ((d.size : Int) % 8 == 0) = false := by simp; omega
            subst k5'
            clear k5
            go_wp2_with fail
            go_roundw
            case rel => exact ⟨k + 1, by go_num, by omega, own3, F2, Z2, bel2⟩
            case measure => simp [intOf]; omega
          · have k6 : (ki == 5) = false := by simpa using k5'
            clear k5 k5'
            go_wp2_with fail
            go_roundw
            case rel => exact ⟨k + 1, by go_num, by omega, own3, F2, Z2, bel2⟩
            case measure => simp [intOf]; omega
        case pos =>
          obtain ⟨rfl, d8⟩ := k5
          have C := fun u => moveLongs_any d b u oz (by omega)
          have own3 := fun (W : World) (hW : Own OK W (w.heap.size + 2) (.slice (some ⟨g, 0, none⟩) n sc4) (mvk b os k)) => Own.put hW k 1 ⟨5, d⟩ ⟨5, ⟨(lmv b d.data.toList).toArray⟩⟩ (.string ⟨(lmv b d.data.toList).toArray⟩) hat (by decide) rfl
          have et := HT.out
          rw [MO.out, if_pos ⟨rfl, d8⟩] at et
          rw [et] at own3
          have d8' : (d.size : Int) % 8 = 0 := by omega
          generalize (⟨(lmv b d.data.toList).toArray⟩ : ByteArray) = D at C own3
          clear HS HT MO own et F Z bel
          generalize wr.alloc (.cells (Opt.cells ⟨5, d⟩) 40) = V at *
          have cd := D2.cell
          go_upto_region 10 with fail
          have c2 := F2.cell
          have K0 : Below V.heap.size V V.drew := ab.Ab.drew V
          go_region_with (go_at_call 43; refine (C _).mono ?_; rintro e W ⟨rfl, Kx'⟩; have Kx : Below V.heap.size V W := (by first | exact K0.trans Kx' | exact Kx'); have cW := (F2.below Kx F2.lt).cell; have cE := (D2.below Kx D2.lt).cell; have fz : W.frozen? ⟨g, k * 2 + 1, none⟩ = false := (own3 W (own2.kept Kx)).2.1; have ce : W.cell? ⟨g, k * 2 + 1, none⟩ = some (.string d) := (own2.kept Kx).cell hat (by decide))
          all_goals
            have own4 : Own OK (W.setCell ⟨g, k * 2 + 1, none⟩ (.string D)) (w.heap.size + 2) (.slice (some ⟨g, 0, none⟩) n sc4) (mvk b os (k + 1)) := (own3 W (own2.kept Kx)).1
            have FW := (but_setCell W g (k * 2 + 1) (.string D)).blk (F2.below Kx F2.lt) (by omega)
            have ZW := (but_setCell W g (k * 2 + 1) (.string D)).blk (Z2.below Kx Z2.lt) (by omega)
            have bW := (bel2.trans (Kx.mono bel2.size)).setCell (p := ⟨g, k * 2 + 1, none⟩) (by show w.heap.size ≤ g; omega) (.string D)
            clear own3 own2 F2 Z2 bel2 Kx Kx' c2 cW cE hat C D2 cd fz ce K0
            go_wp2_with fail
            go_roundw
            case rel => exact ⟨k + 1, by go_num, by omega, own4, FW, ZW, bW⟩
            case measure => simp [intOf]; omega
      · have hN := HN.out
        have e : k = os.length := by omega
        rw [e, mvk_all] at own
        have hlt' : ¬ (k : Int) < (n : Int) := by omega
        clear e hN hlt HZ
        go_wp2_with (first
          | refine blk_load _ rfl 25 _ rfl w.heap.size rfl _ _ F _ Tryd.underlying25 rfl 9 sg_info rfl ?_
          | (refine blk_store _ rfl 25 _ _ rfl (w.heap.size + 1) (Sh.cells { h with sq := x, ak := y } (.slice sa4 n sc4)) rfl rfl _ _ Z 9 sg_info rfl rfl (sg_one _ _ _ _) ?_; intro W6 k6 u6))
        have O6 := own.but u6 (own_ge own _ (by omega))
        exact blk_ret1 rfl rfl _ _ _ rfl k6 _ Tryd.underlying25 rfl 9 sg_info rfl ⟨_, by rw [ER.out], by rw [ET.out]; exact O6.mono (by omega), u6.below bel (by omega)⟩
end Go.Proofs.YtpcknkpddinccaaDoor.tcw
