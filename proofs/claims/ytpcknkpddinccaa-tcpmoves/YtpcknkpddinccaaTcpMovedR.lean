/- What the document's own answer to Move (package custref) comes to. -/
import Derived.Test.YtpcknkpddinccaaTcpMref
namespace Go.Proofs.Ytpcknkpddinccaa.tcx
open Go.ChangeShapes Go.WideShapes Go.ChangeAt Go.RowKit Go.BigFrame
open Go.Proofs.Ytpcknkpddinccaa Go.Proofs.Ytpcknkpddinccaa.EM Go.Proofs.Ytpcknkpddinccaa.ethb Go.Proofs.Ytpcknkpddinccaa.SM Go.Proofs.Ytpcknkpddinccaa.ipb Go.Proofs.Ytpcknkpddinccaa.boxes Go.Proofs.Ytpcknkpddinccaa.wds Go.Proofs.Ytpcknkpddinccaa.tcb Go.Proofs.Ytpcknkpddinccaa.tci Go.Proofs.Ytpcknkpddinccaa.tcv Go.Proofs.Ytpcknkpddinccaa.rwr Go.Proofs.Ytpcknkpddinccaa.tcm Go.Proofs.Ytpcknkpddinccaa.tcw Go.Proofs.Ytpcknkpddinccaa.tcr
open Go.Proofs.Ytpcknkpddinccaa.rws (Knd Own app_one)
open Go.Proofs.Ytpcknkpddinccaa.ipm (bytes_ext ext_list size_list)

theorem own_fresh {α : Type} {K : Knd α} {w : World} {B : Nat} {v : Value} {l : List α} (h : Own K w B v l) : v.ownBlock ≠ some w.heap.size := by
  intro e
  have := (World.ownsRow.lt h _ e).2
  omega
/-- how long a text is -/
def zs : Value → Nat
  | .string x => x.size
  | _ => 0
set_option maxRecDepth 20000 in
set_option maxHeartbeats 4000000 in
theorem moved_any (h : Sh) (v : Value) (os : List Opt) (a b : Int) (w : World) (ha : h.Adr) (a0 : 0 ≤ a) (a1 : a ≤ 4294967295) (b0 : 0 ≤ b) (b1 : b ≤ 4294967295) (hr : Rd OK w v os) (hb : os.length * 24 ≤ 140737488351232) (hz : ∀ o ∈ os, o.d.size ≤ 140737488351232) :
    Calls Try.prog 8 #[.agg (h.cells v), .int .u32 a, .int .u32 b] w fun e w' => ∃ v', e = .returned (.agg ((mvh h a b).cells v')) ∧ Rd OK w' v' (mvs h os b) ∧ Below w.heap.size w w' := by
  obtain ⟨sa, sc, rfl⟩ := hr.form
  have hm : os.length ≤ maxLen := by unfold maxLen; omega
  have s0 := ha.s0
  have s1 := ha.s1
  have k0 := ha.a0
  have k1 := ha.a1
  have P1 := fun u => plus_any h.sq a u s0 s1 a0 a1
  have P2 := fun u => plus_any h.ak b u k0 k1 b0 b1
  obtain ⟨x, X⟩ : ∃ x, x = (h.sq + a) % 4294967296 := ⟨_, rfl⟩
  obtain ⟨y, Y⟩ : ∃ y, y = (h.ak + b) % 4294967296 := ⟨_, rfl⟩
  rw [← X] at P1
  rw [← Y] at P2
  have em : mvh h a b = if noAck h then { h with sq := x } else { h with sq := x, ak := y } := by
    rw [X, Y]; unfold mvh; split <;> rfl
  have EM : Hid (mvh h a b = _) := em
  have ES : Hid (mvs h os b = if noAck h then os else os.map (mvo b)) := (rfl : _ = _)
  obtain ⟨R, eR⟩ : ∃ R, R = mvh h a b := ⟨_, rfl⟩
  obtain ⟨S, eS⟩ : ∃ S, S = mvs h os b := ⟨_, rfl⟩
  rw [← eR] at EM ⊢
  rw [← eS] at ES ⊢
  clear em eR eS X Y ha s0 s1 k0 k1
  have F1 : Blk ((w.alloc (.cells (Sh.cells { h with sq := x } (.slice sa os.length sc)) 25)).alloc (.cells (zeroS.cells (.slice none 0 0)) 25)) w.heap.size (Sh.cells { h with sq := x } (.slice sa os.length sc)) 25 := (Blk.new _ _ _).alloc _
  have Z1 : Blk ((w.alloc (.cells (Sh.cells { h with sq := x } (.slice sa os.length sc)) 25)).alloc (.cells (zeroS.cells (.slice none 0 0)) 25)) (w.heap.size + 1) (zeroS.cells (.slice none 0 0)) 25 := Blk.newAt _ _ _ (by simp)
  have c1 := ((Below.refl w.heap.size w).alloc (Nat.le_refl _) (.cells (Sh.cells { h with sq := x } (.slice sa os.length sc)) 25)).alloc (by simp) (.cells (zeroS.cells (.slice none 0 0)) 25)
  go_enter Try.func8, Try.ntmps8
  go_wp2_with fail
  refine (P1 _).mono ?_
  rintro e w1 ⟨rfl, rfl⟩
  clear P1
  go_upto_region 2 with fail
  by_cases na : noAck h
  · have na' : (bits .and .i64 h.fl 16 == 0) = true := by unfold noAck at na; simpa using na
    have ER : Hid (R = { h with sq := x }) := by show _ = _; rw [EM.out, if_pos na]
    have ET : Hid (S = os) := by show _ = _; rw [ES.out, if_pos na]
    clear EM ES P2
    go_wp2_with (first
      | refine blk_load _ rfl 25 _ rfl w.heap.size rfl _ _ F1 _ Try.underlying25 rfl 9 sg_info rfl ?_
      | (refine blk_store _ rfl 25 _ _ rfl (w.heap.size + 1) (Sh.cells { h with sq := x } (.slice sa os.length sc)) rfl rfl _ _ Z1 9 sg_info rfl rfl (sg_one _ _ _ _) ?_; intro W6 k6 u6))
    have b6 := u6.below c1 (by omega)
    exact blk_ret1 rfl rfl _ _ _ rfl k6 _ Try.underlying25 rfl 9 sg_info rfl ⟨_, by rw [ER.out], by rw [ET.out]; exact hr.below b6, b6⟩
  · have na' : (bits .and .i64 h.fl 16 == 0) = false := by unfold noAck at na; simpa using na
    have ER : Hid (R = { h with sq := x, ak := y }) := by show _ = _; rw [EM.out, if_neg na]
    have ET : Hid (S = os.map (mvo b)) := by show _ = _; rw [ES.out, if_neg na]
    clear EM ES
    have F2 : Blk ((w.alloc (.cells (Sh.cells { h with sq := x, ak := y } (.slice sa os.length sc)) 25)).alloc (.cells (zeroS.cells (.slice none 0 0)) 25)) w.heap.size (Sh.cells { h with sq := x, ak := y } (.slice sa os.length sc)) 25 := (Blk.new _ _ _).alloc _
    have Z2 : Blk ((w.alloc (.cells (Sh.cells { h with sq := x, ak := y } (.slice sa os.length sc)) 25)).alloc (.cells (zeroS.cells (.slice none 0 0)) 25)) (w.heap.size + 1) (zeroS.cells (.slice none 0 0)) 25 := Blk.newAt _ _ _ (by simp)
    have c2 := ((Below.refl w.heap.size w).alloc (Nat.le_refl _) (.cells (Sh.cells { h with sq := x, ak := y } (.slice sa os.length sc)) 25)).alloc (by simp) (.cells (zeroS.cells (.slice none 0 0)) 25)
    go_wp2_with fail
    refine (P2 _).mono ?_
    rintro e w1 ⟨rfl, rfl⟩
    clear P2 F1 Z1 c1
    go_upto_region 6 with fail
    change Code.wp _ _ _ _ ((w.alloc (.cells (Sh.cells { h with sq := x, ak := y } (.slice sa os.length sc)) 25)).alloc (.cells (zeroS.cells (.slice none 0 0)) 25))
    generalize (w.alloc (.cells (Sh.cells { h with sq := x, ak := y } (.slice sa os.length sc)) 25)).alloc (.cells (zeroS.cells (.slice none 0 0)) 25) = W2 at *
    obtain ⟨n, N⟩ : ∃ n, n = os.length := ⟨_, rfl⟩
    have HN : Hid (n = os.length) := N
    have nb : n ≤ 5864062014635 := by omega
    have HR : Hid (Rd OK w (.slice sa os.length sc) os) := hr
    rw [← N] at F2 HR ⊢
    have cf := F2.cell
    have HZ : Hid (∀ o ∈ os, o.d.size ≤ 140737488351232) := hz
    clear hz hb hm na na' N hr
    go_wp2_with fail
    go_loopw [7, 30] (fun l i wr => ∃ k : Nat, i = .int .i64 (k : Int) ∧ k ≤ n ∧ Own OK wr (w.heap.size + 2) l ((os.take k).map (mvo b)) ∧ Blk wr w.heap.size (Sh.cells { h with sq := x, ak := y } (.slice sa n sc)) 25 ∧ Blk wr (w.heap.size + 1) (zeroS.cells (.slice none 0 0)) 25 ∧ Below w.heap.size w wr) (fun _ i _ => n - (intOf i).toNat)
    case atStart => exact ⟨0, rfl, Nat.zero_le _, by simpa using Own.nil OK W2 _, F2, Z2, c2⟩
    case round =>
      obtain ⟨k, rfl, hk, own, F, Z, bel⟩ := hrel
      clear F2 Z2 c2 cf
      have zB : w.heap.size + 1 < wr.heap.size := Z.lt
      by_cases hlt : k < n
      · have hN := HN.out
        obtain ⟨o, ho⟩ : ∃ o, os[k]? = some o := ⟨os[k]'(by omega), List.getElem?_eq_getElem _⟩
        have oz := HZ.out o (List.mem_of_getElem? ho)
        have st : Hid ((os.take (k + 1)).map (mvo b) = (os.take k).map (mvo b) ++ [mvo b o]) := by
          show _ = _
          have := (List.getElem?_eq_some_iff.1 ho).2
          rw [List.take_succ_eq_append_getElem (by omega), List.map_append, this]; rfl
        have lk : ((os.take k).map (mvo b)).length = k := by simp; omega
        obtain ⟨bb, off, sc', e, hbb, _, hc⟩ := rd_at HR.out (by omega)
        simp only [Value.slice.injEq] at e
        obtain ⟨rfl, hnn, rfl⟩ := e
        clear hnn
        have hc' : ∀ (j : Nat) x, os[j]? = some x → ∀ i, i < OK.k → wr.cell? ⟨bb, off + j * OK.k + i, none⟩ = (OK.enc x)[i]? := fun j x hx i hi => (bel.cell (p := ⟨bb, off + j * OK.k + i, none⟩) hbb).trans (hc j x hx i hi)
        have MO : Hid (mvo b o = if o.ki = 5 ∧ o.d.size % 8 = 0 then ⟨5, ⟨(lmv b o.d.data.toList).toArray⟩⟩ else o) := (rfl : _ = _)
        have hlt' : (k : Int) < (n : Int) := by omega
        obtain ⟨ki, d⟩ := o
        clear hN hc
        have F3 := F.alloc (.cells (Opt.cells ⟨ki, d⟩) 32)
        have Z3 := Z.alloc (.cells (Opt.cells ⟨ki, d⟩) 32)
        have own3 := own.alloc (.cells (Opt.cells ⟨ki, d⟩) 32)
        have bel3 := bel.alloc (by omega) (.cells (Opt.cells ⟨ki, d⟩) 32)
        have D3 := Blk.new wr (Opt.cells ⟨ki, d⟩) 32
        obtain ⟨q, Q⟩ : ∃ q, q = wr.heap.size := ⟨_, rfl⟩
        have oq := own_fresh own
        go_upto_region 9 with (refine rd_load OK _ rfl _ rfl bb off os hc' k _ rfl rfl _ ho (Opt.cells ⟨ki, d⟩) rfl _ Try.underlying32 rfl ?_)
        change Code.wp _ _ _ _ (wr.alloc (.cells (Opt.cells ⟨ki, d⟩) 32))
        rw [← Q] at D3 oq ⊢
        have qz : w.heap.size + 2 ≤ q := by omega
        generalize wr.alloc (.cells (Opt.cells ⟨ki, d⟩) 32) = V at *
        clear own F Z bel hc' Q zB ho
        generalize (os.take k).map (mvo b) = L at *
        by_cases k5 : ki = 5 ∧ d.size % 8 = 0
        case neg =>
          have MM : Hid (mvo b ⟨ki, d⟩ = ⟨ki, d⟩) := by show _ = _; rw [MO.out, if_neg k5]
          have cd := D3.cell
          have vz := D3.lt
          by_cases k5' : ki = 5
          · have d8 : ((d.size : Int) % 8 == 0) = false := by simp; omega
            subst k5'
            clear k5 MO
            go_wp2_with (at_builtin; refine app_one OK _ rfl _ _ rfl (w.heap.size + 2) _ L rfl (own3.alloc _) V.heap.size 1 ⟨5, d⟩ _ rfl (Blk.new _ _ _) (by unfold maxLen; omega) (by show (L.length + 1) * 24 ≤ _; omega) (by simp; omega) ?_; intro v4 W4 O4 c4 _)
            have F4 := (F3.alloc _).below c4 (by omega)
            have Z4 := (Z3.alloc _).below c4 (by omega)
            have b4 := (bel3.alloc (by omega) _).trans (c4.mono (by omega))
            have O5 : Own OK W4 (w.heap.size + 2) v4 ((os.take (k + 1)).map (mvo b)) := by rw [st.out, MM.out]; exact O4
            clear F3 Z3 bel3 own3 c4 O4 cd vz st MM lk D3
            go_wp2_with fail
            go_roundw
            case rel => exact ⟨k + 1, by go_num, by omega, O5, F4, Z4, b4⟩
            case measure => simp [intOf]; omega
          · have k6 : (ki == 5) = false := by simpa using k5'
            clear k5 k5' MO
            go_wp2_with (at_builtin; refine app_one OK _ rfl _ _ rfl (w.heap.size + 2) _ L rfl (own3.alloc _) V.heap.size 1 ⟨ki, d⟩ _ rfl (Blk.new _ _ _) (by unfold maxLen; omega) (by show (L.length + 1) * 24 ≤ _; omega) (by simp; omega) ?_; intro v4 W4 O4 c4 _)
            have F4 := (F3.alloc _).below c4 (by omega)
            have Z4 := (Z3.alloc _).below c4 (by omega)
            have b4 := (bel3.alloc (by omega) _).trans (c4.mono (by omega))
            have O5 : Own OK W4 (w.heap.size + 2) v4 ((os.take (k + 1)).map (mvo b)) := by rw [st.out, MM.out]; exact O4
            clear F3 Z3 bel3 own3 c4 O4 cd vz st MM lk D3
            go_wp2_with fail
            go_roundw
            case rel => exact ⟨k + 1, by go_num, by omega, O5, F4, Z4, b4⟩
            case measure => simp [intOf]; omega
        case pos =>
          obtain ⟨rfl, d8⟩ := k5
          have MM : Hid (mvo b ⟨5, d⟩ = ⟨5, ⟨(lmv b d.data.toList).toArray⟩⟩) := by show _ = _; rw [MO.out, if_pos ⟨rfl, d8⟩]
          obtain ⟨RR, eR⟩ : ∃ RR, RR = lmv b d.data.toList := ⟨_, rfl⟩
          rw [← eR] at MM
          have HE : Hid (RR = lmv b d.data.toList) := eR
          have d4 : d.size % 4 = 0 := by omega
          have d8' : (d.size : Int) % 8 = 0 := by omega
          have cd := D3.cell
          have vz := D3.lt
          clear MO eR d8
          go_wp2_with fail
          go_loopw [10, 11] (fun D S wr => ∃ d' s' : ByteArray, D = .string d' ∧ S = .string s' ∧ s'.size % 4 = 0 ∧ d'.size + s'.size ≤ d.size ∧ Hid (d'.data.toList ++ lmv b s'.data.toList = RR) ∧ Below V.heap.size V wr) (fun _ S _ => zs S)
          case atStart => exact ⟨⟨#[]⟩, d, rfl, rfl, d4, by show 0 + d.size ≤ d.size; omega, by show _ = _; rw [HE.out]; rfl, Below.refl _ _⟩
          case round =>
            obtain ⟨d', s', rfl, rfl, s4, ds, E, belV⟩ := hrel
            by_cases sz : s'.size = 0
            · have se : s' = ⟨#[]⟩ := bytes_ext (List.eq_nil_of_length_eq_zero (by rw [size_list]; exact sz))
              subst se
              have ed : d' = ⟨RR.toArray⟩ := bytes_ext (by rw [← E.out]; simp [lmv])
              have D4 := D3.below belV vz
              have D5 : Blk (wr.setCell ⟨q, 1, none⟩ (.string d')) q (Opt.cells ⟨5, d'⟩) 32 := D4.setCell 1 _
              have F5 := (but_setCell wr q 1 (.string d')).blk (F3.below belV F3.lt) (by omega)
              have Z5 := (but_setCell wr q 1 (.string d')).blk (Z3.below belV Z3.lt) (by omega)
              have O5 := (own3.kept belV).setCell (i := 1) (u := .string d') oq
              have b5 := (bel3.trans (belV.mono bel3.size)).setCell (p := ⟨q, 1, none⟩) (by show w.heap.size ≤ q; omega) (.string d')
              have cq := D4.cell
              have fq := D4.free
              have MM' : Hid (mvo b ⟨5, d⟩ = ⟨5, d'⟩) := by show _ = _; rw [MM.out, ed]
              clear E ed MM HE F3 Z3 bel3 own3 D3 cd
              go_upto_region 16 with fail
              generalize wr.setCell ⟨q, 1, none⟩ (.string d') = U at *
              have uz : q < U.heap.size := D5.lt
              have cu := D5.cell
              clear cq fq D4 belV
              go_wp2_with (at_builtin; refine app_one OK _ rfl _ _ rfl (w.heap.size + 2) _ L rfl (O5.alloc _) U.heap.size 1 ⟨5, d'⟩ _ rfl (Blk.new _ _ _) (by unfold maxLen; omega) (by show (L.length + 1) * 24 ≤ _; omega) (by simp; omega) ?_; intro v4 W4 O4 c4 _)
              have F6 := (F5.alloc _).below c4 (by omega)
              have Z6 := (Z5.alloc _).below c4 (by omega)
              have b6 := (b5.alloc (by omega) _).trans (c4.mono (by omega))
              have O6 : Own OK W4 (w.heap.size + 2) v4 ((os.take (k + 1)).map (mvo b)) := by rw [st.out, MM'.out]; exact O4
              clear F5 Z5 b5 O5 c4 O4 cu uz st MM' lk D5
              go_wp2_with fail
              go_roundw
              case rel => exact ⟨k + 1, by go_num, by omega, O6, F6, Z6, b6⟩
              case measure => simp [intOf]; omega
            · have h3 : 0 + 3 < s'.size := by omega
              have stp := lmv_step b s' 0 h3
              rw [List.drop_zero] at stp
              have CL := fun u => longAt_ref s' 0 u (by omega) h3
              have v0 := wd_bd s' 0
              have v1 := wd_bd s' (0 + 2)
              obtain ⟨z, eZ⟩ : ∃ z, z = 65536 * wd s' 0 + wd s' (0 + 2) := ⟨_, rfl⟩
              rw [← eZ] at CL stp
              have z0 : 0 ≤ z := by omega
              have z1 : z ≤ 4294967295 := by omega
              have CP := fun u => plus_any z b u z0 z1 b0 b1
              have CG := fun u => long_ref ((z + b) % 4294967296) u (by omega) (by omega)
              have sl : ∀ u, (Instr.slice 9 (.string s') (some (.int .i64 4)) none none).run Try.prog u = .ok (.string (s'.extract 4 s'.size)) u := fun u => by
                have := run_slice_string_l u 9 s' Try.underlying9 .i64 4 (by omega) (by omega)
                simpa using this
              have ex : (s'.extract 4 s'.size).data.toList = s'.data.toList.drop (0 + 4) := by rw [ext_list, List.take_of_length_le (by rw [size_list]; omega)]
              have xz : (s'.extract 4 s'.size).size = s'.size - 4 := by rw [ByteArray.size_extract]; omega
              have gz : (⟨(adr ((z + b) % 4294967296)).toArray⟩ : ByteArray).size = 4 := rfl
              have gl : (⟨(adr ((z + b) % 4294967296)).toArray⟩ : ByteArray).data.toList = adr ((z + b) % 4294967296) := by simp
              have E2 : Hid ((d' ++ ⟨(adr ((z + b) % 4294967296)).toArray⟩).data.toList ++ lmv b (s'.extract 4 s'.size).data.toList = RR) := by
                show _ = _
                rw [ex, ← E.out, stp]
                simp
              have dz : (d' ++ ⟨(adr ((z + b) % 4294967296)).toArray⟩).size = d'.size + 4 := by rw [ByteArray.size_append, gz]
              generalize (⟨(adr ((z + b) % 4294967296)).toArray⟩ : ByteArray) = G at *
              generalize s'.extract 4 s'.size = s2 at *
              have sn : s' ≠ ⟨#[]⟩ := fun e => sz (by rw [e]; rfl)
              clear stp v0 v1 eZ ex gl E
              have sn' : (s'.toList == []) = false := by
                have : s'.toList.length ≠ 0 := by rw [ByteArray.toList_eq, size_list]; exact sz
                cases hh : s'.toList with
                | nil => rw [hh] at this; simp at this
                | cons a b => rfl
              go_wp2_with fail
              refine (CL _).mono ?_
              rintro e w4 ⟨rfl, rfl⟩
              go_wp2_with fail
              refine (CP _).mono ?_
              rintro e w4 ⟨rfl, rfl⟩
              go_wp2_with fail
              refine (CG _).mono ?_
              rintro e w5 ⟨rfl, bg⟩
              have belW := belV.trans (bg.mono belV.size)
              clear CL CP CG
              go_wp2_with fail
              go_roundw
              case rel => exact ⟨d' ++ G, s2, rfl, rfl, by omega, by omega, E2, belW⟩
              case measure => simp [zs]; omega
      · have hN := HN.out
        have e : os.take k = os := by rw [List.take_of_length_le (by omega)]
        rw [e, ← ET.out] at own
        have hlt' : ¬ (k : Int) < (n : Int) := by omega
        clear e hN hlt HZ HR
        obtain ⟨sa4, sc4, rfl⟩ := (Own.rd own).form
        have F5 : Blk (wr.setCell ⟨w.heap.size, 7, none⟩ (.slice sa4 S.length sc4)) w.heap.size (Sh.cells { h with sq := x, ak := y } (.slice sa4 S.length sc4)) 25 := F.setCell 7 _
        have Z5 := (but_setCell wr w.heap.size 7 (.slice sa4 S.length sc4)).blk Z (by omega)
        have O5 : Own OK (wr.setCell ⟨w.heap.size, 7, none⟩ (.slice sa4 S.length sc4)) (w.heap.size + 2) (.slice sa4 S.length sc4) S := own.setCell (i := 7) (own_ge own w.heap.size (by omega))
        have b5 := bel.setCell (p := ⟨w.heap.size, 7, none⟩) (Nat.le_refl _) (.slice sa4 S.length sc4)
        have cf := F.cell
        have ff := F.free
        go_upto_region 19 with fail
        generalize wr.setCell ⟨w.heap.size, 7, none⟩ (.slice sa4 S.length sc4) = W5 at *
        clear F Z own bel cf ff
        go_wp2_with (first
          | refine blk_load _ rfl 25 _ rfl w.heap.size rfl _ _ F5 _ Try.underlying25 rfl 9 sg_info rfl ?_
          | (refine blk_store _ rfl 25 _ _ rfl (w.heap.size + 1) (Sh.cells { h with sq := x, ak := y } (.slice sa4 S.length sc4)) rfl rfl _ _ Z5 9 sg_info rfl rfl (sg_one _ _ _ _) ?_; intro W6 k6 u6))
        have O6 := O5.but u6 (own_ge O5 _ (by omega))
        exact blk_ret1 rfl rfl _ _ _ rfl k6 _ Try.underlying25 rfl 9 sg_info rfl ⟨_, by rw [ER.out], Own.rd O6, u6.below b5 (by omega)⟩
end Go.Proofs.Ytpcknkpddinccaa.tcx
