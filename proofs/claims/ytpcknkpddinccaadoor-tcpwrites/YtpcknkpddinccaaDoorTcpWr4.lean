/- What tcp.Write answers where a segment can be written, and that it changes nothing that was there. -/
import Derived.Test.YtpcknkpddinccaaDoorTcpMvIn
import Derived.Test.YtpcknkpddinccaaDoorTcpWr2
import Derived.Test.YtpcknkpddinccaaDoorTcpWr3
namespace Go.Proofs.YtpcknkpddinccaaDoor.tcw4
open Go.ChangeShapes Go.WideShapes Go.ChangeAt Go.RowKit Go.BigFrame
open Go.Proofs.YtpcknkpddinccaaDoor Go.Proofs.YtpcknkpddinccaaDoor.EM Go.Proofs.YtpcknkpddinccaaDoor.ethb Go.Proofs.YtpcknkpddinccaaDoor.SM Go.Proofs.YtpcknkpddinccaaDoor.ipb Go.Proofs.YtpcknkpddinccaaDoor.boxes Go.Proofs.YtpcknkpddinccaaDoor.buf Go.Proofs.YtpcknkpddinccaaDoor.wds Go.Proofs.YtpcknkpddinccaaDoor.tcb Go.Proofs.YtpcknkpddinccaaDoor.tci Go.Proofs.YtpcknkpddinccaaDoor.tcm Go.Proofs.YtpcknkpddinccaaDoor.tct Go.Proofs.YtpcknkpddinccaaDoor.rwr Go.Proofs.YtpcknkpddinccaaDoor.tcw1 Go.Proofs.YtpcknkpddinccaaDoor.tcw2 Go.Proofs.YtpcknkpddinccaaDoor.tcv Go.Proofs.YtpcknkpddinccaaDoor.dgb
open Go.Proofs.YtpcknkpddinccaaDoor.rws (Knd)
open Go.Proofs.YtpcknkpddinccaaDoor.tcw3 (sarg_iff)
open Go.Proofs.YtpcknkpddinccaaDoor.dgi (Ad)
open Go.Proofs.YtpcknkpddinccaaDoor.ipb (ret_text)
open Go.Proofs.YtpcknkpddinccaaDoor.ipm (bytes_ext ext_list size_list)

/-- how long a slice is -/
def ls : Value → Nat
  | .slice _ n _ => n
  | _ => 0
theorem oln_part (os : List Opt) (k : Nat) : (otx (os.take k)).length ≤ oln os := by
  have : otx os = otx (os.take k) ++ otx (os.drop k) := by rw [← otx_app, List.take_append_drop]
  unfold oln; rw [this, List.length_append]; omega
set_option maxRecDepth 20000 in
set_option maxHeartbeats 8000000 in
theorem write_ok (h : Sh) (v : Value) (os : List Opt) (f t : Int) (w : World) (hr : Rd OK w v os) (hl : os.length ≤ 6000000000000) (hp : SOk h os) (ha : h.Adr) (hf : Ad f) (ht : Ad t) :
    Calls Tryd.prog 8 #[.agg (h.cells v), .int .u32 f, .int .u32 t] w fun e w' => e = .returned (.tuple #[.string ⟨(stxt h os f t).toArray⟩, .int .i64 0]) ∧ Below w.heap.size w w' := by
  obtain ⟨a1, a2⟩ := (sarg_iff h).1 hp.arg
  have HA : Hid (¬ sarg h) := hp.arg
  have hok := hp.opt
  have o1 := hp.o1
  have d1 := hp.d1
  have CL : ∀ u, Rd OK u v os → Calls Tryd.prog 18 #[v] u fun e w' => e = .returned (.tuple #[.int .i64 ((oln os : Nat) : Int), .bool true]) ∧ Below u.heap.size u w' := fun u hu => by
    have := longOf_any v os u hu hl
    have e : lof os = (((oln os : Nat) : Int), true) := by unfold lof; rw [if_pos hok]
    rw [e] at this; exact this
  have b1 := ((Below.refl w.heap.size w).alloc (Nat.le_refl _) (.cells (h.cells v) 25)).alloc (by simp) (.cells #[.int .i64 h.fr, .int .i64 h.to, .int .i64 h.wi, .int .i64 h.ur] 3)
  have b2 := b1.alloc (by simp; omega) (.cells #[.int .i64 h.fl] 3)
  have C1 := within_any 65535 ((w.alloc (.cells (h.cells v) 25)).alloc (.cells #[.int .i64 h.fr, .int .i64 h.to, .int .i64 h.wi, .int .i64 h.ur] 3)) (w.heap.size + 1) 4 4 [h.fr, h.to, h.wi, h.ur] rfl (by simp) (Blk.newAt _ _ _ (by simp))
  have C2 := within_any 255 (((w.alloc (.cells (h.cells v) 25)).alloc (.cells #[.int .i64 h.fr, .int .i64 h.to, .int .i64 h.wi, .int .i64 h.ur] 3)).alloc (.cells #[.int .i64 h.fl] 3)) (w.heap.size + 2) 1 1 [h.fl] rfl (by simp) (Blk.newAt _ _ _ (by simp))
  have F2 : Blk (((w.alloc (.cells (h.cells v) 25)).alloc (.cells #[.int .i64 h.fr, .int .i64 h.to, .int .i64 h.wi, .int .i64 h.ur] 3)).alloc (.cells #[.int .i64 h.fl] 3)) w.heap.size (h.cells v) 25 := ((Blk.new _ _ _).alloc _).alloc _
  have r2 := hr.below b2
  rw [a1] at C1
  rw [a2] at C2
  obtain ⟨sa, sc, rfl⟩ := hr.form
  have hg : ∀ o ∈ os, ook o = true := List.all_eq_true.1 hok
  have HO : Hid (∀ o ∈ os, ook o = true) := hg
  have HR : Hid (Rd OK w (.slice sa os.length sc) os) := hr
  have HW : Hid (hdl os = 20 + (oln os + 3) / 4 * 4) := (rfl : _ = _)
  clear a1 a2 hok hg hr hp b1
  go_enter Tryd.func8, Tryd.ntmps8
  go_wp2_with fail
  refine C1.mono ?_
  rintro e w1 ⟨rfl, rfl⟩
  go_wp2_with fail
  refine C2.mono ?_
  rintro e w1 ⟨rfl, rfl⟩
  clear C1 C2
  go_wp2_with fail
  refine (CL _ r2).mono ?_
  rintro e w3 ⟨rfl, h3⟩
  have F3 := F2.below h3 F2.lt
  have b3 := b2.trans (h3.mono b2.size)
  have cf := F3.cell
  have z3 : w.heap.size + 1 ≤ w3.heap.size := F3.lt
  clear CL r2 F2 b2 h3
  have m1' : ¬ (40 : Int) < ((oln os : Nat) : Int) := by omega
  have d1' : ¬ (65455 : Int) < (h.d.size : Int) := by omega
  obtain ⟨hd, eh⟩ : ∃ hd, hd = hdl os := ⟨_, rfl⟩
  obtain ⟨m, em⟩ : ∃ m, m = oln os := ⟨_, rfl⟩
  have hm : hd = 20 + (m + 3) / 4 * 4 := by rw [eh, em]; rfl
  have hH : (20 + ((m : Int) + 4 - 1) / 4 * 4) = (hd : Int) := by omega
  have h20 : 20 ≤ hd := by omega
  have h60 : hd ≤ 60 := by omega
  have HH : Hid (hd = hdl os) := eh
  have HM : Hid (m = oln os) := em
  have HQ : Hid (hd = 20 + (m + 3) / 4 * 4) := hm
  clear hm
  go_upto_region 9 with fail
  rw [← em] at o1 m1' ⊢
  rw [decide_eq_false (show ¬ (40 : Int) < (m : Int) by omega), decide_eq_false (show ¬ (65455 : Int) < (h.d.size : Int) by omega), hH]
  simp only [Bool.or_false]
  clear eh em hH m1' d1'
  go_wp2_with (at_make; refine make_own _ rfl _ _ rfl (w.heap.size + 1) _ _ _ (hd + h.d.size) rfl rfl ?c1 (by omega) z3 ?_)
  case c1 => simp
  intro v4 w4 o4 l4
  have F4 := F3.below l4 (by omega)
  have b4 := b3.trans (l4.mono (by omega))
  have z4 : w.heap.size + 1 ≤ w4.heap.size := F4.lt
  clear cf
  have cf := F4.cell
  clear F3 b3 z3 l4
  have f0 : 0 ≤ h.fr ∧ h.fr ≤ 65535 := by have := HA.out; unfold sarg at this; omega
  have t0 : 0 ≤ h.to ∧ h.to ≤ 65535 := by have := HA.out; unfold sarg at this; omega
  have w0 : 0 ≤ h.wi ∧ h.wi ≤ 65535 := by have := HA.out; unfold sarg at this; omega
  have u0 : 0 ≤ h.ur ∧ h.ur ≤ 65535 := by have := HA.out; unfold sarg at this; omega
  have g0 : 0 ≤ h.fl ∧ h.fl ≤ 255 := by have := HA.out; unfold sarg at this; omega
  obtain ⟨f0, f1⟩ := f0
  obtain ⟨t0, t1⟩ := t0
  obtain ⟨w0, w1⟩ := w0
  obtain ⟨u0, u1⟩ := u0
  obtain ⟨g0, g1⟩ := g0
  clear HA
  go_wp2_with fail
  refine (appendWords_any _ (w.heap.size + 1) w4.heap.size 2 2 _ [] [h.fr, h.to] rfl (o4.alloc _) (by simp) (by simp; omega) (by intro y hy; simp at hy; omega) (by simp) (Blk.newAt _ _ _ rfl)).mono ?_
  rintro e w5 ⟨v5, rfl, o5, l5, _⟩
  have F5 := (F4.alloc _).below l5 (by omega)
  have b5 := (b4.alloc (by omega) _).trans (l5.mono (by omega))
  have z5 : w.heap.size + 1 ≤ w5.heap.size := F5.lt
  clear cf
  have cf := F5.cell
  clear F4 b4 z4 l5 o4
  have s0 := ha.s0
  have s1 := ha.s1
  have k0 := ha.a0
  have k1 := ha.a1
  go_wp2_with fail
  refine (appendLongs_any _ (w.heap.size + 1) w5.heap.size 2 2 _ _ [h.sq, h.ak] rfl (o5.alloc _) (by simp [wbl_len]) (by simp; omega) (by intro y hy; simp at hy; omega) (by simp) (Blk.newAt _ _ _ rfl)).mono ?_
  rintro e w6 ⟨v6, rfl, o6, l6, _⟩
  have F6 := (F5.alloc _).below l6 (by omega)
  have b6 := (b5.alloc (by omega) _).trans (l6.mono (by omega))
  have z6 : w.heap.size + 1 ≤ w6.heap.size := F6.lt
  clear cf
  have cf := F6.cell
  clear F5 b5 z5 l6 o5 s0 s1 k0 k1
  have e8 : ((b8 (4 * (hd : Int))).toNat : Int) = (4 * (hd : Int)) % 256 := b8_at _
  have e9 : ((b8 h.fl).toNat : Int) = h.fl % 256 := b8_at _
  go_wp2_with (at_builtin; refine app_own _ rfl _ _ rfl (w.heap.size + 1) _ _ rfl (o6.alloc _) ⟨w6.heap.size, 0, none⟩ 2 2 [b8 (4 * (hd : Int)), b8 h.fl] rfl rfl ?c2 (by simp [wbl_len, lbl_len]) (by simp; omega) ?_)
  case c2 =>
    intro j hj
    match j, hj with
    | 0, _ => simp [Addr.add, e8]; try omega
    | 1, _ => simp [Addr.add, e9]; try omega
  intro v7 w7 o7 l7
  have F7 := (F6.alloc _).below l7 (by omega)
  have b7 := (b6.alloc (by omega) _).trans (l7.mono (by omega))
  have z7 : w.heap.size + 1 ≤ w7.heap.size := F7.lt
  clear cf
  have cf := F7.cell
  clear F6 b6 z6 l7 o6 e8 e9
  go_wp2_with fail
  refine (appendWords_any _ (w.heap.size + 1) w7.heap.size 3 3 _ _ [h.wi, 0, h.ur] rfl (o7.alloc _) (by simp [wbl_len, lbl_len]) (by simp; omega) (by intro y hy; simp at hy; omega) (by simp) (Blk.newAt _ _ _ rfl)).mono ?_
  rintro e w8 ⟨v8, rfl, o8, l8, _⟩
  have F8 := (F7.alloc _).below l8 (by omega)
  have b8' := (b7.alloc (by omega) _).trans (l8.mono (by omega))
  have z8 : w.heap.size + 1 ≤ w8.heap.size := F8.lt
  clear cf
  have cf := F8.cell
  clear F7 b7 z7 l8 o7
  obtain ⟨P, eP⟩ : ∃ P, P = sh1 h os ++ [hi8 0, lo8 0, hi8 h.ur, lo8 h.ur] := ⟨_, rfl⟩
  have o9 : Own w8 (w.heap.size + 1) v8 P := by
    rw [eP]; unfold sh1; rw [← HH.out]; simpa [wbl, lbl] using o8
  have Pl : P.length = 20 := by rw [eP, List.length_append, sh1_len]; rfl
  have HP : Hid (P = sh1 h os ++ [hi8 0, lo8 0, hi8 h.ur, lo8 h.ur]) := eP
  clear o8 eP
  obtain ⟨n, N⟩ : ∃ n, n = os.length := ⟨_, rfl⟩
  have HN : Hid (n = os.length) := N
  have nb : n ≤ 6000000000000 := by omega
  rw [← N] at HR F8 cf ⊢
  have CA : Hid (∀ (o : Opt) (u : World) (x : Value) (l : List UInt8), o ∈ os → Own u (w.heap.size + 1) x l → l.length ≤ 1000 → w.heap.size + 1 ≤ u.heap.size → Calls Tryd.prog 21 #[x, .agg o.cells] u fun e w' => ∃ v', e = .returned v' ∧ Own w' (w.heap.size + 1) v' (l ++ ot o) ∧ Below (w.heap.size + 1) u w') := fun o u x l ho hx hl' hz' => appendOption_any u (w.heap.size + 1) x l o (HO.out o ho) hx (by omega) hz'
  have HT : Hid (∀ k, (otx (os.take k)).length ≤ m) := fun k => by rw [HM.out]; exact oln_part os k
  clear N hl HO
  go_wp2_with fail
  go_loopw [11, 99] (fun s i wr => ∃ k : Nat, i = .int .i64 (k : Int) ∧ k ≤ n ∧ Own wr (w.heap.size + 1) s (P ++ otx (os.take k)) ∧ Blk wr w.heap.size (h.cells (.slice sa n sc)) 25 ∧ Below w.heap.size w wr) (fun _ i _ => n - (intOf i).toNat)
  case atStart => exact ⟨0, rfl, Nat.zero_le _, by simpa [otx] using o9, F8, b8'⟩
  case round =>
    obtain ⟨k, rfl, hk, own, F, bel⟩ := hrel
    clear F8 b8' z8 cf o9
    by_cases hlt : k < n
    · have hN := HN.out
      obtain ⟨o, ho⟩ : ∃ o, os[k]? = some o := ⟨os[k]'(by omega), List.getElem?_eq_getElem _⟩
      have CA' := fun u x l => CA.out o u x l (List.mem_of_getElem? ho)
      have st : Hid (P ++ otx (os.take (k + 1)) = (P ++ otx (os.take k)) ++ ot o) := by show _ = _; rw [otx_take os k o ho, List.append_assoc]
      have lz : (P ++ otx (os.take k)).length ≤ 1000 := by have := HT.out k; rw [List.length_append]; omega
      obtain ⟨bb, off, sc', e, hbb, _, hc⟩ := rd_at HR.out (by omega)
      simp only [Value.slice.injEq] at e
      obtain ⟨rfl, hnn, rfl⟩ := e
      clear hnn
      have hc' : ∀ (j : Nat) x, os[j]? = some x → ∀ i, i < OK.k → wr.cell? ⟨bb, off + j * OK.k + i, none⟩ = (OK.enc x)[i]? := fun j x hx i hi => (bel.cell (p := ⟨bb, off + j * OK.k + i, none⟩) hbb).trans (hc j x hx i hi)
      have hlt' : (k : Int) < (n : Int) := by omega
      have zB : w.heap.size + 1 ≤ wr.heap.size := F.lt
      obtain ⟨ki, d⟩ := o
      have F1 := F.alloc (.cells (Opt.cells ⟨ki, d⟩) 40)
      have own1 := own.alloc (.cells (Opt.cells ⟨ki, d⟩) 40)
      have bel1 := bel.alloc (by omega) (.cells (Opt.cells ⟨ki, d⟩) 40)
      have D1 := Blk.new wr (Opt.cells ⟨ki, d⟩) 40
      generalize P ++ otx (os.take k) = L at *
      clear hN hc own F bel
      go_upto_region 17 with (refine rd_load OK _ rfl _ rfl bb off os hc' k _ rfl rfl _ ho (Opt.cells ⟨ki, d⟩) rfl _ Tryd.underlying40 rfl ?_)
      change Code.wp _ _ _ _ (wr.alloc (.cells (Opt.cells ⟨ki, d⟩) 40))
      have z1 : w.heap.size + 1 ≤ (wr.alloc (.cells (Opt.cells ⟨ki, d⟩) 40)).heap.size := F1.lt
      have C2 := CA' _ _ _ own1 lz z1
      generalize wr.alloc (.cells (Opt.cells ⟨ki, d⟩) 40) = V at *
      clear CA' hc' ho
      go_wp2_with (refine blk_load _ rfl 40 _ rfl wr.heap.size rfl _ _ D1 _ Tryd.underlying40 rfl 2 op_info rfl ?_)
      refine C2.mono ?_
      rintro e w2 ⟨v2, rfl, o2, l2⟩
      have F2 := F1.below l2 (by omega)
      have b2 := bel1.trans (l2.mono (by omega))
      rw [← st.out] at o2
      clear C2 F1 own1 bel1 D1 st l2
      go_wp2_with fail
      go_roundw
      case rel => exact ⟨k + 1, by go_num, by omega, o2, F2, b2⟩
      case measure => simp [intOf]; omega
    · have hN := HN.out
      have e : os.take k = os := by rw [List.take_of_length_le (by omega)]
      rw [e] at own
      have hlt' : ¬ (k : Int) < (n : Int) := by omega
      have Ol : (P ++ otx os).length = 20 + m := by rw [List.length_append, Pl, HM.out]; rfl
      have hge : 20 + m ≤ hd := by have := HQ.out; omega
      have hle : hd ≤ 20 + m + 3 := by have := HQ.out; omega
      have OQ : Hid (P ++ otx os = P ++ otx os) := (rfl : _ = _)
      obtain ⟨O, eO⟩ : ∃ O, O = P ++ otx os := ⟨_, rfl⟩
      have HO : Hid (O = P ++ otx os) := eO
      rw [← eO] at own Ol
      clear e hN CA HR hlt hk eO OQ
      go_upto_region 19 with fail
      have z19 : w.heap.size + 1 ≤ wr.heap.size := F.lt
      go_loopw [11] (fun s u => ∃ j : Nat, 20 + m + j ≤ hd ∧ Own u (w.heap.size + 1) s (O ++ List.replicate j 0) ∧ Blk u w.heap.size (h.cells (.slice sa n sc)) 25 ∧ Below w.heap.size w u) (fun s _ => hd - ls s)
      case atStart => exact ⟨0, by omega, by simpa using own, F, bel⟩
      case round =>
        clear own F bel z19
        obtain ⟨j, hj, own, F, bel⟩ := hrel
        have zB := F.lt
        have cf := F.cell
        obtain ⟨L, eL⟩ : ∃ L, L = O ++ List.replicate j 0 := ⟨_, rfl⟩
        have lq : L.length = 20 + m + j := by rw [eL, List.length_append, List.length_replicate]; omega
        have EL : Hid (L = O ++ List.replicate j 0) := eL
        rw [← eL] at own
        clear eL
        obtain ⟨g, cap, e, gB, gl, _⟩ := own.form (by omega)
        rw [lq] at e
        subst e
        by_cases c : 20 + m + j < hd
        · have c'' : ((20 + m + j : Nat) : Int) < (hd : Int) := by omega
          have E : Hid (L ++ [0] = O ++ List.replicate (j + 1) 0) := by show _ = _; rw [EL.out, List.replicate_succ', List.append_assoc]
          go_wp2_with (at_builtin; refine app_own _ rfl _ _ rfl (w.heap.size + 1) _ L rfl (own.alloc _) ⟨wr.heap.size, 0, none⟩ 1 1 [0] rfl rfl ?c9 (by omega) (by simp; omega) ?_)
          case c9 =>
            intro j hj
            match j, hj with
            | 0, _ => simp [Addr.add]
          intro v' w' o' b'
          obtain ⟨g', cap', e, _⟩ := o'.form (by simp)
          rw [E.out] at o'
          rw [List.length_append, lq] at e
          simp only [List.length_cons, List.length_nil, Nat.zero_add] at e
          subst e
          have F' := (F.alloc _).below b' (by omega)
          have bel' := (bel.alloc (by omega) _).trans (b'.mono (by omega))
          clear own F bel EL E b' cf zB
          go_wp2_with fail
          go_roundw
          case rel => exact ⟨j + 1, by omega, o', F', bel'⟩
          case measure => simp [ls]; omega
        · have c'' : ¬ ((20 + m + j : Nat) : Int) < (hd : Int) := by omega
          have dl : h.d.data.toList.length = h.d.size := size_list h.d
          go_wp2_with (at_builtin; refine appS_own _ rfl _ _ rfl (w.heap.size + 1) _ L rfl own h.d rfl (by omega) (by omega) ?_)
          intro v5 w5 o5 b5
          have F5 := F.below b5 (by omega)
          have bel5 := bel.trans (b5.mono (by omega))
          obtain ⟨M, eM⟩ : ∃ M, M = L ++ h.d.data.toList := ⟨_, rfl⟩
          have hM : M = sgx h os 0 := by
            rw [eM, EL.out, HO.out, HP.out]
            unfold sgx stl pad
            rw [← HM.out, show (m + 3) / 4 * 4 - m = j by have := HQ.out; omega]
            simp
          rw [← eM] at o5
          have Ml : M.length = hd + h.d.size := by rw [hM, sgx_len, ← HH.out]
          have hck : 65535 - wsum 0 (und f t 6 (hd + h.d.size : Nat) ++ M) = sck h os f t := by rw [hM, HH.out]; rfl
          have hput : putw M 16 (sck h os f t) = stxt h os f t := by
            rw [hM]
            unfold putw stxt sgx
            have l16 := sh1_len h os
            rw [List.set_append_right _ _ (by omega), l16]
            rw [List.set_append_right _ _ (by omega), l16]
            rfl
          have ckb := sck_bd h os f t
          have sz : (⟨M.toArray⟩ : ByteArray).size = hd + h.d.size := by show M.toArray.size = _; rw [List.size_toArray, Ml]
          have CU := fun u => under_any f t ⟨M.toArray⟩ u (by rw [sz]; omega) hf ht
          have CO := fun u => sumw.of_any (uns f t ⟨M.toArray⟩) u (by rw [uns_size, sz]; omega)
          rw [uns_list, sz, hck] at CO
          generalize uns f t ⟨M.toArray⟩ = U at CU CO
          have HPT : Hid (putw M 16 (sck h os f t) = stxt h os f t) := hput
          clear hM hput hck eM own F bel EL cf HO HP HQ HM HH b5
          have hs := str_own o5
          generalize (⟨M.toArray⟩ : ByteArray) = S at hs CU sz
          go_wp2_with fail
          refine (CU _).mono ?_
          rintro e w6 ⟨rfl, l6⟩
          have o6 := o5.kept l6
          have bel6 := bel5.trans (l6.mono bel5.size)
          clear hs o5 F5 bel5 l6 CU
          go_wp2_with fail
          refine (CO _).mono ?_
          rintro e w7 ⟨rfl, q⟩
          have o7 := qd_own q o6
          have bel7 := bel6.trans (qd_below q)
          clear o6 bel6 q CO
          have PW := putWord_any w7 (w.heap.size + 1) v5 M 16 (sck h os f t) o7 (by omega) (by omega) ckb.1 ckb.2
          rw [HPT.out] at PW
          clear HPT
          generalize sck h os f t = ck at *
          go_wp2_with fail
          refine PW.mono ?_
          rintro e w8 ⟨rfl, o8, l8, _⟩
          have bel8 := bel7.trans (l8.mono (by omega))
          have hs := str_own o8
          clear o8 o7 bel7 l8 PW
          go_wp2_with fail
          go_ret2
          exact ⟨rfl, bel8⟩
theorem write_any (h : Sh) (v : Value) (os : List Opt) (f t : Int) (w : World) (hr : Rd OK w v os) (hl : os.length ≤ 6000000000000) (hd : h.d.size ≤ 140737488351232) (ha : h.Adr) (hf : Ad f) (ht : Ad t) :
    Calls Tryd.prog 8 #[.agg (h.cells v), .int .u32 f, .int .u32 t] w fun e w' => e = .returned (.tuple #[.string (sout h os f t), .int .i64 (serr h os)]) ∧ Below w.heap.size w w' := by
  by_cases he : serr h os = 0
  · rw [show sout h os f t = ⟨(stxt h os f t).toArray⟩ by unfold sout; rw [if_pos he], he]
    exact write_ok h v os f t w hr hl (sok he) ha hf ht
  · rw [show sout h os f t = ⟨#[]⟩ by unfold sout; rw [if_neg he]]
    exact tcw3.write_bad h v os f t w hr hl hd he
end Go.Proofs.YtpcknkpddinccaaDoor.tcw4
