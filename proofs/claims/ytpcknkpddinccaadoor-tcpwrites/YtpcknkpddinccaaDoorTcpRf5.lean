/- What custref.SegmentText answers. -/
import Derived.Test.YtpcknkpddinccaaDoorTcpRf4
namespace Go.Proofs.YtpcknkpddinccaaDoor.tcf5
open Go.ChangeShapes Go.WideShapes Go.ChangeAt Go.RowKit Go.BigFrame
open Go.Proofs.YtpcknkpddinccaaDoor Go.Proofs.YtpcknkpddinccaaDoor.EM Go.Proofs.YtpcknkpddinccaaDoor.ethb Go.Proofs.YtpcknkpddinccaaDoor.SM Go.Proofs.YtpcknkpddinccaaDoor.ipb Go.Proofs.YtpcknkpddinccaaDoor.boxes Go.Proofs.YtpcknkpddinccaaDoor.wds Go.Proofs.YtpcknkpddinccaaDoor.tcb Go.Proofs.YtpcknkpddinccaaDoor.tct Go.Proofs.YtpcknkpddinccaaDoor.rwr Go.Proofs.YtpcknkpddinccaaDoor.tcm Go.Proofs.YtpcknkpddinccaaDoor.tcf1 Go.Proofs.YtpcknkpddinccaaDoor.tcf4 Go.Proofs.YtpcknkpddinccaaDoor.dgb Go.Proofs.YtpcknkpddinccaaDoor.undr
open Go.Proofs.YtpcknkpddinccaaDoor.rws (Knd Own)
open Go.Proofs.YtpcknkpddinccaaDoor.refb (between_any word_ref bytes_any)
open Go.Proofs.YtpcknkpddinccaaDoor.dgi (Ad)
open Go.Proofs.YtpcknkpddinccaaDoor.ipb (ret_text)
open Go.Proofs.YtpcknkpddinccaaDoor.ipm (bytes_ext ext_list size_list)

theorem ott_size (o : Opt) (h : ook o = true) : (ott o).size ≤ 40 := by
  unfold ott; rw [if_pos h]
  show (List.toArray _).size ≤ _
  rw [List.size_toArray]; exact ot_le o h
/-- a word's two bytes -/
def wbs (k : Int) : ByteArray := ⟨#[hi8 k, lo8 k]⟩
theorem wbs_size (k : Int) : (wbs k).size = 2 := rfl
theorem wbs_list (k : Int) : (wbs k).data.toList = [hi8 k, lo8 k] := rfl
theorem app_list (a b : ByteArray) : (a ++ b).data.toList = a.data.toList ++ b.data.toList := by simp
theorem padded (os : List Opt) (y : ByteArray) (h : y.data.toList = otx os) : ((y ++ ⟨#[0, 0, 0]⟩).extract 0 ((oln os + 3) / 4 * 4)).data.toList = otx os ++ pad os := by
  have l : (otx os).length = oln os := rfl
  rw [ext_list, List.drop_zero, app_list, h, List.take_append, List.take_of_length_le (by omega), l]
  congr 1
  unfold pad
  have key : ∀ m : Nat, m ≤ 3 → ([0, 0, 0] : List UInt8).take m = List.replicate m 0 := by decide
  exact key _ (by omega)
theorem all_joined (h : Sh) (os : List Opt) (P : ByteArray) (hP : P.data.toList = otx os ++ pad os) (V5 : ByteArray) (h5 : V5.data.toList = [b8 (4 * (hdl os : Int)), b8 h.fl]) :
    (wbs h.fr ++ wbs h.to ++ ⟨(adr h.sq).toArray⟩ ++ ⟨(adr h.ak).toArray⟩ ++ V5 ++ wbs h.wi ++ wbs 0 ++ wbs h.ur ++ P ++ h.d).data.toList = sgx h os 0 := by
  simp only [app_list, wbs_list, hP, h5]
  unfold sgx sh1 stl
  simp
theorem all_ended (h : Sh) (os : List Opt) (f t : Int) (S : ByteArray) (hS : S.data.toList = sgx h os 0) : S.extract 0 16 ++ wbs (sck h os f t) ++ S.extract 18 S.size = ⟨(stxt h os f t).toArray⟩ := by
  apply bytes_ext
  have l := sh1_len h os
  have e1 : (S.extract 0 16).data.toList = sh1 h os := by
    rw [ext_list, List.drop_zero, hS]
    unfold sgx
    rw [← l, List.take_left]
  have e2 : (S.extract 18 S.size).data.toList = hi8 h.ur :: lo8 h.ur :: stl h os := by
    rw [ext_list, List.take_of_length_le (by rw [size_list]; exact Nat.le_refl _), hS]
    unfold sgx
    rw [show 18 = (sh1 h os).length + 2 by omega, List.drop_length_add_append]
    rfl
  rw [app_list, app_list, wbs_list, e1, e2]
  unfold stxt sgx
  simp
set_option maxRecDepth 20000 in
set_option maxHeartbeats 8000000 in
theorem segmentText_any (h : Sh) (v : Value) (os : List Opt) (f t : Int) (w : World) (hr : Rd OK w v os) (ha : h.Adr) (hd : h.d.size ≤ 140737488351232) (hf : Ad f) (ht : Ad t) :
    Calls Tryd.prog 9 #[.agg (h.cells v), .int .u32 f, .int .u32 t] w fun e w' => e = .returned (.tuple #[.string (sout h os f t), .int .i64 (serr h os)]) ∧ Below w.heap.size w w' := by
  have HA : Hid (sarg h → serr h os = 1 ∧ sout h os f t = ⟨#[]⟩) := fun hs => by
    have e : serr h os = 1 := by unfold serr; rw [if_pos hs]
    exact ⟨e, by unfold sout; rw [if_neg (by rw [e]; omega)]⟩
  have HB : Hid (¬ sarg h → ∀ o ∈ os, ook o = false → serr h os = 4 ∧ sout h os f t = ⟨#[]⟩) := fun hs o ho hk => by
    have e : serr h os = 4 := by
      unfold serr; rw [if_neg hs, if_pos]
      rw [List.all_eq_false]; exact ⟨o, ho, by rw [hk]; simp⟩
    exact ⟨e, by unfold sout; rw [if_neg (by rw [e]; omega)]⟩
  have HC : Hid (¬ sarg h → (∀ o ∈ os, ook o = true) → (40 < oln os ∨ 65455 < h.d.size) → serr h os = 2 ∧ sout h os f t = ⟨#[]⟩) := fun hs hk hl => by
    have e : serr h os = 2 := by
      unfold serr; rw [if_neg hs, if_neg (by rw [List.all_eq_true.2 hk]; simp), if_pos hl]
    exact ⟨e, by unfold sout; rw [if_neg (by rw [e]; omega)]⟩
  have HD : Hid (¬ sarg h → (∀ o ∈ os, ook o = true) → ¬ (40 < oln os ∨ 65455 < h.d.size) → serr h os = 0 ∧ sout h os f t = ⟨(stxt h os f t).toArray⟩) := fun hs hk hl => by
    have e : serr h os = 0 := by
      unfold serr; rw [if_neg hs, if_neg (by rw [List.all_eq_true.2 hk]; simp), if_neg hl]
    exact ⟨e, by unfold sout; rw [if_pos e]⟩
  have HS : Hid (sarg h ↔ (h.fr < 0 ∨ 65535 < h.fr ∨ h.to < 0 ∨ 65535 < h.to ∨ h.wi < 0 ∨ 65535 < h.wi ∨ h.ur < 0 ∨ 65535 < h.ur ∨ h.fl < 0 ∨ 255 < h.fl)) := Iff.rfl
  generalize serr h os = c at *
  generalize sout h os f t = T at *
  have F0 := Blk.new w (h.cells v) 25
  have d0 := (Below.refl w.heap.size w).alloc (Nat.le_refl _) (.cells (h.cells v) 25)
  obtain ⟨sa, sc, rfl⟩ := hr.form
  obtain ⟨n, N⟩ : ∃ n, n = os.length := ⟨_, rfl⟩
  have HR : Hid (Rd OK w (.slice sa os.length sc) os) := hr
  have HN : Hid (n = os.length) := N
  have nb : n ≤ 9223372036854775807 := by
    obtain ⟨_, _, _, hm, _⟩ := hr
    unfold maxLen at hm; omega
  rw [← N] at HR F0 d0 ⊢
  clear N hr
  have cf := F0.cell
  go_enter Tryd.func9, Tryd.ntmps9
  go_wp2_with fail
  refine (between_any h.fr 0 65535 _).mono ?_
  rintro e w1 ⟨rfl, rfl⟩
  by_cases a1 : 0 ≤ h.fr ∧ h.fr ≤ 65535
  case neg =>
    have E := HA.out (HS.out.2 (by omega))
    have e1 : Hid (c = 1) := E.1
    have e2 : Hid (T = ⟨#[]⟩) := E.2
    rw [decide_eq_false a1]
    clear HA HB HC HD HS a1 E HR
    go_wp2_with fail
    go_ret2
    exact ⟨ret_text e2.out.symm e1.out.symm, d0⟩
  rw [decide_eq_true a1]
  go_wp2_with fail
  refine (between_any h.to 0 65535 _).mono ?_
  rintro e w1 ⟨rfl, rfl⟩
  by_cases a2 : 0 ≤ h.to ∧ h.to ≤ 65535
  case neg =>
    have E := HA.out (HS.out.2 (by omega))
    have e1 : Hid (c = 1) := E.1
    have e2 : Hid (T = ⟨#[]⟩) := E.2
    rw [decide_eq_false a2]
    clear HA HB HC HD HS a2 E HR
    go_wp2_with fail
    go_ret2
    exact ⟨ret_text e2.out.symm e1.out.symm, d0⟩
  rw [decide_eq_true a2]
  go_wp2_with fail
  refine (between_any h.wi 0 65535 _).mono ?_
  rintro e w1 ⟨rfl, rfl⟩
  by_cases a3 : 0 ≤ h.wi ∧ h.wi ≤ 65535
  case neg =>
    have E := HA.out (HS.out.2 (by omega))
    have e1 : Hid (c = 1) := E.1
    have e2 : Hid (T = ⟨#[]⟩) := E.2
    rw [decide_eq_false a3]
    clear HA HB HC HD HS a3 E HR
    go_wp2_with fail
    go_ret2
    exact ⟨ret_text e2.out.symm e1.out.symm, d0⟩
  rw [decide_eq_true a3]
  go_wp2_with fail
  refine (between_any h.ur 0 65535 _).mono ?_
  rintro e w1 ⟨rfl, rfl⟩
  by_cases a4 : 0 ≤ h.ur ∧ h.ur ≤ 65535
  case neg =>
    have E := HA.out (HS.out.2 (by omega))
    have e1 : Hid (c = 1) := E.1
    have e2 : Hid (T = ⟨#[]⟩) := E.2
    rw [decide_eq_false a4]
    clear HA HB HC HD HS a4 E HR
    go_wp2_with fail
    go_ret2
    exact ⟨ret_text e2.out.symm e1.out.symm, d0⟩
  rw [decide_eq_true a4]
  go_wp2_with fail
  refine (between_any h.fl 0 255 _).mono ?_
  rintro e w1 ⟨rfl, rfl⟩
  by_cases a5 : 0 ≤ h.fl ∧ h.fl ≤ 255
  case neg =>
    have E := HA.out (HS.out.2 (by omega))
    have e1 : Hid (c = 1) := E.1
    have e2 : Hid (T = ⟨#[]⟩) := E.2
    rw [decide_eq_false a5]
    clear HA HB HC HD HS a5 E HR
    go_wp2_with fail
    go_ret2
    exact ⟨ret_text e2.out.symm e1.out.symm, d0⟩
  rw [decide_eq_true a5]
  have ns : ¬ sarg h := fun hh => by have := HS.out.1 hh; omega
  have HB' : Hid (∀ o ∈ os, ook o = false → c = 4 ∧ T = ⟨#[]⟩) := HB.out ns
  have HC' : Hid ((∀ o ∈ os, ook o = true) → (40 < oln os ∨ 65455 < h.d.size) → c = 2 ∧ T = ⟨#[]⟩) := HC.out ns
  have HD' : Hid ((∀ o ∈ os, ook o = true) → ¬ (40 < oln os ∨ 65455 < h.d.size) → c = 0 ∧ T = ⟨(stxt h os f t).toArray⟩) := HD.out ns
  obtain ⟨f0, f1⟩ := a1
  obtain ⟨t0, t1⟩ := a2
  obtain ⟨w0, w1⟩ := a3
  obtain ⟨u0, u1⟩ := a4
  obtain ⟨g0, g1⟩ := a5
  clear HA HB HC HD HS ns
  go_wp2_with fail
  go_loopw [8, 46] (fun x i wr => ∃ (k : Nat) (y : ByteArray), i = .int .i64 (k : Int) ∧ x = .string y ∧ k ≤ n ∧ y.size ≤ 80 ∧ Hid (Sofar os k y) ∧ Hid (∀ o ∈ os.take k, ook o = true) ∧ Blk wr w.heap.size (h.cells (.slice sa n sc)) 25 ∧ Below w.heap.size w wr) (fun _ i _ => n - (intOf i).toNat)
  case atStart => exact ⟨0, ⟨#[]⟩, rfl, rfl, Nat.zero_le _, by decide, (Or.inl rfl : Sofar os 0 ⟨#[]⟩), (fun o ho => by simp at ho : ∀ o ∈ os.take 0, ook o = true), F0, d0⟩
  case round =>
    clear F0 d0 cf
    obtain ⟨k, y, rfl, rfl, hk, yz, SF, AK, F, bel⟩ := hrel
    by_cases hlt : k < n
    · have hN := HN.out
      obtain ⟨o, ho⟩ : ∃ o, os[k]? = some o := ⟨os[k]'(by omega), List.getElem?_eq_getElem _⟩
      have om := List.mem_of_getElem? ho
      have CO := fun u => optionText_any o u
      have S1 : Hid (ook o = true → y.size ≤ 40 → Sofar os (k + 1) (y ++ ott o)) := fun h1 h2 => sofar_add os k y o ho h1 SF.out h2
      have S2 : Hid (40 < y.size → Sofar os (k + 1) y) := fun h1 => sofar_stay os k y SF.out h1
      have A1 : Hid (ook o = true → ∀ x ∈ os.take (k + 1), ook x = true) := by
        intro hh x hx
        have := (List.getElem?_eq_some_iff.1 ho).2
        rw [List.take_succ_eq_append_getElem (show k < os.length by omega), List.mem_append, this] at hx
        rcases hx with hx | hx
        · exact AK.out x hx
        · rw [List.mem_singleton.1 hx]; exact hh
      have B1 : Hid (ook o = false → c = 4 ∧ T = ⟨#[]⟩) := fun hh => HB'.out o om hh
      have OZ : Hid (ook o = true → (ott o).size ≤ 40) := ott_size o
      obtain ⟨bb, off, sc', e, hbb, _, hc⟩ := rd_at HR.out (by omega)
      simp only [Value.slice.injEq] at e
      obtain ⟨rfl, hnn, rfl⟩ := e
      clear hnn
      have hc' : ∀ (j : Nat) x, os[j]? = some x → ∀ i, i < OK.k → wr.cell? ⟨bb, off + j * OK.k + i, none⟩ = (OK.enc x)[i]? := fun j x hx i hi => (bel.cell (p := ⟨bb, off + j * OK.k + i, none⟩) hbb).trans (hc j x hx i hi)
      have hlt' : (k : Int) < (n : Int) := by omega
      have zB := bel.size
      generalize ook o = okb at *
      generalize ott o = ob at *
      obtain ⟨ki, d⟩ := o
      have F1 := F.alloc (.cells (Opt.cells ⟨ki, d⟩) 40)
      have bel1 := bel.alloc zB (.cells (Opt.cells ⟨ki, d⟩) 40)
      have D1 := Blk.new wr (Opt.cells ⟨ki, d⟩) 40
      clear hN hc om SF AK F bel HB' HC' HD'
      go_upto_region 7 with (refine rd_load OK _ rfl _ rfl bb off os hc' k _ rfl rfl _ ho (Opt.cells ⟨ki, d⟩) rfl _ Tryd.underlying40 rfl ?_)
      change Code.wp _ _ _ _ (wr.alloc (.cells (Opt.cells ⟨ki, d⟩) 40))
      generalize wr.alloc (.cells (Opt.cells ⟨ki, d⟩) 40) = V at *
      clear hc' ho
      go_wp2_with (refine blk_load _ rfl 40 _ rfl wr.heap.size rfl _ _ D1 _ Tryd.underlying40 rfl 2 op_info rfl ?_)
      refine (CO _).mono ?_
      rintro e w2 ⟨rfl, l2⟩
      have F2 := F1.below l2 F1.lt
      have b2 := bel1.trans (l2.mono bel1.size)
      clear CO F1 bel1 D1 l2
      cases okb with
      | false =>
        have E := B1.out rfl
        have e1 : Hid (c = 4) := E.1
        have e2 : Hid (T = ⟨#[]⟩) := E.2
        clear E B1 S1 S2 A1 OZ
        go_wp2_with fail
        go_ret2
        exact ⟨ret_text e2.out.symm e1.out.symm, b2⟩
      | true =>
        have A2 : Hid (∀ x ∈ os.take (k + 1), ook x = true) := A1.out rfl
        have oz := OZ.out rfl
        by_cases y40 : y.size ≤ 40
        · have S3 : Hid (Sofar os (k + 1) (y ++ ob)) := S1.out rfl y40
          have y40' : (y.size : Int) ≤ 40 := by omega
          have zy : (y ++ ob).size ≤ 80 := by rw [ByteArray.size_append]; omega
          clear A1 B1 S1 S2 OZ
          go_wp2_with fail
          go_roundw
          case rel => exact ⟨k + 1, _, by go_num, rfl, by omega, zy, S3, A2, F2, b2⟩
          case measure => simp [intOf]; omega
        · have S3 : Hid (Sofar os (k + 1) y) := S2.out (by omega)
          have y40' : ¬ (y.size : Int) ≤ 40 := by omega
          clear A1 B1 S1 S2 OZ
          go_wp2_with fail
          go_roundw
          case rel => exact ⟨k + 1, _, by go_num, rfl, by omega, yz, S3, A2, F2, b2⟩
          case measure => simp [intOf]; omega
    · have hN := HN.out
      have e : os.take k = os := by rw [List.take_of_length_le (by omega)]
      have ek : k = os.length := by omega
      have AO := AK.out
      rw [e] at AO
      have SE := SF.out
      rw [ek] at SE
      obtain ⟨s1, s2⟩ := sofar_end os y SE
      have hlt' : ¬ (k : Int) < (n : Int) := by omega
      have r1 : Rd OK wr (.slice sa n sc) os := HR.out.below (bel.mono (Nat.le_refl _))
      have CN := none_bad (.slice sa n sc) os wr r1 AO
      have cF := F.cell
      clear SF AK SE e ek hN HB' HR
      go_wp2_with fail
      refine CN.mono ?_
      rintro e w2 ⟨rfl, l2⟩
      have F2 := F.below l2 F.lt
      have b2 := bel.trans (l2.mono bel.size)
      clear cF CN F bel l2 r1
      have cF := F2.cell
      by_cases y40 : 40 < y.size
      · have E := HC'.out AO (Or.inl (s1.1 y40))
        have e1 : Hid (c = 2) := E.1
        have e2 : Hid (T = ⟨#[]⟩) := E.2
        have y40' : (40 : Int) < (y.size : Int) := by omega
        clear E HC' HD' s1 s2 AO
        go_wp2_with fail
        go_ret2
        exact ⟨ret_text e2.out.symm e1.out.symm, b2⟩
      have y40' : ¬ (40 : Int) < (y.size : Int) := by omega
      by_cases d40 : 65455 < h.d.size
      · have E := HC'.out AO (Or.inr d40)
        have e1 : Hid (c = 2) := E.1
        have e2 : Hid (T = ⟨#[]⟩) := E.2
        have d40' : (65455 : Int) < (h.d.size : Int) := by omega
        clear E HC' HD' s1 s2 AO
        go_wp2_with fail
        go_ret2
        exact ⟨ret_text e2.out.symm e1.out.symm, b2⟩
      have d40' : ¬ (65455 : Int) < (h.d.size : Int) := by omega
      have E := HD'.out AO (by rintro (hh | hh); exact y40 (s1.2 hh); exact d40 hh)
      have e1 : Hid (c = 0) := E.1
      have e2 : Hid (T = ⟨(stxt h os f t).toArray⟩) := E.2
      have yl : y.data.toList = otx os := s2 (by omega)
      have ym : y.size = oln os := by rw [← size_list, yl]; rfl
      clear E HC' HD' s1 s2 AO
      go_upto_region 18 with fail
      have pl := padded os y yl
      have ck := sck_bd h os f t
      have hdlq : hdl os = 20 + (oln os + 3) / 4 * 4 := rfl
      have q44 : (oln os + 3) / 4 * 4 ≤ 40 := by omega
      generalize (y ++ (⟨#[0, 0, 0]⟩ : ByteArray)).extract 0 ((oln os + 3) / 4 * 4) = P at *
      have pz : P.size = (oln os + 3) / 4 * 4 := by rw [← size_list, pl]; exact op_len os
      obtain ⟨V5, e5⟩ : ∃ V : ByteArray, V = ⟨([4 * (hdl os : Int), h.fl].map refb.b8).toArray⟩ := ⟨_, rfl⟩
      have HJ : Hid ((wbs h.fr ++ wbs h.to ++ ⟨(adr h.sq).toArray⟩ ++ ⟨(adr h.ak).toArray⟩ ++ V5 ++ wbs h.wi ++ wbs 0 ++ wbs h.ur ++ P ++ h.d).data.toList = sgx h os 0) := all_joined h os P pl V5 (by rw [e5]; rfl)
      have HF : Hid (∀ S : ByteArray, S.data.toList = sgx h os 0 → S.extract 0 16 ++ wbs (sck h os f t) ++ S.extract 18 S.size = ⟨(stxt h os f t).toArray⟩) := fun S hS => all_ended h os f t S hS
      have HK : Hid (65535 - wsum 0 (und f t 6 (hdl os + h.d.size : Nat) ++ sgx h os 0) = sck h os f t) := (rfl : _ = _)
      have z5 : V5.size = 2 := by rw [e5]; rfl
      have CW : ∀ (k : Int) u, 0 ≤ k → k ≤ 65535 → Calls Tryd.prog 29 #[.int .i64 k] u fun e w' => e = .returned (.string (wbs k)) ∧ Below u.heap.size u w' := fun k u h0 h1 => word_ref k u h0 h1
      have CL1 := fun u => long_ref h.sq u ha.s0 ha.s1
      have CL2 := fun u => long_ref h.ak u ha.a0 ha.a1
      have z3 : (⟨(adr h.sq).toArray⟩ : ByteArray).size = 4 := rfl
      have z4 : (⟨(adr h.ak).toArray⟩ : ByteArray).size = 4 := rfl
      obtain ⟨q, eq⟩ : ∃ q, q = (oln os + 3) / 4 * 4 := ⟨_, rfl⟩
      rw [← eq] at pz hdlq q44
      have CB : ∀ (b : Nat) (u : World), Blk u b #[.int .i64 (4 * ((q : Int) + 20)), .int .i64 h.fl] 3 → Calls Tryd.prog 31 #[.slice (some ⟨b, 0, none⟩) 2 2] u fun e w' => e = .returned (.string V5) ∧ Below u.heap.size u w' := fun b u B => by
        rw [e5, show (4 * (hdl os : Int)) = 4 * ((q : Int) + 20) by rw [hdlq]; omega]
        refine bytes_any u b 0 2 [4 * ((q : Int) + 20), h.fl] B.lt (by simp) ?_
        intro j hj
        match j, hj with
        | 0, _ | 1, _ => simp [B.cell]
      generalize (⟨(adr h.sq).toArray⟩ : ByteArray) = V3 at *
      generalize (⟨(adr h.ak).toArray⟩ : ByteArray) = V4 at *
      have zf := wbs_size h.fr
      have zt := wbs_size h.to
      have zw := wbs_size h.wi
      have z0 := wbs_size 0
      have zu := wbs_size h.ur
      have HZ : Hid (hdl os = 20 + q) := hdlq
      clear e5 pl yl ym eq hdlq y40 d40 y40' d40' HN cF
      have wr4 : IntKind.i64.wrap (4 * ((q : Int) + 20)) = 4 * ((q : Int) + 20) := by rw [IntKind.wrap_i64]; omega
      go_upto_region 19 with fail
      have ne : Nonempty (spc.In (ab.Ab w2)) := ⟨⟨_, ab.Ab.refl w2⟩⟩
      have cm : ∀ (x : spc.In (ab.Ab w2)) k, x.W.cell? ⟨w.heap.size, k, none⟩ = (h.cells (.slice sa n sc))[k]? := fun x k => (Below.cell x.h (p := ⟨w.heap.size, k, none⟩) F2.lt).trans (F2.cell k)
      refine' spc.wp_region_told_in [(2, .string (wbs h.fr)), (5, .string (wbs h.to)), (9, .string V3), (13, .string V4), (19, undef), (20, .string V5), (24, .string (wbs h.wi)), (26, .string (wbs 0)), (30, .string (wbs h.ur))] [(19, 106)]
        (fun k v W => ∃ b, v = .slice (some ⟨b, 0, none⟩) 2 2 ∧ Blk W b #[.int .i64 (4 * ((q : Int) + 20)), .int .i64 h.fl] 3) (ab.Ab w2) (fun W W' => Below W.heap.size W W') (by kernel_rfl) (by kernel_rfl) (ab.Ab.drew w2)
        (fun k v W W' hb h => (let ⟨b, e, B⟩ := h; ⟨b, e, B.below hb B.lt⟩)) (by simp only [spc.rep, List.lookup, Nat.zero_add, Nat.reduceAdd, Nat.reduceBEq]; exact rfl) ?_
      repeat (go_big_quiet_step (fail))
      refine wpQuiet_nil ⟨?_, ?_⟩
      · simp only [List.forall_mem_cons, List.not_mem_nil, false_imp_iff, implies_true, and_true]
        have hcl : ∀ {u u' : World}, ab.Ab w2 u → Below u.heap.size u u' → ab.Ab w2 u' := fun hC hb => Below.trans hC (hb.mono (Below.size hC))
        refine ⟨?_, ?_, ?_, ?_, ?_, ?_, ?_, ?_, ?_⟩
        · rintro _ ⟨⟩ x u hC - -
          exact told.call1 29 _ _ _ rfl (by intro args w; simp [go_sem]) rfl ((CW _ _ f0 f1).mono fun e w3 ⟨he, hb⟩ => ⟨_, he, hcl hC hb, hb, rfl⟩)
        · rintro _ ⟨⟩ x u hC - -
          exact told.call1 29 _ _ _ rfl (by intro args w; simp [go_sem]) rfl ((CW _ _ t0 t1).mono fun e w3 ⟨he, hb⟩ => ⟨_, he, hcl hC hb, hb, rfl⟩)
        · rintro _ ⟨⟩ x u hC - -
          exact told.call1 30 _ _ _ rfl (by intro args w; simp [go_sem]) rfl ((CL1 _).mono fun e w3 ⟨he, hb⟩ => ⟨_, he, hcl hC hb, hb, rfl⟩)
        · rintro _ ⟨⟩ x u hC - -
          exact told.call1 30 _ _ _ rfl (by intro args w; simp [go_sem]) rfl ((CL2 _).mono fun e w3 ⟨he, hb⟩ => ⟨_, he, hcl hC hb, hb, rfl⟩)
        · rintro _ ⟨⟩ x u hC - -
          refine told.build2 _ _ (4 * ((q : Int) + 20)) h.fl rfl ?e1 rfl ⟨hcl hC ((Below.refl _ _).alloc (Nat.le_refl _) _), (Below.refl _ _).alloc (Nat.le_refl _) _, ?_⟩
          case e1 => first | rfl | exact congrArg (Value.int .i64) wr4
          rw [if_pos (by decide)]
          exact ⟨_, rfl, Blk.new _ _ _⟩
        · rintro _ ⟨⟩ x u hC hS -
          obtain ⟨b, e, B⟩ := hS (19, 106) (by simp) (by simp [Oper.looksAt, Op.operands, Call.operands])
          exact told.call1 31 _ _ (.slice (some ⟨b, 0, none⟩) 2 2) rfl (by intro args w; simp [go_sem]) e ((CB b u B).mono fun e w3 ⟨he, hb⟩ => ⟨_, he, hcl hC hb, hb, rfl⟩)
        · rintro _ ⟨⟩ x u hC - -
          exact told.call1 29 _ _ _ rfl (by intro args w; simp [go_sem]) rfl ((CW _ _ w0 w1).mono fun e w3 ⟨he, hb⟩ => ⟨_, he, hcl hC hb, hb, rfl⟩)
        · rintro _ ⟨⟩ x u hC - -
          exact told.call1 29 _ _ _ rfl (by intro args w; simp [go_sem]) rfl ((CW _ _ (by omega) (by omega)).mono fun e w3 ⟨he, hb⟩ => ⟨_, he, hcl hC hb, hb, rfl⟩)
        · rintro _ ⟨⟩ x u hC - -
          exact told.call1 29 _ _ _ rfl (by intro args w; simp [go_sem]) rfl ((CW _ _ u0 u1).mono fun e w3 ⟨he, hb⟩ => ⟨_, he, hcl hC hb, hb, rfl⟩)
      intro x W hC hS
      have bW := b2.trans (Below.mono hC b2.size)
      clear hS CB CL1 CL2 ne cm F2 b2 hC wr4
      simp only [spc.jn, Act.put, List.setIfInBounds_toArray, List.set_cons_succ, List.set_cons_zero]
      have zS : (wbs h.fr ++ wbs h.to ++ V3 ++ V4 ++ V5 ++ wbs h.wi ++ wbs 0 ++ wbs h.ur ++ P ++ h.d).size = 20 + q + h.d.size := by
        simp only [ByteArray.size_append]; omega
      generalize wbs h.fr ++ wbs h.to ++ V3 ++ V4 ++ V5 ++ wbs h.wi ++ wbs 0 ++ wbs h.ur ++ P ++ h.d = S at *
      have sl := HJ.out
      have HR : Hid (S.extract 0 16 ++ wbs (sck h os f t) ++ S.extract 18 S.size = ⟨(stxt h os f t).toArray⟩) := HF.out S sl
      obtain ⟨U, eU⟩ : ∃ U : ByteArray, U = ⟨(und f t 6 (S.size : Int)).toArray⟩ := ⟨_, rfl⟩
      have CU := fun u => underText_any f t 6 (S.size : Int) u hf ht
      rw [← eU] at CU
      have zU : U.size = 12 := by rw [eU]; show (List.toArray _).size = _; rw [List.size_toArray, und_len]
      have CC : ∀ u, Calls Tryd.prog 32 #[.string (U ++ S)] u fun e w' => e = .returned (.int .i64 (sck h os f t)) ∧ w' = u := fun u => by
        have := sumr.check_any (U ++ S) u (by rw [ByteArray.size_append]; omega)
        rw [app_list, sl] at this
        have e : U.data.toList = und f t 6 (hdl os + h.d.size : Nat) := by
          rw [eU]
          show und f t 6 (S.size : Int) = _
          rw [zS, HZ.out]
        rw [e, HK.out] at this
        exact this
      have g16 : (16 : Int) ≤ S.size := by omega
      have g18 : (18 : Int) ≤ S.size := by omega
      have zA : (S.extract 0 16).size = 16 := by rw [ByteArray.size_extract]; omega
      have zB : (S.extract 18 S.size).size ≤ 70000 := by rw [ByteArray.size_extract]; omega
      have zD : S.size ≤ 70000 := by omega
      have zC := wbs_size (sck h os f t)
      clear sl HF HJ HK eU zf zt zw z0 zu z3 z4 z5 HZ zS
      generalize sck h os f t = ckv at *
      obtain ⟨k0, k1⟩ := ck
      go_upto_region 20 with fail
      have ne := ab.ne W
      refine ab.region (by kernel_rfl) (by kernel_rfl) ?_
      repeat (go_big_quiet_step (first
        | (go_at_call 33; exact ab.call (CU _))
        | (go_at_call 32; exact ab.call_same (CC _))
        | (go_at_call 29; exact ab.call (CW _ _ (by omega) (by omega)))))
      refine wpQuiet_nil ?_
      intro _ hx
      obtain ⟨z, rfl⟩ := hx
      have Kz := z.h
      generalize z.W = W5 at Kz ⊢
      have b5 := bW.trans (Kz.mono bW.size)
      clear ne Kz bW CU CC CW
      go_wp2_with fail
      go_ret2
      exact ⟨ret_text (by rw [HR.out, e2.out]) e1.out.symm, b5⟩
end Go.Proofs.YtpcknkpddinccaaDoor.tcf5
