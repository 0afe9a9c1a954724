/- The walk through custkeep.TcpTold. -/
import Derived.Test.YtpcknkpddinccaaDoorTcpLives
import Derived.Test.YtpcknkpddinccaaDoorTcpSame
import Derived.Test.YtpcknkpddinccaaDoorRowOf
import Derived.Deep.DeepCutAuto
namespace Go.Proofs.YtpcknkpddinccaaDoor.tctl
open Go.ChangeShapes Go.WideShapes Go.ChangeAt Go.RowKit Go.BigFrame
open Go.Proofs.YtpcknkpddinccaaDoor Go.Proofs.YtpcknkpddinccaaDoor.EM Go.Proofs.YtpcknkpddinccaaDoor.ethb Go.Proofs.YtpcknkpddinccaaDoor.SM Go.Proofs.YtpcknkpddinccaaDoor.ipb Go.Proofs.YtpcknkpddinccaaDoor.boxes Go.Proofs.YtpcknkpddinccaaDoor.wds Go.Proofs.YtpcknkpddinccaaDoor.tcb Go.Proofs.YtpcknkpddinccaaDoor.tct Go.Proofs.YtpcknkpddinccaaDoor.tcrb Go.Proofs.YtpcknkpddinccaaDoor.rwr Go.Proofs.YtpcknkpddinccaaDoor.tcm Go.Proofs.YtpcknkpddinccaaDoor.tcrm Go.Proofs.YtpcknkpddinccaaDoor.tcs Go.Proofs.YtpcknkpddinccaaDoor.tcl Go.Proofs.YtpcknkpddinccaaDoor.onem Go.Proofs.YtpcknkpddinccaaDoor.rwo
open Go.Proofs.YtpcknkpddinccaaDoor.rws (Knd Own)
open Go.Proofs.YtpcknkpddinccaaDoor.refb (Row Row.put)
open Go.Proofs.YtpcknkpddinccaaDoor.dgi (Ad)
open Go.Proofs.YtpcknkpddinccaaDoor.ipm (bytes_ext ext_list size_list)

/-- what Read answers to a segment's bytes of which one bit is other -/
theorem seg_turned (h : Sh) (os : List Opt) (f t : Int) (i r : Nat) (hp : SOk h os) (hf : Ad f) (ht : Ad t) (hr : r < 8) (hi : i < (stxt h os f t).length) (u : World) :
    ∃ er : Int, er ≠ 0 ∧ Calls Tryd.prog 10 #[.string ⟨((stxt h os f t).set i (turn (stxt h os f t)[i] r)).toArray⟩, .int .u32 f, .int .u32 t] u fun e w' => ∃ sa sc, e = .returned (.tuple #[.agg (zeroS.cells (.slice sa 0 sc)), .int .i64 er]) ∧ Rd OK w' (.slice sa 0 sc) [] ∧ Below u.heap.size u w' := by
  have he := turned h os f t i r hr hi
  have := hdl_bd hp
  have hd1 := hp.d1
  have hl : (stxt h os f t).length = hdl os + h.d.size := sgx_len h os _
  refine ⟨_, he, (tcr3.read_any _ f t u ?_ hf ht).mono ?_⟩
  · rw [← size_list]
    show ((stxt h os f t).set i _).length ≤ _
    rw [List.length_set, hl]; omega
  · have eh : ∀ s, rse s f t ≠ 0 → rgh s f t = zeroS := fun s h => by unfold rgh; rw [if_neg h]
    have eo : ∀ s, rse s f t ≠ 0 → rgo s f t = [] := fun s h => by unfold rgo; rw [if_neg h]
    rw [eh _ he, eo _ he]
    rintro e w' ⟨v', rfl, o, hb⟩
    obtain ⟨sa, sc, rfl⟩ := (Own.rd o).form
    exact ⟨sa, sc, rfl, Own.rd o, hb⟩
set_option maxRecDepth 20000 in
set_option maxHeartbeats 8000000 in
theorem walk (h : Sh) (v : Value) (os : List Opt) (f t x : Int) (w : World) (hr : Rd OK w v os) (ha : h.Adr) (hl : os.length ≤ 6000000000000) (hd : h.d.size ≤ 140737488351232) (hf : Ad f) (ht : Ad t) (x0 : -9223372036854775808 ≤ x) (x1 : x ≤ 9223372036854775807) :
    Calls Tryd.prog 6 #[.agg (h.cells v), .int .u32 f, .int .u32 t, .int .i64 x] w fun e w' => e = .returned (.bool true) ∧ Below w.heap.size w w' := by
  have C1 := fun u hu => tcw4.write_any h v os f t u hu hl hd ha hf ht
  have HL : Hid (serr h os = 0 → sout h os f t = ⟨(stxt h os f t).toArray⟩ ∧ SOk h os) := fun he => ⟨by unfold sout; rw [if_pos he], sok he⟩
  generalize sout h os f t = S at C1 HL
  generalize serr h os = E at C1 HL
  have F0 := Blk.new w (h.cells v) 25
  have d0 := (Below.refl w.heap.size w).alloc (Nat.le_refl _) (.cells (h.cells v) 25)
  have r0 := hr.below d0
  obtain ⟨sa, sc, rfl⟩ := hr.form
  clear hr
  go_enter Tryd.func6, Tryd.ntmps6
  go_wp2_with (refine blk_load _ rfl 25 _ rfl w.heap.size rfl _ _ F0 _ Tryd.underlying25 rfl 9 sg_info rfl ?_)
  refine (C1 _ r0).mono ?_
  rintro e w1 ⟨rfl, l1⟩
  have d1 := d0.trans (l1.mono d0.size)
  clear C1 F0 d0 r0 l1
  go_wp2_with fail
  refine (lives _).mono ?_
  rintro r w3 ⟨rfl, hb3⟩
  have b3 := d1.trans (hb3.mono d1.size)
  clear d1 hb3
  by_cases xe : E = 0
  case neg =>
    have xe' : (E != 0) = true := by simpa using xe
    clear HL xe
    go_wp2_with fail
    refine (lives _).mono ?_
    rintro r w4 ⟨rfl, hb4⟩
    have b4 := b3.trans (hb4.mono b3.size)
    go_wp2_with fail
    go_ret
    exact ⟨rfl, b4⟩
  obtain ⟨eS, hp⟩ := HL.out xe
  subst xe
  by_cases xn : x < 0
  · clear HL eS
    go_wp2_with fail
    refine (lives _).mono ?_
    rintro r w4 ⟨rfl, hb4⟩
    have b4 := b3.trans (hb4.mono b3.size)
    go_wp2_with fail
    go_ret
    exact ⟨rfl, b4⟩
  have xn' : decide (x < 0) = false := by simp; omega
  have xp : 0 ≤ x := by omega
  obtain ⟨i, ei⟩ : ∃ i : Nat, x / 8 = (i : Int) := ⟨(x / 8).toNat, by omega⟩
  obtain ⟨rr, er⟩ : ∃ r : Nat, x % 8 = (r : Int) := ⟨(x % 8).toNat, by omega⟩
  have hr : rr < 8 := by omega
  have tq : x.tdiv 8 = (i : Int) := by rw [Int.tdiv_eq_ediv_of_nonneg xp, ei]
  have tm : x.tmod 8 = (rr : Int) := by rw [Int.tmod_eq_emod_of_nonneg xp, er]
  have i9 : i ≤ 1152921504606846976 := by omega
  clear xn HL
  have hd1 := hp.d1
  have hh := hdl_bd hp
  have lS : S.data.toList = stxt h os f t := by rw [eS]
  have zL : (stxt h os f t).length = hdl os + h.d.size := sgx_len h os _
  have zS : S.size = (stxt h os f t).length := by rw [← size_list, lS]
  by_cases hiS : i < S.size
  case neg =>
    have a2' : decide ((S.size : Int) ≤ i) = true := by simp; omega
    clear eS lS zL zS
    go_wp2_with fail
    refine (lives _).mono ?_
    rintro r w4 ⟨rfl, hb4⟩
    have b4 := b3.trans (hb4.mono b3.size)
    go_wp2_with fail
    go_ret
    exact ⟨rfl, b4⟩
  have a2' : decide ((S.size : Int) ≤ i) = false := by simp; omega
  have hi : i < (stxt h os f t).length := by omega
  have hcv := rwo.conv S
  have CR := fun u => seg_turned h os f t i rr hp hf ht hr hi u
  obtain ⟨L', hL'⟩ : ∃ L', L' = (stxt h os f t).set i (turn (stxt h os f t)[i] rr) := ⟨_, rfl⟩
  rw [← hL'] at CR
  obtain ⟨L, hL⟩ : ∃ L, L = stxt h os f t := ⟨_, rfl⟩
  have hil : i < L.length := by rw [hL]; exact hi
  have HFL : Hid (L' = L.set i (turn L[i] rr)) := by
    show _ = _
    subst hL
    exact hL'
  rw [← hL] at zS zL lS
  clear hL hL' eS hi hp
  obtain ⟨m, hm⟩ : ∃ m, S.size = m := ⟨_, rfl⟩
  rw [hm] at hcv zS hiS a2'
  have m1 : m ≤ 65600 := by omega
  have im : (i : Int) < m := by omega
  have zL' : L'.length = m := by rw [HFL.out, List.length_set]; exact zS.symm
  have HZ : Hid (m = L.length ∧ L'.length = m) := ⟨zS, zL'⟩
  clear zS zL zL' hh
  go_upto_region 4 with fail
  go_cut [11] (fun v wx => ∃ b cap, v = .slice (some ⟨b, 0, none⟩) m cap ∧ m ≤ cap ∧ w.heap.size ≤ b ∧ b < wx.heap.size ∧ Row wx b L ∧ Below w.heap.size w wx)
  case first =>
    go_wp2_with fail
    go_meet
    have rm := row_drew (row_made w3 S (grownCap w3 m 0 5) 5)
    rw [← lS]
    exact ⟨_, _, rfl, grownCap_ge _ _ _ _, b3.size, by simp, rm, Below.drew (b3.alloc b3.size _)⟩
  case rest =>
    obtain ⟨b, cap, rfl, hcap, hB, hb, row, bel⟩ := hcut
    clear hcv lS
    obtain ⟨c0, f0⟩ := row i hil
    go_wp2_with fail
    go_region
    rw [bits_turn _ _ hr]
    have hput : Row (wc.setCell ⟨b, i, none⟩ (.int .u8 ((turn L[i] rr).toNat : Int))).drew b L' := by
      rw [HFL.out]; exact row_drew (row.put i hil _)
    have b4 : Below w.heap.size w (wc.setCell ⟨b, i, none⟩ (.int .u8 ((turn L[i] rr).toNat : Int))).drew := Below.drew (bel.setCell (p := ⟨b, i, none⟩) hB _)
    generalize (wc.setCell ⟨b, i, none⟩ (.int .u8 ((turn L[i] rr).toNat : Int))).drew = W at hput b4 ⊢
    obtain ⟨ez, ez'⟩ := HZ.out
    have hback := row_back (cap := cap) hput
    rw [ez'] at hback
    obtain ⟨e', ne', CR1⟩ := CR W
    clear CR row c0 f0 bel
    generalize (⟨L'.toArray⟩ : ByteArray) = Z at CR1 hback
    have en : (e' != 0) = true := by simpa using ne'
    clear ez ez' HZ ne' hput
    go_wp2_with fail
    refine CR1.mono ?_
    rintro r w5 ⟨sa5, sc5, rfl, q5, hb5⟩
    have b5 := b4.trans (hb5.mono b4.size)
    clear CR1 hb5 hback b4
    have dA := (Below.refl w5.heap.size w5).alloc (Nat.le_refl _) (.cells (zeroS.cells (.slice none 0 0)) 25)
    go_upto_region 7 with (refine blk_store _ rfl 25 _ _ rfl w5.heap.size (zeroS.cells (.slice sa5 0 sc5)) rfl rfl _ _ (Blk.new w5 (zeroS.cells (.slice none 0 0)) 25) 9 sg_info rfl rfl (sg_one _ _ _ _) ?_; intro W6 k6 p6)
    have l6 := p6.below dA (Nat.le_refl _)
    have d6 := b5.trans (l6.mono b5.size)
    have SM6 := same_any zeroS (.slice sa5 0 sc5) (.slice none 0 0) [] W6 (q5.below l6) (Own.rd (Own.nil OK W6 0))
    have c6 := k6.cell
    clear b5 q5 p6 l6 dA
    go_wp2_with fail
    refine SM6.mono ?_
    rintro e w7 ⟨rfl, l7⟩
    have d7 := d6.trans (l7.mono d6.size)
    clear SM6 k6 c6 d6 l7
    go_wp2_with fail
    go_ret
    exact ⟨rfl, d7⟩
end Go.Proofs.YtpcknkpddinccaaDoor.tctl
