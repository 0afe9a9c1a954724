/- The walk through custkeep.TcpBack. -/
import Derived.Test.YtpcknkpddinccaaDoorTcpLives
import Derived.Test.YtpcknkpddinccaaDoorTcpSame
import Derived.Deep.DeepCutAuto
namespace Go.Proofs.YtpcknkpddinccaaDoor.tcbk
open Go.ChangeShapes Go.WideShapes Go.ChangeAt Go.RowKit Go.BigFrame
open Go.Proofs.YtpcknkpddinccaaDoor Go.Proofs.YtpcknkpddinccaaDoor.EM Go.Proofs.YtpcknkpddinccaaDoor.ethb Go.Proofs.YtpcknkpddinccaaDoor.SM Go.Proofs.YtpcknkpddinccaaDoor.ipb Go.Proofs.YtpcknkpddinccaaDoor.boxes Go.Proofs.YtpcknkpddinccaaDoor.wds Go.Proofs.YtpcknkpddinccaaDoor.tcb Go.Proofs.YtpcknkpddinccaaDoor.tct Go.Proofs.YtpcknkpddinccaaDoor.tcrb Go.Proofs.YtpcknkpddinccaaDoor.rwr Go.Proofs.YtpcknkpddinccaaDoor.tcm Go.Proofs.YtpcknkpddinccaaDoor.tcrm Go.Proofs.YtpcknkpddinccaaDoor.tcs Go.Proofs.YtpcknkpddinccaaDoor.tcl
open Go.Proofs.YtpcknkpddinccaaDoor.rws (Knd Own)
open Go.Proofs.YtpcknkpddinccaaDoor.dgi (Ad)
open Go.Proofs.YtpcknkpddinccaaDoor.ipm (bytes_ext ext_list size_list)

theorem txt_size (h : Sh) (os : List Opt) (f t : Int) : (⟨(stxt h os f t).toArray⟩ : ByteArray).size = hdl os + h.d.size := sg_size h os _
set_option maxRecDepth 20000 in
set_option maxHeartbeats 8000000 in
theorem walk (h : Sh) (v : Value) (os : List Opt) (f t : Int) (s : ByteArray) (w : World) (hr : Rd OK w v os) (ha : h.Adr) (hl : os.length ≤ 6000000000000) (hd : h.d.size ≤ 140737488351232) (hs : s.size ≤ 140737488351232) (hf : Ad f) (ht : Ad t) :
    Calls Tryd.prog 4 #[.agg (h.cells v), .int .u32 f, .int .u32 t, .string s] w fun e w' => e = .returned (.bool true) ∧ Below w.heap.size w w' := by
  have C1 := fun u hu => tcw4.write_any h v os f t u hu hl hd ha hf ht
  have HL : Hid (serr h os = 0 → sout h os f t = ⟨(stxt h os f t).toArray⟩ ∧ SOk h os) := fun he => ⟨by unfold sout; rw [if_pos he], sok he⟩
  generalize sout h os f t = S at C1 HL
  generalize serr h os = E at C1 HL
  have F0 := Blk.new w (h.cells v) 25
  have d0 := (Below.refl w.heap.size w).alloc (Nat.le_refl _) (.cells (h.cells v) 25)
  have r0 := hr.below d0
  obtain ⟨sa, sc, rfl⟩ := hr.form
  have HSM : Hid (∀ u x, Rd OK u x os → Rd OK u (.slice sa os.length sc) os → Calls Tryd.prog 12 #[.agg (h.cells x), .agg (h.cells (.slice sa os.length sc))] u fun e w' => e = .returned (.bool true) ∧ Below u.heap.size u w') := fun u x h1 h2 => same_any h x _ os u h1 h2
  have HRD : Hid (E = 0 → ∀ u, Calls Tryd.prog 10 #[.string S, .int .u32 f, .int .u32 t] u fun e w' => ∃ sa2 sc2, e = .returned (.tuple #[.agg (h.cells (.slice sa2 os.length sc2)), .int .i64 0]) ∧ Own OK w' u.heap.size (.slice sa2 os.length sc2) os ∧ Below u.heap.size u w') := by
    intro he u
    obtain ⟨eS, hp⟩ := HL.out he
    have zS : S.size = hdl os + h.d.size := by rw [eS]; exact txt_size h os f t
    have := hdl_bd hp
    have hd1 := hp.d1
    refine (tcr3.read_any S f t u (by omega) hf ht).mono ?_
    obtain ⟨e1, e2, e3⟩ := back hp ha f t
    rw [← eS] at e1 e2 e3
    rw [e1, e2, e3]
    rintro e w' ⟨v', rfl, o, hb⟩
    obtain ⟨sa2, sc2, rfl⟩ := (Own.rd o).form
    exact ⟨sa2, sc2, rfl, o, hb⟩
  clear hr HL
  go_enter Tryd.func4, Tryd.ntmps4
  go_wp2_with (refine blk_load _ rfl 25 _ rfl w.heap.size rfl _ _ F0 _ Tryd.underlying25 rfl 9 sg_info rfl ?_)
  refine (C1 _ r0).mono ?_
  rintro e w1 ⟨rfl, l1⟩
  have F1 := F0.below l1 F0.lt
  have d1 := d0.trans (l1.mono d0.size)
  have r1 := r0.below l1
  clear C1 F0 d0 r0 l1
  go_upto_if 26 with fail
  go_cut [] (fun wx => Below w.heap.size w wx)
  case first =>
    by_cases he : E = 0
    case neg =>
      have he' : (E == 0) = false := by simpa using he
      go_wp2_with fail
      go_meet
      exact d1
    have CR := HRD.out he
    have SM := HSM.out
    subst he
    clear HRD HSM
    generalize os.length = n at *
    go_wp2_with fail
    refine (CR _).mono ?_
    rintro e w2 ⟨sa2, sc2, rfl, o2, l2⟩
    have F2 := F1.below l2 F1.lt
    have d2 := d1.trans (l2.mono d1.size)
    have r2 := r1.below l2
    have q2 := Own.rd o2
    have f2 := F2.lt
    clear CR F1 d1 r1 l2 o2
    have dA := (Below.refl w2.heap.size w2).alloc (Nat.le_refl _) (.cells (zeroS.cells (.slice none 0 0)) 25)
    go_upto_region 4 with (refine blk_store _ rfl 25 _ _ rfl w2.heap.size (h.cells (.slice sa2 n sc2)) rfl rfl _ _ (Blk.new w2 (zeroS.cells (.slice none 0 0)) 25) 9 sg_info rfl rfl (sg_one _ _ _ _) ?_; intro W3 k3 p3)
    have b3 := p3.below dA (Nat.le_refl _)
    have F3 := F2.below b3 F2.lt
    have d3 := d2.trans (b3.mono d2.size)
    have SM3 := SM W3 _ (q2.below b3) (r2.below b3)
    clear F2 d2 r2 q2 p3 b3 dA SM
    have c3 := k3.cell
    have cF := F3.cell
    go_wp2_with fail
    refine SM3.mono ?_
    rintro e w4 ⟨rfl, l4⟩
    have d4 := d3.trans (l4.mono d3.size)
    clear SM3 d3 l4 k3 F3 c3 cF
    go_wp2_with fail
    go_meet
    exact d4
  case rest =>
    have d1 : Below w.heap.size w wc := hcut
    clear hcut F1 r1 HRD HSM
    have CR := fun u => tcr3.read_any s f t u (by omega) hf ht
    by_cases he : rse s f t = 0
    case neg =>
      have eh : rgh s f t = zeroS := by unfold rgh; rw [if_neg he]
      have eo : rgo s f t = [] := by unfold rgo; rw [if_neg he]
      rw [eh, eo] at CR
      have SM := fun u x h1 => same_any zeroS x (.slice none 0 0) [] u h1 (Own.rd (Own.nil OK u 0))
      have he' : (rse s f t != 0) = true := by simpa using he
      generalize rse s f t = E2 at *
      clear he eh eo
      go_wp2_with fail
      refine (CR _).mono ?_
      rintro e w2 ⟨v2, rfl, o2, l2⟩
      have d2 := d1.trans (l2.mono d1.size)
      have q2 := Own.rd o2
      obtain ⟨sa2, sc2, rfl⟩ := q2.form
      clear CR d1 l2 o2
      simp only [List.length_nil] at q2 ⊢
      have dA := (Below.refl w2.heap.size w2).alloc (Nat.le_refl _) (.cells (zeroS.cells (.slice none 0 0)) 25)
      go_upto_region 7 with (refine blk_store _ rfl 25 _ _ rfl w2.heap.size (zeroS.cells (.slice sa2 0 sc2)) rfl rfl _ _ (Blk.new w2 (zeroS.cells (.slice none 0 0)) 25) 9 sg_info rfl rfl (sg_one _ _ _ _) ?_; intro W3 k3 p3)
      have b3 := p3.below dA (Nat.le_refl _)
      have d3 := d2.trans (b3.mono d2.size)
      have q3 := q2.below b3
      clear d2 q2 p3 b3 dA
      go_wp2_with fail
      refine (lives _).mono ?_
      rintro e w4 ⟨rfl, l4⟩
      have d4 := d3.trans (l4.mono d3.size)
      have q4 := q3.below l4
      have k4 := k3.below l4 k3.lt
      clear d3 q3 k3 l4
      go_wp2_with fail
      refine (lives _).mono ?_
      rintro e w5 ⟨rfl, l5⟩
      have d5 := d4.trans (l5.mono d4.size)
      have q5 := q4.below l5
      have k5 := k4.below l5 k4.lt
      clear d4 q4 k4 l5
      have SM5 := SM w5 _ q5
      clear SM q5
      have c5 := k5.cell
      go_wp2_with fail
      refine SM5.mono ?_
      rintro e w6 ⟨rfl, l6⟩
      have d6 := d5.trans (l6.mono d5.size)
      clear d5 SM5 k5 l6 c5
      go_wp2_with fail
      go_ret
      exact ⟨rfl, d6⟩
    obtain ⟨hp, hA, hz⟩ := read_ok s f t he
    have eh : rgh s f t = rdh s := by unfold rgh; rw [if_pos he]
    have eo : rgo s f t = rds s := by unfold rgo; rw [if_pos he]
    rw [eh, eo, he] at CR
    generalize rdh s = g at *
    generalize rds s = ps at *
    have pl : ps.length ≤ 6000000000000 := by
      have h1 := hp.o1
      have h2 : ps.length ≤ oln ps := by
        clear hz eo CR
        have : ∀ l : List Opt, l.length ≤ oln l := fun l => by
          induction l with
          | nil => simp
          | cons x r ih =>
            have e : oln (x :: r) = (ot x).length + oln r := by simp [oln, otx]
            have e2 : 1 ≤ (ot x).length := by rw [ot_len]; split <;> omega
            rw [e, List.length_cons]; omega
        exact this ps
      omega
    have C2 := fun u x hu => tcw4.write_ok g x ps f t u hu pl hp hA hf ht
    obtain ⟨T, eT⟩ : ∃ T : ByteArray, T = ⟨(stxt g ps f t).toArray⟩ := ⟨_, rfl⟩
    obtain ⟨e1, e2, e3⟩ := back hp hA f t
    rw [← eT] at e1 e2 e3 C2
    have zT : T.size = hdl ps + g.d.size := by rw [eT]; exact txt_size g ps f t
    have C3 := fun u => tcr3.read_any T f t u (by omega) hf ht
    rw [e1, e2, e3] at C3
    have SM := fun u x y h1 h2 => same_any g x y ps u h1 h2
    have zle : (T.size : Int) ≤ s.size := by omega
    clear e1 e2 e3 eT zT hz eh eo he pl hp hA
    go_wp2_with fail
    refine (CR _).mono ?_
    rintro e w2 ⟨v2, rfl, o2, l2⟩
    have d2 := d1.trans (l2.mono d1.size)
    have q2 := Own.rd o2
    obtain ⟨sa2, sc2, rfl⟩ := q2.form
    clear CR d1 l2 o2
    obtain ⟨n, hn⟩ : ∃ n, n = ps.length := ⟨_, rfl⟩
    have HN : Hid (n = ps.length) := hn
    rw [← hn] at q2 ⊢
    clear hn
    have dA := (Below.refl w2.heap.size w2).alloc (Nat.le_refl _) (.cells (zeroS.cells (.slice none 0 0)) 25)
    go_upto_region 7 with (refine blk_store _ rfl 25 _ _ rfl w2.heap.size (g.cells (.slice sa2 n sc2)) rfl rfl _ _ (Blk.new w2 (zeroS.cells (.slice none 0 0)) 25) 9 sg_info rfl rfl (sg_one _ _ _ _) ?_; intro W3 k3 p3)
    have b3 := p3.below dA (Nat.le_refl _)
    have d3 := d2.trans (b3.mono d2.size)
    have q3 := q2.below b3
    clear d2 q2 p3 b3 dA
    go_wp2_with fail
    refine (lives _).mono ?_
    rintro e w4 ⟨rfl, l4⟩
    have d4 := d3.trans (l4.mono d3.size)
    have q4 := q3.below l4
    have k4 := k3.below l4 k3.lt
    have k4t := k4.lt
    clear d3 q3 k3 l4
    have C24 := C2 w4 _ q4
    clear C2
    go_wp2_with (refine blk_load _ rfl 25 _ rfl w2.heap.size rfl _ _ k4 _ Tryd.underlying25 rfl 9 sg_info rfl ?_)
    refine C24.mono ?_
    rintro e w5 ⟨rfl, l5⟩
    have d5 := d4.trans (l5.mono d4.size)
    have q5 := q4.below l5
    have k5 := k4.below l5 k4.lt
    clear d4 q4 k4 l5 C24
    go_wp2_with fail
    refine (C3 _).mono ?_
    rintro e w6 ⟨v6, rfl, o6, l6⟩
    have d6 := d5.trans (l6.mono d5.size)
    have q6 := q5.below l6
    have k6 := k5.below l6 k5.lt
    have p6 := Own.rd o6
    obtain ⟨sa6, sc6, e6⟩ := p6.form
    have k6t := k6.lt
    clear C3 d5 q5 k5 l6 o6
    rw [← HN.out] at e6
    subst e6
    have dA := (Below.refl w6.heap.size w6).alloc (Nat.le_refl _) (.cells (zeroS.cells (.slice none 0 0)) 25)
    go_upto_region 11 with (refine blk_store _ rfl 25 _ _ rfl w6.heap.size (g.cells (.slice sa6 n sc6)) rfl rfl _ _ (Blk.new w6 (zeroS.cells (.slice none 0 0)) 25) 9 sg_info rfl rfl (sg_one _ _ _ _) ?_; intro W7 k7 p7)
    have b7 := p7.below dA (Nat.le_refl _)
    have d7 := d6.trans (b7.mono d6.size)
    have k27 := k6.below b7 k6.lt
    have SM7 := SM W7 _ _ (p6.below b7) (q6.below b7)
    clear SM d6 q6 p6 k6 p7 b7 dA
    have c7 := k7.cell
    have c27 := k27.cell
    go_wp2_with fail
    refine SM7.mono ?_
    rintro e w8 ⟨rfl, l8⟩
    have d8 := d7.trans (l8.mono d7.size)
    clear SM7 d7 l8 k7 k27 c7 c27
    go_wp2_with fail
    go_ret
    exact ⟨rfl, d8⟩
end Go.Proofs.YtpcknkpddinccaaDoor.tcbk
