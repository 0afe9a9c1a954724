/- What package table's Put answers. -/
import Derived.Test.YtmnmjmbfnecmoaaTabGet
namespace Go.Proofs.Ytmnmjmbfnecmoaa.tp
open Go.ChangeShapes Go.WideShapes Go.ChangeAt Go.RowKit Go.BigFrame
open Go.Proofs.Ytmnmjmbfnecmoaa Go.Proofs.Ytmnmjmbfnecmoaa.tm Go.Proofs.Ytmnmjmbfnecmoaa.tb Go.Proofs.Ytmnmjmbfnecmoaa.ti Go.Proofs.Ytmnmjmbfnecmoaa.tsh Go.Proofs.Ytmnmjmbfnecmoaa.tc Go.Proofs.Ytmnmjmbfnecmoaa.tg Go.Proofs.Ytmnmjmbfnecmoaa.boxes Go.Proofs.Ytmnmjmbfnecmoaa.rwr
open Go.Proofs.Ytmnmjmbfnecmoaa.rws (Knd Own)

open Classical in
/-- the error where a key is put in; the table then -/
noncomputable def pe (l : List St) (k : Nat) : Int := if terr l = 0 then (if (ax l (fnd (hl l) l k)).u = false ∧ cnt l + 1 = l.length then 6 else 0) else terr l
noncomputable def pl (l : List St) (k : Nat) (v : Int) : List St := if pe l k = 0 then l.set (fnd (hl l) l k) ⟨true, k, v⟩ else []
theorem pe_cases (l : List St) (k : Nat) (v : Int) : (pe l k = terr l ∧ terr l ≠ 0 ∧ pl l k v = []) ∨ (pe l k = 6 ∧ terr l = 0 ∧ (ax l (fnd (hl l) l k)).u = false ∧ cnt l + 1 = l.length ∧ pl l k v = []) ∨ (pe l k = 0 ∧ terr l = 0 ∧ ((ax l (fnd (hl l) l k)).u = true ∨ ((ax l (fnd (hl l) l k)).u = false ∧ cnt l + 1 ≠ l.length)) ∧ pl l k v = l.set (fnd (hl l) l k) ⟨true, k, v⟩) := by
  by_cases h : terr l = 0
  · by_cases hc : (ax l (fnd (hl l) l k)).u = false ∧ cnt l + 1 = l.length
    · have e : pe l k = 6 := by unfold pe; rw [if_pos h, if_pos hc]
      exact Or.inr (Or.inl ⟨e, h, hc.1, hc.2, by unfold pl; rw [e]; rfl⟩)
    · have e : pe l k = 0 := by unfold pe; rw [if_pos h, if_neg hc]
      refine Or.inr (Or.inr ⟨e, h, ?_, by unfold pl; rw [if_pos e]⟩)
      cases hu : (ax l (fnd (hl l) l k)).u
      · exact Or.inr ⟨rfl, fun c => hc ⟨hu, c⟩⟩
      · exact Or.inl rfl
  · have e : pe l k = terr l := by unfold pe; rw [if_neg h]
    exact Or.inl ⟨e, h, by unfold pl; rw [e, if_neg h]⟩
set_option maxHeartbeats 2000000 in
theorem put_any (v : Value) (l : List St) (k : Nat) (y : Int) (w : World) (h : Rd SK w v l) : Calls Try.prog 16 #[.agg #[v], .int .u64 (k : Int), .int .i64 y] w fun e w' => ∃ v', e = .returned (.tuple #[.agg #[v'], .int .i64 (pe l k)]) ∧ Own SK w' w.heap.size v' (pl l k y) ∧ Below w.heap.size w w' := by
  have F0 := (Blk.new w #[v] 24).alloc (.cells Z1 24)
  have G0 := Blk.newAt (w.alloc (.cells #[v] 24)) Z1 24 (b := w.heap.size + 1) (by simp)
  have b0 := ((Below.refl w.heap.size w).alloc (Nat.le_refl _) (.cells #[v] 24)).alloc (by simp) (.cells Z1 24)
  have r0 := h.below b0
  have CC := check_any v l _ r0
  obtain ⟨V, HV⟩ : ∃ V, Hid ((w.alloc (.cells #[v] 24)).alloc (.cells Z1 24) = V) := ⟨_, rfl⟩
  rw [HV.out] at F0 G0 b0 r0 CC
  have c0 := F0.cell
  have sz : w.heap.size + 1 < V.heap.size := G0.lt
  rcases pe_cases l k y with ⟨e1, e2, e3⟩ | ⟨e1, e2, e3, e4, e5⟩ | ⟨e1, e2, e3, e4⟩
  · rw [e1, e3]
    have e2' : (terr l != 0) = true := by simpa using e2
    obtain ⟨sa, sc, rfl⟩ := h.form
    clear h r0 e1 e3 e2
    generalize terr l = E at *
    generalize l.length = n at *
    go_enter Try.func16, Try.ntmps16
    go_upto_region 1 with fail
    rw [HV.out]
    go_wp2_with fail
    refine CC.mono ?_
    rintro e w1 ⟨rfl, z⟩
    have b1 := b0.trans (z.mono b0.size)
    have G1 := G0.below z G0.lt
    go_wp2_with (refine blk_store _ rfl 24 _ _ rfl (w.heap.size + 1) Z1 rfl rfl _ _ G1 1 tb_info rfl rfl (tb_one _ _ _) ?_; intro W3 K3 p3)
    have d1 := p3.below b1 (by omega)
    exact blk_ret2 rfl rfl (w.heap.size + 1) Z1 24 rfl K3 _ Try.underlying24 rfl 1 tb_info rfl ⟨_, rfl, Own.nil _ _ _, d1⟩
  · obtain ⟨hb, hr⟩ := terr_zero e2
    have hbd := bn_bd hb
    have hf := fnd_spec (hl_lt hb) hr.free k
    have CF := fun u hu => find_any v l k u hu hb hr.free
    have CU := fun u hu => usedOf_any v l u hu (by omega)
    rw [e1, e5]
    rw [e2] at CC
    obtain ⟨b, off, sc, rfl, hlt, hm', hsc, hx⟩ := rd_at h (by omega)
    have hlt2 := hf.lt
    have hxi := cell_u hx hlt2
    rw [e3] at hxi
    have hcn : ((cnt l : Int) == (l.length : Int) - 1) = true := by simp; omega
    have hwr : IntKind.i64.wrap ((l.length : Int) - 1) = (l.length : Int) - 1 := by rw [IntKind.wrap_i64]; omega
    clear h e1 e2 e3 e5 hf hx hr hb
    generalize fnd (hl l) l k = R at *
    have hR : (R : Int) < (l.length : Int) := by omega
    go_enter Try.func16, Try.ntmps16
    go_upto_region 1 with fail
    rw [HV.out]
    go_wp2_with fail
    refine CC.mono ?_
    rintro e w1 ⟨rfl, z⟩
    have b1 := b0.trans (z.mono b0.size)
    have r1 := r0.below z
    have F1 := F0.below z F0.lt
    have G1 := G0.below z G0.lt
    have c1 := F1.cell
    have hx1 := (b1.cell (p := ⟨b, off + R * 3, none⟩) hlt).trans hxi
    have hbl : b < w1.heap.size := Nat.lt_of_lt_of_le hlt b1.size
    have CF1 := CF w1 r1
    clear CF r0 F0 c0 z b0 CC HV G0 sz
    generalize cnt l = C at *
    generalize hn : l.length = n at *
    go_wp2_with fail
    refine CF1.mono ?_
    rintro e w1 ⟨rfl, rfl⟩
    go_upto_region 5 with fail
    have nn := ab.ne w1
    have ca := ab.cells F1
    have cx := ab.cell hx1 hbl
    have CUx : ∀ x : cls.In (ab.Ab w1), _ := fun x => ab.call (x := x) (CU x.W (r1.below x.h))
    refine ab.region (by kernel_rfl) (by kernel_rfl) ?_
    repeat (go_big_quiet_step ((go_at_call 28; exact CUx _)))
    refine wpQuiet_nil ?_
    intro _ hx
    obtain ⟨x, rfl⟩ := hx
    have b2 := b1.trans (Below.mono x.h b1.size)
    have G2 := G1.below x.h G1.lt
    go_wp2_with (refine blk_store _ rfl 24 _ _ rfl (w.heap.size + 1) Z1 rfl rfl _ _ G2 1 tb_info rfl rfl (tb_one _ _ _) ?_; intro W3 K3 p3)
    have d1 := p3.below b2 (by omega)
    exact blk_ret2 rfl rfl (w.heap.size + 1) Z1 24 rfl K3 _ Try.underlying24 rfl 1 tb_info rfl ⟨_, rfl, Own.nil _ _ _, d1⟩
  · obtain ⟨hb, hr⟩ := terr_zero e2
    have hbd := bn_bd hb
    have hf := fnd_spec (hl_lt hb) hr.free k
    have CF := fun u hu => find_any v l k u hu hb hr.free
    have CU := fun u hu => usedOf_any v l u hu (by omega)
    have CL := fun u hu => clone_any v l u hu (by omega)
    rw [e1, e4]
    rw [e2] at CC
    obtain ⟨b, off, sc, rfl, hlt, hm', hsc, hx⟩ := rd_at h (by omega)
    have hlt2 := hf.lt
    have hxi := cell_u hx hlt2
    have hcn : (ax l (fnd (hl l) l k)).u = true ∨ ((ax l (fnd (hl l) l k)).u = false ∧ ((cnt l : Int) == (l.length : Int) - 1) = false) := e3.imp id fun c => ⟨c.1, by simp; omega⟩
    have hwr : IntKind.i64.wrap ((l.length : Int) - 1) = (l.length : Int) - 1 := by rw [IntKind.wrap_i64]; omega
    clear h e1 e2 e3 e4 hf hx hr hb
    generalize fnd (hl l) l k = R at *
    generalize (ax l R).u = U at *
    have hR : (R : Int) < (l.length : Int) := by omega
    have hl0 : 0 < l.length := by omega
    have HL : Hid (l.length = l.length) := rfl
    rcases hcn with rfl | ⟨rfl, hcn⟩
    all_goals
      go_enter Try.func16, Try.ntmps16
      go_upto_region 1 with fail
      rw [HV.out]
      go_wp2_with fail
      refine CC.mono ?_
      rintro e w1 ⟨rfl, z⟩
      have b1 := b0.trans (z.mono b0.size)
      have r1 := r0.below z
      have F1 := F0.below z F0.lt
      have G1 := G0.below z G0.lt
      have c1 := F1.cell
      have hx1 := (b1.cell (p := ⟨b, off + R * 3, none⟩) hlt).trans hxi
      have hbl : b < w1.heap.size := Nat.lt_of_lt_of_le hlt b1.size
      have CF1 := CF w1 r1
      clear CF r0 F0 c0 z b0 CC HV G0 sz
      generalize cnt l = C at *
      generalize hn : l.length = n at *
      go_wp2_with fail
      refine CF1.mono ?_
      rintro e w1 ⟨rfl, rfl⟩
      go_upto_region 5 with fail
      have nn := ab.ne w1
      have ca := ab.cells F1
      have cx := ab.cell hx1 hbl
      have CUx : ∀ x : cls.In (ab.Ab w1), _ := fun x => ab.call (x := x) (CU x.W (r1.below x.h))
      refine ab.region (by kernel_rfl) (by kernel_rfl) ?_
      repeat (go_big_quiet_step ((go_at_call 28; exact CUx _)))
      refine wpQuiet_nil ?_
      intro _ hx
      obtain ⟨x, rfl⟩ := hx
      have b2 := b1.trans (Below.mono x.h b1.size)
      have G2 := G1.below x.h G1.lt
      have F2 := F1.below x.h F1.lt
      have c2 := F2.cell
      have CLx := CL x.W (r1.below x.h)
      generalize x.W = W at *
      clear b1 r1 F1 G1 c1 hx1 CF1 CUx CU CL cx ca nn hxi F2
      go_wp2_with fail
      refine CLx.mono ?_
      rintro e w4 ⟨v4, rfl, O4, z⟩
      obtain ⟨g, cap, rfl, hgB, hgl, hnc, hcm, _⟩ := O4.form (by rw [hn]; exact hl0)
      have O5 := O4.mono b2.size
      have G4 := G2.below z G2.lt
      have b4 := b2.trans (z.mono b2.size)
      have hgne : g ≠ w.heap.size + 1 := by have := G2.lt; omega
      have hgw : w.heap.size ≤ g := by have := b2.size; omega
      clear CLx c2 z O4
      simp only [hn] at O5
      try simp only [hn]
      go_wp2_with (first | (refine elem_store SK _ rfl _ _ rfl w.heap.size g n cap l O5 R _ rfl rfl (by omega) ⟨true, k, y⟩ rfl ?_))
      intro w6 O6 p6
      have G6 := p6.blk G4 (fun e => hgne e.symm)
      have b6 := p6.below b4 hgw
      go_wp2_with (refine blk_store _ rfl 24 _ _ rfl (w.heap.size + 1) _ rfl rfl _ _ G6 1 tb_info rfl rfl (tb_one _ _ _) ?_; intro W3 K3 p3)
      have d1 := p3.below b6 (by omega)
      have O7 := O6.but p3 (by simp [Value.ownBlock]; omega)
      exact blk_ret2 rfl rfl (w.heap.size + 1) _ 24 rfl K3 _ Try.underlying24 rfl 1 tb_info rfl ⟨_, rfl, O7, d1⟩
end Go.Proofs.Ytmnmjmbfnecmoaa.tp
