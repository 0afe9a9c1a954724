/- What strings.Count answers at a byte 0; what custref.OptionText answers. -/
import Derived.Test.YtpcknkpddinccaaDoorUndRef
import Derived.Test.YtpcknkpddinccaaDoorTcpTrim
import Derived.Test.YtpcknkpddinccaaDoorSpec
import Derived.Test.YtpcknkpddinccaaDoorTold
import Derived.Test.YtpcknkpddinccaaDoorAb
import Derived.Lib.Bytealg
import Derived.Deep.RegionWith
import Derived.Deep.DeepCutAuto
namespace Go.Proofs.YtpcknkpddinccaaDoor.tcf1
open Go.ChangeShapes Go.WideShapes Go.ChangeAt Go.RowKit Go.BigFrame
open Go.Proofs.YtpcknkpddinccaaDoor Go.Proofs.YtpcknkpddinccaaDoor.EM Go.Proofs.YtpcknkpddinccaaDoor.ethb Go.Proofs.YtpcknkpddinccaaDoor.SM Go.Proofs.YtpcknkpddinccaaDoor.ipb Go.Proofs.YtpcknkpddinccaaDoor.boxes Go.Proofs.YtpcknkpddinccaaDoor.wds Go.Proofs.YtpcknkpddinccaaDoor.tcb Go.Proofs.YtpcknkpddinccaaDoor.tct Go.Proofs.YtpcknkpddinccaaDoor.tcrb Go.Proofs.YtpcknkpddinccaaDoor.tctr
open Go.Proofs.YtpcknkpddinccaaDoor.refb (bytes_any word_ref between_any)
open Go.Proofs.YtpcknkpddinccaaDoor.ipm (bytes_ext ext_list size_list)

set_option maxHeartbeats 1000000 in
set_option maxRecDepth 100000 in
theorem count_any (s : ByteArray) (w : World) :
    Calls Tryd.prog 50 #[.string s, .string ⟨#[0]⟩] w fun e w' => e = .returned (.int .i64 ((s.data.toList.count 0 : Nat) : Int)) ∧ w' = w := by
  go_enter Tryd.func50, Tryd.ntmps50
  go_wp2
  rw [run_callFunc_extern Tryd.func64 (by kernel_rfl) (by kernel_rfl) (by kernel_rfl) (e := Extern.BytealgCount.count) (by kernel_rfl), Lib.run_countString]
  simp only [Result.andThen]
  rw [Oper.upon_value]
  go_wp2
  go_ret
  exact ⟨rfl, rfl⟩
theorem count_az (s : ByteArray) : ((((s.data.toList.count 0 : Nat) : Int) == (s.size : Int)) = az s.data.toList) := by
  have h : s.data.toList.count 0 = s.size ↔ az s.data.toList = true := by
    rw [← size_list, List.count_eq_length]
    unfold az
    rw [List.all_eq_true]
    constructor
    · intro hh x hx; rw [← hh x hx]; rfl
    · intro hh x hx; have := hh x hx; simp at this; exact this.symm
  by_cases ha : az s.data.toList = true
  · rw [ha, h.2 ha]; simp
  · have ha' : az s.data.toList = false := by simpa using ha
    rw [ha']
    have := mt h.1 ha
    rw [beq_eq_false_iff_ne]
    omega
/-- what OptionText hands back -/
def ott (o : Opt) : ByteArray := if ook o = true then ⟨(ot o).toArray⟩ else ⟨#[]⟩
theorem ret_ott {a b : ByteArray} {c d : Bool} (h : a = b) (h' : c = d) : Ending.returned (.tuple #[.string a, .bool c]) = .returned (.tuple #[.string b, .bool d]) := by rw [h, h']
theorem b8_eq (x : Int) : refb.b8 x = b8 x := rfl
set_option maxRecDepth 20000 in
set_option maxHeartbeats 2000000 in
theorem optionText_any (o : Opt) (w : World) :
    Calls Tryd.prog 26 #[.agg o.cells] w fun e w' => e = .returned (.tuple #[.string (ott o), .bool (ook o)]) ∧ Below w.heap.size w w' := by
  have E : Hid (ook o = ((decide (o.ki = 1) && decide (o.d.size = 0)) || (decide (2 ≤ o.ki) && (decide (o.ki ≤ 255) && decide (o.d.size ≤ 38))))) := (rfl : _ = _)
  have ET : Hid (ott o = if ook o = true then ⟨(ot o).toArray⟩ else ⟨#[]⟩) := (rfl : _ = _)
  have EO : Hid (ot o = if o.ki = 1 then [1] else b8 o.ki :: b8 ((o.d.size : Int) + 2) :: o.d.data.toList) := (rfl : _ = _)
  obtain ⟨R, eR⟩ : ∃ R, R = ott o := ⟨_, rfl⟩
  obtain ⟨B, eB⟩ : ∃ B, B = ook o := ⟨_, rfl⟩
  rw [← eR, ← eB] at ET
  rw [← eB] at E
  rw [← eR, ← eB]
  obtain ⟨T, eT⟩ : ∃ T, T = ot o := ⟨_, rfl⟩
  rw [← eT] at ET EO
  clear eR eB eT
  obtain ⟨ki, d⟩ := o
  have F0 := Blk.new w (Opt.cells ⟨ki, d⟩) 40
  have b0 := (Below.refl w.heap.size w).alloc (Nat.le_refl _) (.cells (Opt.cells ⟨ki, d⟩) 40)
  by_cases k1 : ki = 1
  · subst k1
    by_cases d0 : d.size = 0
    · have dd : d = ⟨#[]⟩ := bytes_ext (List.eq_nil_of_length_eq_zero (by rw [size_list]; exact d0))
      subst dd
      have e1 : Hid (B = true) := by show _ = _; rw [E.out]; rfl
      have e2 : Hid (R = ⟨#[1]⟩) := by show _ = _; rw [ET.out, if_pos e1.out, EO.out, if_pos rfl]
      clear E ET EO d0
      have cf := F0.cell
      go_enter Tryd.func26, Tryd.ntmps26
      go_wp2_with fail
      refine (bytes_any _ (w.heap.size + 1) 0 1 [1] (by simp) (by simp) ?hc).mono ?_
      case hc =>
        intro j hj
        match j, hj with
        | 0, _ => simp
      rintro e w1 ⟨rfl, l1⟩
      have b1 := (b0.alloc (by simp) _).trans (l1.mono (by simp; omega))
      clear cf b0 l1 F0
      go_wp2_with fail
      go_ret2
      exact ⟨ret_ott e2.out.symm e1.out.symm, b1⟩
    · have e1 : Hid (B = false) := by show _ = _; rw [E.out]; simp [d0]
      have e2 : Hid (R = ⟨#[]⟩) := by show _ = _; rw [ET.out, if_neg (by rw [e1.out]; simp)]
      have ne : (d.toList == []) = false := by
        have : d.toList.length ≠ 0 := by rw [ByteArray.toList_eq, size_list]; exact d0
        cases hh : d.toList with
        | nil => rw [hh] at this; simp at this
        | cons a b => rfl
      have cf := F0.cell
      clear E ET EO d0
      go_enter Tryd.func26, Tryd.ntmps26
      go_wp2_with fail
      refine (between_any 1 2 255 _).mono ?_
      rintro e w1 ⟨rfl, rfl⟩
      rw [decide_eq_false (show ¬ ((2 : Int) ≤ 1 ∧ (1 : Int) ≤ 255) by omega)]
      go_wp2_with fail
      go_ret2
      exact ⟨ret_ott e2.out.symm e1.out.symm, b0⟩
  · have k1' : (ki == 1) = false := by simpa using k1
    by_cases g : 2 ≤ ki ∧ ki ≤ 255
    case neg =>
      have e1 : Hid (B = false) := by show _ = _; rw [E.out]; simp [k1]; omega
      have e2 : Hid (R = ⟨#[]⟩) := by show _ = _; rw [ET.out, if_neg (by rw [e1.out]; simp)]
      have CB := fun u => between_any ki 2 255 u
      rw [decide_eq_false g] at CB
      have cf := F0.cell
      clear E ET EO k1 g
      go_enter Tryd.func26, Tryd.ntmps26
      go_wp2_with fail
      refine (CB _).mono ?_
      rintro e w1 ⟨rfl, rfl⟩
      go_wp2_with fail
      go_ret2
      exact ⟨ret_ott e2.out.symm e1.out.symm, b0⟩
    have CB := fun u => between_any ki 2 255 u
    rw [decide_eq_true g] at CB
    obtain ⟨g1, g2⟩ := g
    by_cases d1 : d.size ≤ 38
    case neg =>
      have e1 : Hid (B = false) := by show _ = _; rw [E.out]; simp [k1, d1]
      have e2 : Hid (R = ⟨#[]⟩) := by show _ = _; rw [ET.out, if_neg (by rw [e1.out]; simp)]
      have d1' : ¬ (d.size : Int) ≤ 38 := by omega
      have cf := F0.cell
      clear E ET EO k1
      go_enter Tryd.func26, Tryd.ntmps26
      go_wp2_with fail
      refine (CB _).mono ?_
      rintro e w1 ⟨rfl, rfl⟩
      go_wp2_with fail
      go_ret2
      exact ⟨ret_ott e2.out.symm e1.out.symm, b0⟩
    have e1 : Hid (B = true) := by show _ = _; rw [E.out]; simp [k1, g1, g2, d1]
    obtain ⟨V, eV⟩ : ∃ V : ByteArray, V = ⟨#[b8 ki, b8 ((d.size : Int) + 2)]⟩ := ⟨_, rfl⟩
    have e2 : Hid (V ++ d = R) := by
      show _ = _
      rw [ET.out, if_pos e1.out, EO.out, if_neg k1, eV]
      apply bytes_ext
      simp
    have zV : V.size = 2 := by rw [eV]; rfl
    have d1' : (d.size : Int) ≤ 38 := by omega
    have BY : ∀ (u : World) (b : Nat), Blk u b #[.int .i64 ki, .int .i64 ((d.size : Int) + 2)] 3 → Calls Tryd.prog 31 #[.slice (some ⟨b, 0, none⟩) 2 2] u fun e w' => e = .returned (.string V) ∧ Below u.heap.size u w' := fun u b hb => by
      rw [eV]
      refine bytes_any u b 0 2 [ki, (d.size : Int) + 2] hb.lt (by simp) ?_
      intro j hj
      match j, hj with
      | 0, _ | 1, _ => simp [hb.cell]
    clear E ET EO k1 eV
    have cf := F0.cell
    go_enter Tryd.func26, Tryd.ntmps26
    go_wp2_with fail
    refine (CB _).mono ?_
    rintro e w1 ⟨rfl, rfl⟩
    clear CB
    go_upto_region 4 with fail
    generalize w.alloc (.cells (Opt.cells ⟨ki, d⟩) 40) = U at *
    have ne : Nonempty (spc.In (ab.Ab U)) := ⟨⟨_, ab.Ab.refl U⟩⟩
    have cm : ∀ (x : spc.In (ab.Ab U)) k, x.W.cell? ⟨w.heap.size, k, none⟩ = (Opt.cells ⟨ki, d⟩)[k]? := fun x k => (Below.cell x.h (p := ⟨w.heap.size, k, none⟩) F0.lt).trans (F0.cell k)
    refine' spc.wp_region_told_in [(6, undef), (7, .string V)] [(6, 31)]
      (fun k v W => ∃ b, v = .slice (some ⟨b, 0, none⟩) 2 2 ∧ Blk W b #[.int .i64 ki, .int .i64 ((d.size : Int) + 2)] 3) (ab.Ab U) (fun W W' => Below W.heap.size W W') (by kernel_rfl) (by kernel_rfl) (ab.Ab.drew U)
      (fun k v W W' hb h => (let ⟨b, e, B⟩ := h; ⟨b, e, B.below hb B.lt⟩)) (by simp only [spc.rep, List.lookup, Nat.zero_add, Nat.reduceAdd, Nat.reduceBEq]; exact rfl) ?_
    repeat (go_big_quiet_step (fail))
    refine wpQuiet_nil ⟨?_, ?_⟩
    · simp only [List.forall_mem_cons, List.not_mem_nil, false_imp_iff, implies_true, and_true]
      refine ⟨?_, ?_⟩
      · rintro _ ⟨⟩ x w2 hC - -
        refine told.build2 _ _ ki ((d.size : Int) + 2) rfl rfl rfl ⟨Below.trans hC (((Below.refl _ _).alloc (Nat.le_refl _) _).mono (Below.size hC)), (Below.refl _ _).alloc (Nat.le_refl _) _, ?_⟩
        rw [if_pos (by decide)]
        exact ⟨_, rfl, Blk.new _ _ _⟩
      · rintro _ ⟨⟩ x w2 hC hS -
        obtain ⟨b, e, B⟩ := hS (6, 31) (by simp) (by simp [Oper.looksAt, Op.operands, Call.operands])
        exact told.call1 31 _ _ (.slice (some ⟨b, 0, none⟩) 2 2) rfl (by intro args w; simp [go_sem]) e ((BY w2 b B).mono fun e w3 ⟨he, hb⟩ => ⟨_, he, Below.trans hC (hb.mono (Below.size hC)), hb, rfl⟩)
    intro x W hC hS
    have bW := b0.trans (Below.mono hC b0.size)
    clear hS BY ne cm F0 b0 cf hC
    simp only [spc.jn, Act.put, List.setIfInBounds_toArray, List.set_cons_succ, List.set_cons_zero]
    go_wp2_with fail
    go_ret2
    exact ⟨ret_ott e2.out e1.out.symm, bW⟩
end Go.Proofs.YtpcknkpddinccaaDoor.tcf1
