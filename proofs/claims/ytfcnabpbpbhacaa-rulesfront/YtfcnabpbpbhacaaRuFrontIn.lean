/- The walk of custkeep.RulesFront. -/
import Derived.Test.YtfcnabpbpbhacaaRuLives
import Derived.Test.YtfcnabpbpbhacaaRuDel
import Derived.Deep.RegionLaw
import Derived.Deep.RegionWith
namespace Go.Proofs.Ytfcnabpbpbhacaa.ru
open Go.ChangeShapes Go.WideShapes Go.ChangeAt Go.RowKit Go.BigFrame
open Go.Proofs.Ytfcnabpbpbhacaa Go.Proofs.Ytfcnabpbpbhacaa.pm Go.Proofs.Ytfcnabpbpbhacaa.pf Go.Proofs.Ytfcnabpbpbhacaa.boxes Go.Proofs.Ytfcnabpbpbhacaa.rwr
open Go.Proofs.Ytfcnabpbpbhacaa.rws (Knd Own cs_length cs_one cs_append)

/-- one element more, in a region that draws -/
theorem step_one {α : Type} {ops : Array Oper} {o : Oper} {a : Act} {w : World} {C : Act → World → Prop} {Q : Exit → Act → World → Prop} {E : Prop} (K : Knd α)
    (hg : o.guard = none) (s x : Operand) (hop : o.op = Op.call { callee := Callee.builtin Builtin.append, args := #[s, x], argTypes := #[K.s, K.s] })
    (B : Nat) (v : Value) (l : List α) (hs : a.eval s = v) (hown : Own K w B v l) (b c : Nat) (y : α) (t : TypeId) (hx : a.eval x = .slice (some ⟨b, 0, none⟩) 1 c) (hb : Blk w b (K.enc y) t)
    (b0 : l.length + 1 ≤ maxLen) (b1 : (l.length + 1) * K.by_ ≤ 140737488355328) (b4 : B ≤ w.heap.size)
    (hK : ∀ v' w', Own K w' B v' (l ++ [y]) → Below B w w' → w.grownBy w' v.ownBlock → C (a.put o.dst v') w') :
    if Region.wanted o (yielded ops a.tmps) = true then Oper.wp Try.prog o a w C Q else E := by
  obtain ⟨i0, hi, hz0, hz1, hz2⟩ := info_parts K.info
  have hw : Region.wanted o (yielded ops a.tmps) = true := by simp [Region.wanted, hg]
  rw [if_pos hw]
  obtain ⟨v', w', hrun, h1, h2, _⟩ := run_append_own (P := Try.prog) w B K.s o.type K.e i0 K.z K.k K.by_ K.hs hi hz0 hz1 hz2 K.hz K.pos v l.length (K.cs l) hown ⟨b, 0, none⟩ 1 c (K.cs [y]) (by rw [cs_length]; rfl)
    (fun j u hj => by
      have e : (⟨b, 0, none⟩ : Addr).add j = ⟨b, j, none⟩ := by unfold Addr.add; split <;> simp_all
      rw [e, hb.cell]
      simpa [Knd.cs] using hj) (cs_one K [y]) b0 b1 b4
  unfold Oper.wp
  simp [execOp, hop, resolve, invoke, builtin, hs, hx, hrun, Result.andThen]
  refine hK v' w' ?_ ?_ h2
  · unfold Own
    rw [cs_append, List.length_append]
    exact h1
  · exact (Below.refl _ _).grown h2 b4 (fun k hk => (hown.lt k hk).1)
theorem fits_snoc {l : List Ru} {r : Ru} (hl : ∀ x ∈ l, fits x) (hr : fits r) : ∀ x ∈ l ++ [r], fits x := fun x hx => by
  rw [List.mem_append, List.mem_singleton] at hx
  rcases hx with hx | rfl
  · exact hl x hx
  · exact hr
theorem fits_cut {l : List Ru} (q : Nat) (hl : ∀ x ∈ l, fits x) : ∀ x ∈ l.take q ++ l.drop (q + 1), fits x := fun x hx => by
  rw [List.mem_append] at hx
  rcases hx with hx | hx
  · exact hl x (List.mem_of_mem_take hx)
  · exact hl x (List.mem_of_mem_drop hx)
theorem derr_zero {l : List Ru} {f : Fw} (h : derr l f = 0) : chk l = 0 ∧ okF f = true := by
  unfold derr at h
  by_cases hc : chk l = 0
  · refine ⟨hc, ?_⟩
    rw [hc] at h
    cases ho : okF f
    · rw [ho] at h; simp at h
    · rfl
  · rw [if_pos hc] at h; exact absurd h hc
theorem front_facts (l : List Ru) (r : Ru) (f : Fw) (o : Bool) (h : derr l f = 0) (h2 : derr (l ++ [r]) f = 0) :
    (0 ≤ didx l f → dpas (l ++ [r]) f o = dpas l f o ∧ didx (l ++ [r]) f = didx l f) ∧ (¬ 0 ≤ didx l f → 0 ≤ didx (l ++ [r]) f → didx (l ++ [r]) f = (l.length : Int)) ∧
    ∀ q : Nat, derr (l.take q ++ l.drop (q + 1)) f = 0 ∧ ((q : Int) ≠ didx l f → dpas (l.take q ++ l.drop (q + 1)) f o = dpas l f o) := by
  obtain ⟨hc, hf⟩ := derr_zero h
  have e1 : didx l f = fst f l := if_pos h
  have e2 : didx (l ++ [r]) f = fst f (l ++ [r]) := if_pos h2
  have e3 : dpas l f o = pas f l o := if_pos h
  have e4 : dpas (l ++ [r]) f o = pas f (l ++ [r]) o := if_pos h2
  rw [e1, e2, e3, e4]
  refine ⟨fun hp => ⟨pas_snoc f l r o hp, by rw [fst_snoc, if_pos hp]⟩, fun hn hp => ?_, fun q => ?_⟩
  · rw [fst_snoc, if_neg hn] at hp ⊢
    by_cases hm : mts f r = true
    · rw [if_pos hm]
    · rw [if_neg hm] at hp; omega
  · rw [← List.eraseIdx_eq_take_drop_succ]
    have h3 : derr (l.eraseIdx q) f = 0 := by unfold derr; rw [chk_erase q hc, hf]; simp
    refine ⟨h3, fun hq => ?_⟩
    have e5 : dpas (l.eraseIdx q) f o = pas f (l.eraseIdx q) o := if_pos h3
    rw [e5, pas_left f l q o hq]
set_option maxRecDepth 20000 in
set_option maxHeartbeats 8000000 in
theorem front_walk (v : Value) (l : List Ru) (r : Ru) (f : Fw) (n : Int) (o : Bool) (w : World) (h : Rd UK w v l) (hl : ∀ x ∈ l, fits x) (hr : fits r) (hf : fitsF f) (hb : l.length * 80 ≤ 140737488351232) :
    Calls Try.prog 7 #[v, .agg (Ru.cells r), .agg (Fw.cells f), .int .i64 n, .bool o] w fun e w' => e = .returned (.bool true) ∧ Below w.heap.size w w' := by
  have G0 := (Blk.new w (Ru.cells r) 34).alloc (.cells (Fw.cells f) 25)
  have F0 := Blk.newAt (w.alloc (.cells (Ru.cells r) 34)) (Fw.cells f) 25 (b := w.heap.size + 1) (by simp)
  have b0 := ((Below.refl w.heap.size w).alloc (Nat.le_refl _) (.cells (Ru.cells r) 34)).alloc (by simp) (.cells (Fw.cells f) 25)
  have R0 := h.below b0
  have CD : ∀ u, Rd UK u v l → _ := fun u hu => decide_any v l f o u hu hl hf
  have CE : ∀ u v', Rd UK u v' (l ++ [r]) → _ := fun u v' hu => decide_any v' (l ++ [r]) f o u hu (fits_snoc hl hr) hf
  have CX : ∀ (q : Nat) u v', Rd UK u v' (l.take q ++ l.drop (q + 1)) → _ := fun q u v' hu => decide_any v' _ f o u hu (fits_cut q hl) hf
  have CC : ∀ u, Rd UK u v l → _ := fun u hu => clone_any v l u hu (by omega)
  have CL := lives
  have HM := show Hid _ from front_facts l r f o
  generalize hV : (w.alloc (.cells (Ru.cells r) 34)).alloc (.cells (Fw.cells f) 25) = V at *
  have HV : Hid ((w.alloc (.cells (Ru.cells r) 34)).alloc (.cells (Fw.cells f) 25) = V) := hV
  clear hV h hf hr
  obtain ⟨sa, sc, rfl⟩ := R0.form
  generalize derr l f = E at *
  generalize derr (l ++ [r]) f = E2 at *
  generalize dpas l f o = D at *
  generalize dpas (l ++ [r]) f o = D2 at *
  generalize didx l f = I at *
  generalize didx (l ++ [r]) f = J at *
  have HL : Hid (∀ x ∈ l, fits x) := hl
  clear hl
  go_enter Try.func7, Try.ntmps7
  go_upto_region 1 with fail
  rw [HV.out]
  go_wp2_with (refine blk_load _ rfl 25 _ rfl (w.heap.size + 1) rfl _ _ F0 _ Try.underlying25 rfl 5 fw_info rfl ?_)
  refine (CD _ R0).mono ?_
  rintro e w1 ⟨rfl, z1⟩
  have b1 := b0.trans (z1.mono b0.size)
  have R1 := R0.below z1
  have G1 := G0.below z1 G0.lt
  have F1 := F0.below z1 F0.lt
  clear R0 G0 F0 b0 z1 CD
  go_upto_region 2 with fail
  generalize hU : w1 = U at *
  clear hU
  have sz1 : w.heap.size < U.heap.size := G1.lt
  have sz2 : w.heap.size + 1 < U.heap.size := F1.lt
  have cG1 := G1.cell
  have cF1 := F1.cell
  have cG5 := (G1.alloc (.cells (Ru.cells r) 34)).cell
  have cF5 := (F1.alloc (.cells (Ru.cells r) 34)).cell
  have CL2 : ∀ u, Below U.heap.size U u → _ := fun u hu => CC u (R1.below hu)
  go_cut [14, 15, 16] (fun a b c wx => a = .bool D2 ∧ b = .int .i64 J ∧ c = .int .i64 E2 ∧ Below U.heap.size U wx)
  case first =>
    go_region_law (first
      | (refine step_one UK rfl (.tmp 31) (.tmp 33) rfl U.heap.size v2 l (by simp [Act.eval]) (o2.alloc _) w2.heap.size 1 r 34 (by simp [Act.eval]) (Blk.new _ _ _) (by unfold maxLen; omega) (by show (l.length + 1) * 80 ≤ _; omega) (by simp; omega) ?_; intro v4 w4 o4 l4 _; have B4 := (B2.alloc (by omega) (.cells (Ru.cells r) 34)).trans l4; have hB4 := B4.size; have R4 : Rd UK w4 v4 (l ++ [r]) := Own.rd o4; obtain ⟨sa4, sc4, e4⟩ := R4.form; rw [show (l ++ [r]).length = l.length + 1 by simp] at e4; subst e4; have cF4 := (F1.below B4 F1.lt).cell)
      | (refine step_one UK rfl (.tmp 31) (.tmp 33) rfl U.heap.size v2 l (by simp [Act.eval]) o2 U.heap.size 1 r 34 (by simp [Act.eval]) ((Blk.new U.drew _ _).below l2 (by simp)) (by unfold maxLen; omega) (by show (l.length + 1) * 80 ≤ _; omega) (by omega) ?_; intro v4 w4 o4 l4 _; have B4 := B2.trans l4; have hB4 := B4.size; have R4 : Rd UK w4 v4 (l ++ [r]) := Own.rd o4; obtain ⟨sa4, sc4, e4⟩ := R4.form; rw [show (l ++ [r]).length = l.length + 1 by simp] at e4; subst e4; have cF4 := (F1.below B4 F1.lt).cell)
      | (go_simp; go_wp2_with (first
        | (go_at_call 17; refine (CL2 _ (by first | exact (Below.refl _ _).drew | exact ((Below.refl _ _).drew).alloc (Nat.le_refl _) _)).mono ?_; rintro e w2 ⟨v2, rfl, o2', l2⟩; have o2 := o2'.mono (B' := U.heap.size) (by simp); have B2 : Below U.heap.size U w2 := (by first | exact ((Below.refl _ _).drew).trans l2 | exact (((Below.refl _ _).drew).alloc (Nat.le_refl _) _).trans (l2.mono (by simp))); have hB2 := B2.size; have cF2 := (F1.below B2 F1.lt).cell; have cG2 := (G1.below B2 G1.lt).cell; have cF6 := ((F1.below B2 F1.lt).alloc (.cells (Ru.cells r) 34)).cell)
        | (go_at_call 8; refine (CE _ _ R4).mono ?_; rintro e w5 ⟨rfl, z5⟩; have B5 := B4.trans (z5.mono hB4)))))
    all_goals simp only [Exit.then, List.getElem_toArray, List.getElem_cons_succ, List.getElem_cons_zero, Act.put, List.setIfInBounds_toArray, List.set_cons_succ, List.set_cons_zero]
    all_goals go_step
    all_goals go_meet
    all_goals exact ⟨rfl, rfl, rfl, B5⟩
  case rest =>
    obtain ⟨rfl, rfl, rfl, B5⟩ := hcut
    have b2 := b1.trans (B5.mono b1.size)
    have R2 := R1.below B5
    have F2 := F1.below B5 F1.lt
    clear CL2 cG1 cF1 cG5 cF5 R1 F1 G1 b1 B5 CE
    go_wp2_with fail
    refine (CL _).mono ?_
    rintro e w3 ⟨rfl, z3⟩
    have b3 := b2.trans (z3.mono b2.size)
    have R4 := R2.below z3
    have F4 := F2.below z3 F2.lt
    clear R2 F2 z3 b2
    by_cases hE : E = 0
    rotate_left
    · have hEb : (E != 0) = true := by simpa using hE
      go_wp2_with fail
      refine (CL _).mono ?_
      rintro e w4 ⟨rfl, z4⟩
      go_wp2_with fail
      go_ret
      exact ⟨rfl, b3.trans (z4.mono b3.size)⟩
    by_cases hE2 : E2 = 0
    rotate_left
    · have hEb : (E2 != 0) = true := by simpa using hE2
      subst hE
      go_wp2_with fail
      refine (CL _).mono ?_
      rintro e w4 ⟨rfl, z4⟩
      go_wp2_with fail
      go_ret
      exact ⟨rfl, b3.trans (z4.mono b3.size)⟩
    subst hE hE2
    have HM := HM.out rfl rfl
    by_cases hn : n < 0
    · clear HM
      go_wp2_with fail
      refine (CL _).mono ?_
      rintro e w4 ⟨rfl, z4⟩
      go_wp2_with fail
      go_ret
      exact ⟨rfl, b3.trans (z4.mono b3.size)⟩
    by_cases hn2 : (l.length : Int) ≤ n
    · clear HM
      go_wp2_with fail
      refine (CL _).mono ?_
      rintro e w4 ⟨rfl, z4⟩
      go_wp2_with fail
      go_ret
      exact ⟨rfl, b3.trans (z4.mono b3.size)⟩
    obtain ⟨q, rfl⟩ : ∃ q : Nat, n = (q : Int) := ⟨n.toNat, by omega⟩
    have HQ : Hid (q < l.length) := show q < l.length by omega
    have HI : Hid _ := HM.1
    have HJ : Hid _ := HM.2.1
    have HX := HM.2.2 q
    have CX1 := CX q
    rw [HX.1] at CX1
    have HD3 := show Hid _ from HX.2
    clear HM HX CX HL
    generalize dpas (l.take q ++ l.drop (q + 1)) f o = D3 at *
    generalize didx (l.take q ++ l.drop (q + 1)) f = I3 at *
    generalize hw4 : w3 = w4 at *
    clear hw4
    have b4 := b3
    clear b3
    by_cases hI : 0 ≤ I
    · obtain ⟨d1, d2⟩ := HI.out hI
      subst d1 d2
      clear HI HJ
      go_upto_region 7 with fail
      go_wp2_with fail
      refine (CC _ R4).mono ?_
      rintro e w5 ⟨v5, rfl, O5, z5⟩
      obtain ⟨g, cap, e5, hg⟩ := O5.form (by have := HQ.out; omega)
      subst e5
      have F5 := F4.below z5 F4.lt
      have hgB : w4.heap.size ≤ g := hg.1
      have hq := HQ.out
      go_wp2_with fail
      refine (del_any l w4.heap.size g cap q w5 O5 HQ.out).mono ?_
      rintro e w6 ⟨rfl, O6, u6⟩
      have z6 : Below w4.heap.size w5 w6 := (Below.refl _ _).grown u6 z5.size (fun k hk => by cases hk; exact hgB)
      have z56 := z5.trans z6
      have F6 := F4.below z56 F4.lt
      have b6 := b4.trans (z56.mono b4.size)
      have R6 := Own.rd O6
      clear O5 O6 u6 z6 z56 F5 z5 R4 CC
      go_wp2_with (refine blk_load _ rfl 25 _ rfl (w.heap.size + 1) rfl _ _ F6 _ Try.underlying25 rfl 5 fw_info rfl ?_)
      refine (CX1 _ _ R6).mono ?_
      rintro e w7 ⟨rfl, z7⟩
      have b7 := b6.trans (z7.mono b6.size)
      clear R6 F6 z7 b6 CX1
      by_cases hqI : (q : Int) = J
      · subst hqI
        go_wp2_with fail
        all_goals go_ret
        all_goals exact ⟨rfl, b7⟩
      · have hD := HD3.out hqI
        subst hD
        go_wp2_with fail
        all_goals go_ret
        all_goals exact ⟨rfl, b7⟩
    · have hI2 : I < 0 := by omega
      by_cases hJ : 0 ≤ J
      · have d2 := HJ.out (by omega) hJ
        subst d2
        clear HI HJ
        go_upto_region 7 with fail
        go_wp2_with fail
        refine (CC _ R4).mono ?_
        rintro e w5 ⟨v5, rfl, O5, z5⟩
        obtain ⟨g, cap, e5, hg⟩ := O5.form (by have := HQ.out; omega)
        subst e5
        have F5 := F4.below z5 F4.lt
        have hgB : w4.heap.size ≤ g := hg.1
        have hq := HQ.out
        go_wp2_with fail
        refine (del_any l w4.heap.size g cap q w5 O5 HQ.out).mono ?_
        rintro e w6 ⟨rfl, O6, u6⟩
        have z6 : Below w4.heap.size w5 w6 := (Below.refl _ _).grown u6 z5.size (fun k hk => by cases hk; exact hgB)
        have z56 := z5.trans z6
        have F6 := F4.below z56 F4.lt
        have b6 := b4.trans (z56.mono b4.size)
        have R6 := Own.rd O6
        clear O5 O6 u6 z6 z56 F5 z5 R4 CC
        go_wp2_with (refine blk_load _ rfl 25 _ rfl (w.heap.size + 1) rfl _ _ F6 _ Try.underlying25 rfl 5 fw_info rfl ?_)
        refine (CX1 _ _ R6).mono ?_
        rintro e w7 ⟨rfl, z7⟩
        have b7 := b6.trans (z7.mono b6.size)
        clear R6 F6 z7 b6 CX1
        by_cases hqI : (q : Int) = I
        · subst hqI
          go_wp2_with fail
          all_goals go_ret
          all_goals exact ⟨rfl, b7⟩
        · have hD := HD3.out hqI
          subst hD
          go_wp2_with fail
          all_goals go_ret
          all_goals exact ⟨rfl, b7⟩
      · have hJ2 : J < 0 := by omega
        clear HI HJ
        go_upto_region 7 with fail
        go_wp2_with fail
        refine (CC _ R4).mono ?_
        rintro e w5 ⟨v5, rfl, O5, z5⟩
        obtain ⟨g, cap, e5, hg⟩ := O5.form (by have := HQ.out; omega)
        subst e5
        have F5 := F4.below z5 F4.lt
        have hgB : w4.heap.size ≤ g := hg.1
        have hq := HQ.out
        go_wp2_with fail
        refine (del_any l w4.heap.size g cap q w5 O5 HQ.out).mono ?_
        rintro e w6 ⟨rfl, O6, u6⟩
        have z6 : Below w4.heap.size w5 w6 := (Below.refl _ _).grown u6 z5.size (fun k hk => by cases hk; exact hgB)
        have z56 := z5.trans z6
        have F6 := F4.below z56 F4.lt
        have b6 := b4.trans (z56.mono b4.size)
        have R6 := Own.rd O6
        clear O5 O6 u6 z6 z56 F5 z5 R4 CC
        go_wp2_with (refine blk_load _ rfl 25 _ rfl (w.heap.size + 1) rfl _ _ F6 _ Try.underlying25 rfl 5 fw_info rfl ?_)
        refine (CX1 _ _ R6).mono ?_
        rintro e w7 ⟨rfl, z7⟩
        have b7 := b6.trans (z7.mono b6.size)
        clear R6 F6 z7 b6 CX1
        by_cases hqI : (q : Int) = I
        · subst hqI
          go_wp2_with fail
          all_goals go_ret
          all_goals exact ⟨rfl, b7⟩
        · have hD := HD3.out hqI
          subst hD
          go_wp2_with fail
          all_goals go_ret
          all_goals exact ⟨rfl, b7⟩
end Go.Proofs.Ytfcnabpbpbhacaa.ru
