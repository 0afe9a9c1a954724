/- custref.Fed, from where it looks for its heap on. -/
import Derived.Test.YtlbpapngcgnepaaFragFedQ
import Derived.Test.YtlbpapngcgnepaaFragFedLm
namespace Go.Proofs.Ytlbpapngcgnepaa.fdp
open Go.ChangeShapes Go.WideShapes Go.ChangeAt Go.RowKit Go.BigFrame
open Go.Proofs.Ytlbpapngcgnepaa Go.Proofs.Ytlbpapngcgnepaa.ipb Go.Proofs.Ytlbpapngcgnepaa.boxes Go.Proofs.Ytlbpapngcgnepaa.ipr Go.Proofs.Ytlbpapngcgnepaa.frb Go.Proofs.Ytlbpapngcgnepaa.frp Go.Proofs.Ytlbpapngcgnepaa.pl Go.Proofs.Ytlbpapngcgnepaa.frx Go.Proofs.Ytlbpapngcgnepaa.frh Go.Proofs.Ytlbpapngcgnepaa.frf2 Go.Proofs.Ytlbpapngcgnepaa.frt Go.Proofs.Ytlbpapngcgnepaa.frfe Go.Proofs.Ytlbpapngcgnepaa.fdz Go.Proofs.Ytlbpapngcgnepaa.fdy Go.Proofs.Ytlbpapngcgnepaa.frha
open Go.Proofs.Ytlbpapngcgnepaa.rws (Own Knd)

theorem told_build {o : Oper} {a : Act} {w : World} {R : Value → World → Prop} (x : Operand) (y : Hv) (hop : o.op = .buildSlice 31 1 #[(0, x)]) (h0 : a.eval x = .agg y.cells)
    (h : R (.slice (some ⟨w.heap.size, 0, none⟩) 1 1) (w.alloc (.cells y.cells 46))) : spc.yieldsTo Try.prog o a w R := by
  unfold spc.yieldsTo
  generalize a.eval = E at *
  simp [execOp, hop, h0, go_sem]
  exact h
theorem heads {w : World} {X : List Hv} {L : List Hp} (h : Ms w X L) : X.map (·.h) = L.map (·.h) := by
  refine List.ext_getElem? fun j => ?_
  rw [List.getElem?_map, List.getElem?_map]
  by_cases hj : j < X.length
  · have hj' : j < L.length := by have := h.1; omega
    rw [List.getElem?_eq_getElem hj, List.getElem?_eq_getElem hj']
    exact congrArg some (h.2 j _ _ (List.getElem?_eq_getElem hj) (List.getElem?_eq_getElem hj')).1
  · rw [List.getElem?_eq_none (by omega), List.getElem?_eq_none (by have := h.1; omega)]; rfl
/-- the heap that is new -/
def nv (p : Pk) : Hv := ⟨⟨p.fr, p.to, p.pr, p.id, 0, 0, ⟨#[]⟩⟩, none, 0, 0⟩
set_option maxRecDepth 20000 in
set_option maxHeartbeats 8000000 in
theorem from13 (w V : World) (T : Tk) (p : Pk) (v : Value) (X : List Hv) (L : List Hp) (h : Rd HK V v X) (hM : Ms V X L) (hr : perr L = 0) (hq : (ptOf p).ok = true) (hT : Hid (T = takeL L p))
    (F : Blk V w.heap.size p.cells 24) (R : Blk V (w.heap.size + 1) zeroP.cells 24) (Z : Blk V (w.heap.size + 1 + 1) zeroP.cells 24) (bel : Below w.heap.size w V)
    (z1 z2 z4 z6 z7 z9 z10 z11 z12 z13 z14 z15 z16 z17 z18 z19 z20 z21 z22 z23 z24 z25 z26 z27 z28 z29 z30 z31 z32 z33 z34 z35 z36 z37 z38 z39 z40 z41 z42 z43 z44 z45 z46 z47 z48 z49 z50 z51 z52 z53 z54 z55 z56 z57 z58 z59 z60 z61 z62 z63 z64 z65 z66 z67 z68 z69 z70 z71 z72 z73 z74 z75 z76 z77 z78 z79 z80 z81 z82 z83 z84 z85 z86 z87 z88 z89 z90 z91 z92 z93 z94 z95 z96 z97 z98 z99 z100 z101 z102 z103 z104 z105 z106 z107 z108 z109 z110 z111 z112 z113 z114 z115 z116 z117 z118 z119 z120 z121 z122 z123 z124 z125 z126 z127 z128 z129 z130 z131 z132 z133 z134 z135 z136 z137 z138 z139 z140 z141 z142 z143 z144 z145 z146 z147 z148 z149 z150 z151 z152 z153 z154 z155 z156 z157 z158 z159 z160 z161 z162 z163 z164 z165 z166 z167 z168 z169 z170 z171 z172 z173 z174 z175 z176 z177 z178 z179 z180 z181 z182 z183 z184 z185 z186 z187 z188 z189 z190 z191 z192 z193 z194 z195 z196 z197 z198 z199 z200 z201 z202 z203 z204 z205 z206 z207 z208 z209 z210 z211 z212 z213 z214 z215 z216 z217 z218 z219 z220 z221 z222 z223 z224 z225 z226 z227 z228 z229 z230 z231 z232 z233 z234 z235 z236 z237 z238 z239 z240 z241 z242 z243 z244 z245 z246 z247 z248 z249 z250 z251 z252 z253 z254 z255 z256 z257 z258 z259 z260 z261 z262 z263 z264 z265 : Value) :
    (pts.st Try.f13 8).wp Try.prog (Exit.then ((pts.rest Try.f13 8).wp Try.prog (bodyPost Try.prog Try.f13 (Post w T))) (bodyPost Try.prog Try.f13 (Post w T))) { tmps := #[v, z1, z2, .pointer (some ⟨w.heap.size, 0, none⟩), z4, .pointer (some ⟨w.heap.size + 1, 0, none⟩), z6, z7, .pointer (some ⟨w.heap.size + 1 + 1, 0, none⟩), z9, z10, z11, z12, z13, z14, z15, z16, z17, z18, z19, z20, z21, z22, z23, z24, z25, z26, z27, z28, z29, z30, z31, z32, z33, z34, z35, z36, z37, z38, z39, z40, z41, z42, z43, z44, z45, z46, z47, z48, z49, z50, z51, z52, z53, z54, z55, z56, z57, z58, z59, z60, z61, z62, z63, z64, z65, z66, z67, z68, z69, z70, z71, z72, z73, z74, z75, z76, z77, z78, z79, z80, z81, z82, z83, z84, z85, z86, z87, z88, z89, z90, z91, z92, z93, z94, z95, z96, z97, z98, z99, z100, z101, z102, z103, z104, z105, z106, z107, z108, z109, z110, z111, z112, z113, z114, z115, z116, z117, z118, z119, z120, z121, z122, z123, z124, z125, z126, z127, z128, z129, z130, z131, z132, z133, z134, z135, z136, z137, z138, z139, z140, z141, z142, z143, z144, z145, z146, z147, z148, z149, z150, z151, z152, z153, z154, z155, z156, z157, z158, z159, z160, z161, z162, z163, z164, z165, z166, z167, z168, z169, z170, z171, z172, z173, z174, z175, z176, z177, z178, z179, z180, z181, z182, z183, z184, z185, z186, z187, z188, z189, z190, z191, z192, z193, z194, z195, z196, z197, z198, z199, z200, z201, z202, z203, z204, z205, z206, z207, z208, z209, z210, z211, z212, z213, z214, z215, z216, z217, z218, z219, z220, z221, z222, z223, z224, z225, z226, z227, z228, z229, z230, z231, z232, z233, z234, z235, z236, z237, z238, z239, z240, z241, z242, z243, z244, z245, z246, z247, z248, z249, z250, z251, z252, z253, z254, z255, z256, z257, z258, z259, z260, z261, z262, z263, z264, z265], defers := [] } V := by
  conv in pts.st _ _ => whnf
  conv in pts.rest _ _ => whnf
  have n16 : X.length ≤ 16 := by have := ((frk.perr_iff L).1 hr).n; have := hM.1; omega
  obtain ⟨i, ⟨xh, ps0⟩, hA, hx, hTT, hb, hn⟩ := fdl.ctx (p := p) hr
  obtain ⟨ps, qa, qd, ql, FX⟩ := fdl.fx (hT.out.trans hTT) hb hq hn (m := ps0.length) rfl
  have CI := fd2.index_any v X p w.heap.size V h F
  rw [heads hM] at CI
  clear hT hTT hb hn hq hr
  unfold forAt at hA
  have eL : forL L p = if 0 ≤ fnd (pnm p) (L.map (·.h)) 0 then L else (if L.length = 16 then L.drop 1 else L) ++ [newH p] := rfl
  have lF := F.lt
  by_cases hf : 0 ≤ fnd (pnm p) (L.map (·.h)) 0
  · rw [if_pos hf] at hA eL
    rw [eL] at hx FX
    rw [hA] at CI
    clear hf hA eL
    have hil := (List.getElem?_eq_some_iff.1 hx).1
    have hiX : i < X.length := by have := hM.1; omega
    obtain ⟨⟨vh, sa, sn, sc⟩, hxv⟩ : ∃ y, X[i]? = some y := ⟨_, List.getElem?_eq_getElem hiX⟩
    obtain ⟨eh, hpr⟩ := hM.2 i _ _ hxv hx
    have eh' : vh = xh := eh
    subst eh'
    have esn : ps0.length = sn := by obtain ⟨_, _, e, _⟩ := hpr; simp only [Value.slice.injEq] at e; exact e.2.1.symm
    subst esn
    obtain ⟨g, goff, cap, rfl⟩ : ∃ g goff cap, v = .slice (some ⟨g, goff, none⟩) X.length cap := by
      obtain ⟨sa, sc, rfl, _, _, hc⟩ := id h
      obtain ⟨b, off, rfl, _⟩ := hc (by omega)
      exact ⟨b, off, sc, rfl⟩
    have m64 := FX.m64
    have I0 : Hid (0 ≤ (i : Int)) := Int.natCast_nonneg i
    have i0 : ¬ (i : Int) < 0 := by omega
    have FX' : Hid _ := FX
    go_wp2_with fail
    refine CI.mono ?_
    rintro e V1 ⟨rfl, hb1⟩
    clear CI
    have h1 := h.below hb1
    have M1 := hM.below hb1
    have F1 := F.below hb1 F.lt
    have R1 := R.below hb1 R.lt
    have Z1 := Z.below hb1 Z.lt
    have bl1 := bel.trans (hb1.mono bel.size)
    have hpr1 := hpr.below hb1
    clear h hM F R Z bel hpr hb1 FX
    go_upto_region 19 with fail
    have FX := FX'.out
    exact pts.part (by assumption) (fdq.from19 w V1 T p g goff X.length cap X L i vh sa ps0.length sc ps0 ps qa qd ql h1 M1 rfl (by omega) (by omega) hiX hxv hpr1 (by omega) FX.sm (fun a => FX.S a) FX.q F1 R1 Z1 bl1 (fun e => FX.E0 e) (fun a b => FX.E8 a b) (fun a b c => FX.E6 a b c) (fun a b c => FX.E a b c) _ _ _ _ _ _ _ _ _ _ _ _ _ _ _ _ _ _ _ _ _ _ _ _ _ _ _ _ _ _ _ _ _ _ _ _ _ _ _ _ _ _ _ _ _ _ _ _ _ _ _ _ _ _ _ _ _ _ _ _ _ _ _ _ _ _ _ _ _ _ _ _ _ _ _ _ _ _ _ _ _ _ _ _ _ _ _ _ _ _ _ _ _ _ _ _ _ _ _ _ _ _ _ _ _ _ _ _ _ _ _ _ _ _ _ _ _ _ _ _ _ _ _ _ _ _ _ _ _ _ _ _ _ _ _ _ _ _ _ _ _ _ _ _ _ _ _ _ _ _ _ _ _ _ _ _ _ _ _ _ _ _ _ _ _ _ _ _ _ _ _ _ _ _ _ _ _ _ _ _ _ _ _ _ _ _ _ _ _ _ _ _ _ _ _ _ _ _ _ _ _ _ _ _ _ _ _ _ _ _ _ _ _ _ _ _ _ _ _ _ _ _ _ _ _ _ _ _ _ _ _ _ _ _ _ _ _ _ _ _ _ _ _ _ _ _ _ _ _ _ _ _ _ _ _ _ _ _ _ _ _)
  · rw [if_neg hf] at hA eL
    rw [eL] at hx FX
    have eM : (if L.length = 16 then L.drop 1 else L) = if X.length = 16 then L.drop 1 else L := by rw [hM.1]
    rw [eM] at hA hx FX
    have hi : i = (if X.length = 16 then L.drop 1 else L).length := by omega
    subst hi
    have hne : fnd (pnm p) (L.map (·.h)) 0 < 0 := by omega
    generalize fnd (pnm p) (L.map (·.h)) 0 = f at CI hne
    clear hf hA eL eM
    rw [List.getElem?_append_right (Nat.le_refl _), Nat.sub_self, List.getElem?_cons_zero] at hx
    have ehp := Option.some.inj hx
    simp only [newH, Hp.mk.injEq] at ehp
    obtain ⟨rfl, rfl⟩ := ehp
    have FX' : Hid _ := FX
    clear hx FX
    go_wp2_with fail
    refine CI.mono ?_
    rintro e V1 ⟨rfl, hb1⟩
    clear CI
    have h1 := h.below hb1
    have M1 := hM.below hb1
    have F1 := F.below hb1 F.lt
    have R1 := R.below hb1 R.lt
    have Z1 := Z.below hb1 Z.lt
    have bl1 := bel.trans (hb1.mono bel.size)
    clear h hM F R Z bel hb1
    obtain ⟨sa, sc, rfl⟩ := h1.form
    obtain ⟨B16, hB⟩ : ∃ B : Bool, B = ((X.length : Int) == 16) := ⟨_, rfl⟩
    have HB : Hid (B16 = decide (X.length = 16)) := by
      show _ = _
      rw [hB, Bool.eq_iff_iff]; simp; omega
    go_upto_if 78 with fail
    rw [← hB]
    clear hB
    go_cut [0] (fun c wx => ∃ X0 : List Hv, Rd HK wx c X0 ∧ Ms wx X0 (if X.length = 16 then L.drop 1 else L) ∧ X0.length ≤ 16 ∧ Below V1.heap.size V1 wx)
    case first =>
      by_cases h16 : X.length = 16
      · have hB1 : B16 = true := by rw [HB.out]; exact decide_eq_true h16
        have H16 : Hid (X.length = 16) := h16
        have CW : Calls Try.prog 29 #[.slice sa X.length sc, .int .i64 0] V1 _ := fd1.without_any (.slice sa X.length sc) X 0 V1 h1 (by omega) (by omega)
        subst hB1
        clear h16 HB
        go_wp2_with fail
        refine CW.mono ?_
        rintro e V2 ⟨v', rfl, o, hb2⟩
        go_wp2_with fail
        go_meet
        have hh := H16.out
        exact ⟨_, frp.Own.rd o, by rw [if_pos hh]; have := (M1.below hb2).wo 0; simpa [frt.wo] using this, by simp; omega, hb2⟩
      · have hB1 : B16 = false := by rw [HB.out]; exact decide_eq_false h16
        have H16 : Hid (¬ X.length = 16) := h16
        subst hB1
        clear h16 HB
        go_wp2_with fail
        go_meet
        have hh := H16.out
        exact ⟨X, h1, by rw [if_neg hh]; exact M1, n16, Below.refl _ _⟩
    case rest =>
    obtain ⟨X0, h0, M0, l0, b0⟩ := hcut
    obtain ⟨sa0, sc0, ec⟩ := h0.form
    subst ec
    have FX := FX'.out
    generalize (if X.length = 16 then List.drop 1 L else L) = M at M0 FX
    have eM := M0.1
    rw [← eM] at FX
    have HX : Hid _ := FX
    have F2 := F1.below b0 F1.lt
    have R2 := R1.below b0 R1.lt
    have Z2 := Z1.below b0 Z1.lt
    have bl2 := bl1.trans (b0.mono bl1.size)
    clear FX FX' eM F1 R1 Z1 bl1 M1 h1 b0 HB B16 n16 lF
    have CC := fun u hu => fd1.cloneH_any (.slice sa0 X0.length sc0) X0 u hu (by omega)
    have ne : Nonempty (spc.In (ab.Ab wc)) := ⟨⟨_, ab.Ab.refl wc⟩⟩
    have cF : ∀ (x : spc.In (ab.Ab wc)) o, x.W.cell? ⟨w.heap.size, o, none⟩ = p.cells[o]? := fun x o => (Below.cell x.h (p := ⟨w.heap.size, o, none⟩) F2.lt).trans (F2.cell o)
    go_upto_region 18 with fail
    refine' lsn.told 12 _ [(1, undef), (11, undef)] [(1, 84), (11, 94)] (fun k v W' => Own HK W' wc.heap.size v (if k = 1 then X0 else [nv p])) (ab.Ab wc) (fun W W' => Below W.heap.size W W') (by kernel_rfl) (by simp only [List.take]; exact rfl) (by simp only [List.drop]; exact rfl) (by kernel_rfl) (by kernel_rfl) (ab.Ab.drew wc)
      (fun k v W W' hb h => Own.kept h hb) (by simp only [spc.rep, List.lookup, Nat.zero_add, Nat.reduceAdd, Nat.reduceBEq]; exact rfl) ?_
    repeat (go_big_quiet_step (fail))
    refine wpQuiet_nil ⟨?_, ?_, ?_⟩
    · simp only [List.forall_mem_cons, List.not_mem_nil, false_imp_iff, implies_true, and_true]
      refine ⟨?_, ?_⟩ <;> (rintro _ ⟨⟩; rfl)
    · simp only [List.forall_mem_cons, List.not_mem_nil, false_imp_iff, implies_true, and_true]
      refine ⟨?_, ?_⟩
      · rintro _ ⟨⟩ x u hC - -
        refine told.call1 30 _ _ _ rfl (by intro args w; simp [go_sem]) rfl ((CC u (h0.below hC)).mono ?_)
        rintro e w' ⟨v', rfl, o, hb⟩
        refine ⟨_, rfl, Below.trans hC (hb.mono (Below.size hC)), hb, ?_⟩
        rw [if_pos (by decide)]
        show Own HK w' wc.heap.size v' X0
        exact o.mono (Below.size hC)
      · rintro _ ⟨⟩ x u hC - -
        refine told_build _ (nv p) rfl rfl ?_
        have ba := (Below.refl u.heap.size u).alloc (Nat.le_refl _) (.cells (nv p).cells 46)
        refine ⟨Below.trans hC (ba.mono (Below.size hC)), ba, ?_⟩
        rw [if_pos (by decide)]
        show Own HK _ wc.heap.size _ [nv p]
        exact Own.lit HK u wc.heap.size (Below.size hC) [nv p] (by unfold maxLen; simp) _ rfl
    intro x Wx hC hS2
    have own : Own HK Wx wc.heap.size (x 1) X0 := hS2 (1, 84) (by simp)
    have row : Own HK Wx wc.heap.size (x 11) [nv p] := hS2 (11, 94) (by simp)
    have hrow := frp.Own.rd row
    have F3 := F2.below hC F2.lt
    have R3 := R2.below hC R2.lt
    have Z3 := Z2.below hC Z2.lt
    have szx := Below.size hC
    have bl3 := bl2.trans (Below.mono hC bl2.size)
    have lF := F2.lt
    have lR := R2.lt
    have lZ := Z2.lt
    clear hS2 CC ne cF row F2 R2 Z2 bl2 h0
    simp only [spc.jn, Act.put, List.setIfInBounds_toArray, List.set_cons_succ, List.set_cons_zero]
    refine app_rd HK Wx rfl _ _ rfl wc.heap.size _ X0 rfl own _ [nv p] rfl hrow (by unfold maxLen; simp; omega) (by show (X0.length + 1) * 80 ≤ _; omega) szx ?_
    intro v' W4 O4 c4 _
    obtain ⟨g, cap, rfl, hg0, hg1, hnc, hmx, hcells⟩ := O4.form (by simp)
    have el : (X0 ++ [nv p]).length = X0.length + 1 := by simp
    have R4 := frp.Own.rd O4
    rw [el] at R4 ⊢
    have F5 := F3.below c4 (by omega)
    have R5 := R3.below c4 (by omega)
    have Z5 := Z3.below c4 (by omega)
    have bl5 := bl3.trans (c4.mono (by omega))
    have M5 : Ms W4 (X0 ++ [nv p]) (M ++ [newH p]) := Ms.snoc (M0.below (Below.trans hC c4)) (nv p) (newH p) rfl ⟨none, 0, rfl, Nat.zero_le _, ⟨Nat.zero_le _, fun _ => rfl⟩, fun h => by simp [newH] at h⟩
    clear hcells own hrow c4 F3 R3 Z3 bl3 M0 hC O4 hnc hmx hg1
    go_upto_region 19 with fail
    have FX := HX.out
    exact pts.part (by assumption) (fdq.from19 w W4 T p g 0 (X0.length + 1) cap (X0 ++ [nv p]) (M ++ [newH p]) X0.length _ none 0 0 [] ps qa qd ql R4 M5 el (by omega) (by rw [el]; omega) (by omega) (by rw [List.getElem?_append_right (Nat.le_refl _), Nat.sub_self]; rfl) ⟨none, 0, rfl, Nat.zero_le _, ⟨Nat.zero_le _, fun _ => rfl⟩, fun h => by simp at h⟩ (by omega) FX.sm (fun a => FX.S a) FX.q F5 R5 Z5 bl5 (fun e => FX.E0 e) (fun a b => FX.E8 a b) (fun a b c => FX.E6 a b c) (fun a b c => FX.E a b c) _ _ _ _ _ _ _ _ _ _ _ _ _ _ _ _ _ _ _ _ _ _ _ _ _ _ _ _ _ _ _ _ _ _ _ _ _ _ _ _ _ _ _ _ _ _ _ _ _ _ _ _ _ _ _ _ _ _ _ _ _ _ _ _ _ _ _ _ _ _ _ _ _ _ _ _ _ _ _ _ _ _ _ _ _ _ _ _ _ _ _ _ _ _ _ _ _ _ _ _ _ _ _ _ _ _ _ _ _ _ _ _ _ _ _ _ _ _ _ _ _ _ _ _ _ _ _ _ _ _ _ _ _ _ _ _ _ _ _ _ _ _ _ _ _ _ _ _ _ _ _ _ _ _ _ _ _ _ _ _ _ _ _ _ _ _ _ _ _ _ _ _ _ _ _ _ _ _ _ _ _ _ _ _ _ _ _ _ _ _ _ _ _ _ _ _ _ _ _ _ _ _ _ _ _ _ _ _ _ _ _ _ _ _ _ _ _ _ _ _ _ _ _ _ _ _ _ _ _ _ _ _ _ _ _ _ _ _ _ _ _ _ _ _ _ _ _ _ _ _ _ _ _ _ _ _ _ _ _ _ _)
end Go.Proofs.Ytlbpapngcgnepaa.fdp
