/- custref.Fed, from its last part on. -/
import Derived.Test.YtlbpapngcgnepaaJoinD
import Derived.Test.YtlbpapngcgnepaaTold
namespace Go.Proofs.Ytlbpapngcgnepaa.fdx
open Go.ChangeShapes Go.WideShapes Go.ChangeAt Go.RowKit Go.BigFrame
open Go.Proofs.Ytlbpapngcgnepaa Go.Proofs.Ytlbpapngcgnepaa.ipb Go.Proofs.Ytlbpapngcgnepaa.boxes Go.Proofs.Ytlbpapngcgnepaa.ipr Go.Proofs.Ytlbpapngcgnepaa.frb Go.Proofs.Ytlbpapngcgnepaa.frp Go.Proofs.Ytlbpapngcgnepaa.pl Go.Proofs.Ytlbpapngcgnepaa.frx Go.Proofs.Ytlbpapngcgnepaa.frh Go.Proofs.Ytlbpapngcgnepaa.frf2 Go.Proofs.Ytlbpapngcgnepaa.frt Go.Proofs.Ytlbpapngcgnepaa.frfe Go.Proofs.Ytlbpapngcgnepaa.fdz Go.Proofs.Ytlbpapngcgnepaa.fdy
open Go.Proofs.Ytlbpapngcgnepaa.rws (Own Knd)

theorem told_assign {o : Oper} {a : Act} {w : World} {R : Value → World → Prop} (x : Operand) (hop : o.op = .assign x) (h : R (a.eval x) w) : spc.yieldsTo Try.prog o a w R := by
  unfold spc.yieldsTo
  generalize a.eval = E at *
  simp [execOp, hop, go_sem]
  exact h
set_option maxRecDepth 20000 in
set_option maxHeartbeats 4000000 in
theorem from43 (w W : World) (T : Tk) (p : Pk) (v : Value) (X : List Hv) (L : List Hp) (i bh : Nat) (xh : Hd) (pb poff sc n : Nat) (ps : List Pt) (qa : Int) (qd : ByteArray) (ql : Bool) (S : ByteArray) (h : Rd HK W v X) (hM : Ms W X L) (hb : X.length * 80 ≤ 140737488355328) (hi : i < X.length)
    (hx : Rd TK W (.slice (some ⟨pb, poff, none⟩) (n + 1) sc) ps) (hps : ps.length = n + 1) (hn : n ≤ 1000) (hq : ps[n]? = some ⟨qa, qd, ql⟩) (q0 : 0 ≤ qa) (q1 : qa ≤ 1000000) (q2 : qd.size ≤ 1000000)
    (H : Blk W bh (Hd.cells xh (.slice (some ⟨pb, poff, none⟩) (n + 1) sc)) 46) (F : Blk W w.heap.size p.cells 24)
    (R : Blk W (w.heap.size + 1) zeroP.cells 24) (Z : Blk W (w.heap.size + 1 + 1) zeroP.cells 24) (bel : Below w.heap.size w W)
    (E : Hid (T = if (ql && ((S.size : Int) == qa + qd.size)) = true then ⟨wo L i, ⟨xh.tos, p.id, false, false, 0, xh.li, p.pr, p.fr, p.to, xh.o, S⟩, true, 0⟩ else ⟨L.set i ⟨xh, ps⟩, zeroP, false, 0⟩))
    (z1 z2 z4 z6 z7 z9 z12 z13 z14 z15 z17 z18 z19 z20 z21 z22 z23 z24 z25 z26 z27 z28 z29 z30 z31 z32 z33 z34 z35 z36 z37 z38 z39 z40 z41 z42 z43 z44 z45 z46 z47 z48 z49 z50 z51 z52 z53 z54 z55 z56 z57 z58 z59 z60 z61 z62 z63 z64 z65 z66 z67 z68 z69 z70 z71 z72 z73 z74 z75 z76 z77 z78 z79 z80 z81 z82 z83 z84 z85 z86 z87 z88 z89 z90 z91 z92 z93 z94 z95 z96 z97 z98 z99 z100 z101 z102 z103 z104 z105 z106 z107 z108 z109 z110 z111 z112 z113 z114 z115 z116 z117 z118 z119 z120 z121 z122 z123 z124 z125 z126 z127 z128 z129 z130 z131 z132 z133 z134 z135 z136 z137 z138 z139 z140 z141 z142 z143 z144 z145 z146 z147 z148 z149 z150 z151 z152 z153 z154 z155 z156 z157 z158 z159 z160 z161 z162 z163 z164 z165 z166 z167 z168 z169 z170 z171 z172 z173 z174 z175 z176 z177 z178 z179 z180 z181 z182 z183 z184 z185 z186 z187 z188 z189 z190 z191 z192 z193 z194 z195 z196 z197 z198 z199 z200 z201 z202 z203 z204 z205 z206 z207 z208 z209 z210 z211 z212 z213 z214 z215 z216 z217 z218 z219 z220 z221 z222 z223 z224 z225 z226 z227 z228 z229 z230 z231 z232 z233 z234 z235 z236 z237 z238 z239 z240 z241 z242 z243 z244 z245 z246 z247 z248 z249 z250 z251 z252 z253 z254 z255 z256 z257 z258 z259 z260 z261 z262 z263 z264 z265 : Value) :
    (pts.st Try.f13 20).wp Try.prog (Exit.then ((pts.rest Try.f13 20).wp Try.prog (bodyPost Try.prog Try.f13 (Post w T))) (bodyPost Try.prog Try.f13 (Post w T))) { tmps := #[v, z1, z2, .pointer (some ⟨w.heap.size, 0, none⟩), z4, .pointer (some ⟨w.heap.size + 1, 0, none⟩), z6, z7, .pointer (some ⟨w.heap.size + 1 + 1, 0, none⟩), z9, .int .i64 (i : Int), .pointer (some ⟨bh, 0, none⟩), z12, z13, z14, z15, .string S, z17, z18, z19, z20, z21, z22, z23, z24, z25, z26, z27, z28, z29, z30, z31, z32, z33, z34, z35, z36, z37, z38, z39, z40, z41, z42, z43, z44, z45, z46, z47, z48, z49, z50, z51, z52, z53, z54, z55, z56, z57, z58, z59, z60, z61, z62, z63, z64, z65, z66, z67, z68, z69, z70, z71, z72, z73, z74, z75, z76, z77, z78, z79, z80, z81, z82, z83, z84, z85, z86, z87, z88, z89, z90, z91, z92, z93, z94, z95, z96, z97, z98, z99, z100, z101, z102, z103, z104, z105, z106, z107, z108, z109, z110, z111, z112, z113, z114, z115, z116, z117, z118, z119, z120, z121, z122, z123, z124, z125, z126, z127, z128, z129, z130, z131, z132, z133, z134, z135, z136, z137, z138, z139, z140, z141, z142, z143, z144, z145, z146, z147, z148, z149, z150, z151, z152, z153, z154, z155, z156, z157, z158, z159, z160, z161, z162, z163, z164, z165, z166, z167, z168, z169, z170, z171, z172, z173, z174, z175, z176, z177, z178, z179, z180, z181, z182, z183, z184, z185, z186, z187, z188, z189, z190, z191, z192, z193, z194, z195, z196, z197, z198, z199, z200, z201, z202, z203, z204, z205, z206, z207, z208, z209, z210, z211, z212, z213, z214, z215, z216, z217, z218, z219, z220, z221, z222, z223, z224, z225, z226, z227, z228, z229, z230, z231, z232, z233, z234, z235, z236, z237, z238, z239, z240, z241, z242, z243, z244, z245, z246, z247, z248, z249, z250, z251, z252, z253, z254, z255, z256, z257, z258, z259, z260, z261, z262, z263, z264, z265], defers := [] } W := by
  conv in pts.st _ _ => whnf
  conv in pts.rest _ _ => whnf
  have cH := H.cell
  obtain ⟨_, _, e, hm, hf, hc⟩ := id hx
  obtain ⟨pb', poff', e2, hpb, hpx⟩ := hc (by omega)
  simp only [Value.slice.injEq] at e
  obtain ⟨rfl, -, -⟩ := e
  simp only [Option.some.injEq, Addr.mk.injEq, and_true] at e2
  obtain ⟨rfl, rfl⟩ := e2
  clear hc hf hm
  have hnc : n + 1 ≤ sc := by
    obtain ⟨_, _, e, _, hf, _⟩ := id hx
    simp only [Value.slice.injEq] at e
    obtain ⟨-, -, rfl⟩ := e
    have := hf.le; omega
  have Q1 : Blk (W.alloc (.cells (Pt.cells ⟨qa, qd, ql⟩) 49)) W.heap.size (Pt.cells ⟨qa, qd, ql⟩) 49 := Blk.new _ _ _
  have ba := (Below.refl W.heap.size W).alloc (Nat.le_refl _) (.cells (Pt.cells ⟨qa, qd, ql⟩) 49)
  go_upto_region 44 with (refine rd_load TK _ rfl _ rfl pb poff ps hpx n _ rfl (by first | rfl | simp) _ hq (Pt.cells ⟨qa, qd, ql⟩) rfl _ Try.underlying49 rfl ?_)
  have H1 := H.below ba H.lt
  have F1 := F.below ba F.lt
  have R1 := R.below ba R.lt
  have Z1 := Z.below ba Z.lt
  have h1 := h.below ba
  have M1 := hM.below ba
  have x1 := hx.below ba
  have b1 := bel.trans (ba.mono bel.size)
  clear H F R Z h hM hx bel hpx cH ba hq
  generalize W.alloc (.cells (Pt.cells ⟨qa, qd, ql⟩) 49) = W1 at *
  have cQ := Q1.cell
  have CW := fun u hu => fd1.without_any v X i u hu hi hb
  have j1 : (0 : Int) ≤ qa + (qd.size : Int) := by omega
  have j2 : qa + (qd.size : Int) ≤ 9223372036854775807 := by omega
  by_cases hw : (ql && ((S.size : Int) == qa + qd.size)) = true
  case neg =>
    have E1 : Hid (T = ⟨L.set i ⟨xh, ps⟩, zeroP, false, 0⟩) := by show _ = _; rw [E.out, if_neg hw]
    clear E CW
    have go : ∀ zz : Bool, True := fun _ => trivial
    clear go
    cases ql with
    | false =>
      clear hw
      go_upto_region 46 with fail
      refine pts.part (by assumption) (from46 w W1 T v X L i bh ⟨xh, some ⟨pb, poff, none⟩, n + 1, sc⟩ ps h1 M1 hb hi x1 H1 R1 Z1 b1 E1 _ _ _ _ _ _ _ _ _ _ _ _ _ _ _ _ _ _ _ _ _ _ _ _ _ _ _ _ _ _ _ _ _ _ _ _ _ _ _ _ _ _ _ _ _ _ _ _ _ _ _ _ _ _ _ _ _ _ _ _ _ _ _ _ _ _ _ _ _ _ _ _ _ _ _ _ _ _ _ _ _ _ _ _ _ _ _ _ _ _ _ _ _ _ _ _ _ _ _ _ _ _ _ _ _ _ _ _ _ _ _ _ _ _ _ _ _ _ _ _ _ _ _ _ _ _ _ _ _ _ _ _ _ _ _ _ _ _ _ _ _ _ _ _ _ _ _ _ _ _ _ _ _ _ _ _ _ _ _ _ _ _ _ _ _ _ _ _ _ _ _ _ _ _ _ _ _ _ _ _ _ _ _ _ _ _ _ _ _ _ _ _ _ _ _ _ _ _ _ _ _ _ _ _ _ _ _ _ _ _ _ _ _ _ _ _ _ _ _ _ _ _ _ _ _ _ _ _ _ _ _ _ _ _ _ _ _ _ _ _ _ _ _ _ _ _ _ _ _ _ _ _ _ _ _ _ _ _ _ _)
    | true =>
      have hs : ((S.size : Int) == qa + qd.size) = false := by simpa using hw
      clear hw
      go_upto_region 46 with fail
      refine pts.part (by assumption) (from46 w W1 T v X L i bh ⟨xh, some ⟨pb, poff, none⟩, n + 1, sc⟩ ps h1 M1 hb hi x1 H1 R1 Z1 b1 E1 _ _ _ _ _ _ _ _ _ _ _ _ _ _ _ _ _ _ _ _ _ _ _ _ _ _ _ _ _ _ _ _ _ _ _ _ _ _ _ _ _ _ _ _ _ _ _ _ _ _ _ _ _ _ _ _ _ _ _ _ _ _ _ _ _ _ _ _ _ _ _ _ _ _ _ _ _ _ _ _ _ _ _ _ _ _ _ _ _ _ _ _ _ _ _ _ _ _ _ _ _ _ _ _ _ _ _ _ _ _ _ _ _ _ _ _ _ _ _ _ _ _ _ _ _ _ _ _ _ _ _ _ _ _ _ _ _ _ _ _ _ _ _ _ _ _ _ _ _ _ _ _ _ _ _ _ _ _ _ _ _ _ _ _ _ _ _ _ _ _ _ _ _ _ _ _ _ _ _ _ _ _ _ _ _ _ _ _ _ _ _ _ _ _ _ _ _ _ _ _ _ _ _ _ _ _ _ _ _ _ _ _ _ _ _ _ _ _ _ _ _ _ _ _ _ _ _ _ _ _ _ _ _ _ _ _ _ _ _ _ _ _ _ _ _ _ _ _ _ _ _ _ _ _ _ _ _ _ _ _)
  have E1 : Hid (T = ⟨wo L i, ⟨xh.tos, p.id, false, false, 0, xh.li, p.pr, p.fr, p.to, xh.o, S⟩, true, 0⟩) := by show _ = _; rw [E.out, if_pos hw]
  simp only [Bool.and_eq_true] at hw
  obtain ⟨rfl, hs⟩ := hw
  clear E
  go_upto_region 45 with fail
  clear hs j1 j2 q0 q1 q2 cQ Q1
  have ne : Nonempty (spc.In (ab.Ab W1)) := ⟨⟨_, ab.Ab.refl W1⟩⟩
  have cH : ∀ (x : spc.In (ab.Ab W1)) o, x.W.cell? ⟨bh, o, none⟩ = (Hd.cells xh (.slice (some ⟨pb, poff, none⟩) (n + 1) sc))[o]? := fun x o => (Below.cell x.h (p := ⟨bh, o, none⟩) H1.lt).trans (H1.cell o)
  have cF : ∀ (x : spc.In (ab.Ab W1)) o, x.W.cell? ⟨w.heap.size, o, none⟩ = p.cells[o]? := fun x o => (Below.cell x.h (p := ⟨w.heap.size, o, none⟩) F1.lt).trans (F1.cell o)
  refine' lsn.told 20 _ [(2, undef), (19, undef)] [(2, 241), (19, 4)] (fun k v W => Own HK W W1.heap.size v (X.take i ++ X.drop (i + 1))) (ab.Ab W1) (fun W W' => Below W.heap.size W W') (by kernel_rfl) (by simp only [List.take]; exact rfl) (by simp only [List.drop]; exact rfl) (by kernel_rfl) (by kernel_rfl) (ab.Ab.drew W1)
    (fun k v W W' hb h => Own.kept h hb) (by simp only [spc.rep, List.lookup, Nat.zero_add, Nat.reduceAdd, Nat.reduceBEq]; exact rfl) ?_
  repeat (go_big_quiet_step (fail))
  refine wpQuiet_nil ⟨?_, ?_, ?_⟩
  · simp only [List.forall_mem_cons, List.not_mem_nil, false_imp_iff, implies_true, and_true]
    refine ⟨?_, ?_⟩ <;> (rintro _ ⟨⟩; rfl)
  · simp only [List.forall_mem_cons, List.not_mem_nil, false_imp_iff, implies_true, and_true]
    refine ⟨?_, ?_⟩
    · rintro _ ⟨⟩ x u hC - -
      refine told.call2 29 _ _ _ _ _ rfl (by intro args w; simp [go_sem]) rfl rfl ((CW u (h1.below hC)).mono ?_)
      rintro e w' ⟨v', rfl, o, hb⟩
      refine ⟨_, rfl, Below.trans hC (hb.mono (Below.size hC)), hb, ?_⟩
      rw [if_pos (by decide)]
      exact o.mono (Below.size hC)
    · rintro _ ⟨⟩ x u hC hS -
      refine told_assign _ rfl ⟨hC, Below.refl _ _, ?_⟩
      rw [if_pos (by decide)]
      exact hS (2, 241) (by simp) (by decide)
  intro x Wx hC hS
  have own := hS (19, 4) (by simp)
  have Rx := R1.below hC R1.lt
  have bx := b1.trans (hC.mono b1.size)
  have Px := ((M1.below hC).wo i).prd (frp.Own.rd own)
  clear hS CW h1 M1 x1 H1 F1 R1 Z1 b1 ne cH cF
  simp only [spc.jn, Act.put, List.setIfInBounds_toArray, List.set_cons_succ, List.set_cons_zero]
  go_wp2_with (refine blk_store _ rfl 24 _ _ rfl (w.heap.size + 1) (Pk.cells ⟨xh.tos, p.id, false, false, 0, xh.li, p.pr, p.fr, p.to, xh.o, S⟩) rfl rfl _ _ Rx 11 pk_info rfl rfl (pk_one _) ?_)
  intro Wy ky uy
  have by_ := uy.below bx (by omega)
  go_wp2_with fail
  exact blk_ret4 rfl rfl _ _ _ rfl ky _ Try.underlying24 rfl 11 pk_info rfl ⟨_, ret_feed (by rw [E1.out]) (by rw [E1.out]) (by rw [E1.out]), by rw [E1.out]; exact prd_but Px Rx uy, by_⟩
end Go.Proofs.Ytlbpapngcgnepaa.fdx
