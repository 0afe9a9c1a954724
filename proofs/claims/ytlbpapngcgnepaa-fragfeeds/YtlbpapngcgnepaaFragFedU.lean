/- custref.Fed, from where it sorts the parts on. -/
import Derived.Test.YtlbpapngcgnepaaFragFedV
import Derived.Test.YtlbpapngcgnepaaFragFed3
namespace Go.Proofs.Ytlbpapngcgnepaa.fdu
open Go.ChangeShapes Go.WideShapes Go.ChangeAt Go.RowKit Go.BigFrame
open Go.Proofs.Ytlbpapngcgnepaa Go.Proofs.Ytlbpapngcgnepaa.ipb Go.Proofs.Ytlbpapngcgnepaa.boxes Go.Proofs.Ytlbpapngcgnepaa.ipr Go.Proofs.Ytlbpapngcgnepaa.frb Go.Proofs.Ytlbpapngcgnepaa.frp Go.Proofs.Ytlbpapngcgnepaa.pl Go.Proofs.Ytlbpapngcgnepaa.frx Go.Proofs.Ytlbpapngcgnepaa.frh Go.Proofs.Ytlbpapngcgnepaa.frf2 Go.Proofs.Ytlbpapngcgnepaa.frt Go.Proofs.Ytlbpapngcgnepaa.frfe Go.Proofs.Ytlbpapngcgnepaa.fdz Go.Proofs.Ytlbpapngcgnepaa.fdy
open Go.Proofs.Ytlbpapngcgnepaa.rws (Own Knd)

set_option maxRecDepth 20000 in
set_option maxHeartbeats 4000000 in
theorem from33 (w V W : World) (T : Tk) (p : Pk) (v : Value) (X : List Hv) (L : List Hp) (i bh bq B : Nat) (xh : Hd) (pb sc n : Nat) (ps1 ps : List Pt) (qa : Int) (qd : ByteArray) (ql : Bool) (h : Rd HK V v X) (hM : Ms V X L) (hV : Below V.heap.size V W) (hVB : V.heap.size ≤ B) (hb : X.length * 80 ≤ 140737488355328) (hi : i < X.length)
    (O : Own TK W B (.slice (some ⟨pb, 0, none⟩) (n + 1) sc) ps1) (hB : B ≤ pb) (hps1 : ps1.length = n + 1) (hn : n + 1 ≤ 1000) (hsm : ∀ o ∈ ps1, Sm o) (hS : Hid (∀ l' : List Pt, l'.Perm ps1 → l'.Pairwise (fun a b => a.a ≤ b.a) → l' = ps)) (hq : ps[n]? = some ⟨qa, qd, ql⟩)
    (H : Blk W bh (Hd.cells xh (.slice (some ⟨pb, 0, none⟩) (n + 1) sc)) 46) (hbh : V.heap.size ≤ bh) (hbB : bh < B) (Qb : Blk W bq (ptOf p).cells 49) (hqB : bq < B) (F : Blk W w.heap.size p.cells 24)
    (R : Blk W (w.heap.size + 1) zeroP.cells 24) (Z : Blk W (w.heap.size + 1 + 1) zeroP.cells 24) (hZ : w.heap.size + 1 + 1 < V.heap.size) (bel : Below w.heap.size w W)
    (E : Hid (∀ S : ByteArray, S.data.toList = fdm.dl [] ps → T = if (ql && ((S.size : Int) == qa + qd.size)) = true then ⟨wo L i, ⟨(hdOf xh p).tos, p.id, false, false, 0, (hdOf xh p).li, p.pr, p.fr, p.to, (hdOf xh p).o, S⟩, true, 0⟩ else ⟨L.set i ⟨hdOf xh p, ps⟩, zeroP, false, 0⟩))
    (z1 z2 z4 z6 z7 z9 z13 z14 z15 z16 z17 z18 z19 z20 z21 z22 z23 z24 z25 z26 z27 z28 z29 z30 z31 z32 z33 z34 z35 z36 z37 z38 z39 z40 z41 z42 z43 z44 z45 z46 z47 z48 z49 z50 z51 z52 z53 z54 z55 z56 z57 z58 z59 z60 z61 z62 z63 z64 z65 z66 z67 z68 z69 z70 z71 z72 z73 z74 z75 z76 z77 z78 z79 z80 z81 z82 z83 z84 z85 z86 z87 z88 z89 z90 z91 z92 z93 z94 z95 z96 z97 z98 z99 z100 z101 z102 z103 z104 z105 z106 z107 z108 z109 z110 z111 z112 z113 z114 z115 z116 z117 z118 z119 z120 z121 z122 z123 z124 z125 z126 z127 z128 z129 z130 z131 z132 z133 z134 z135 z136 z137 z138 z139 z140 z141 z142 z143 z144 z145 z146 z147 z148 z149 z150 z151 z152 z153 z154 z155 z156 z157 z158 z159 z160 z161 z162 z163 z164 z165 z166 z167 z168 z169 z170 z171 z172 z173 z174 z175 z176 z177 z178 z179 z180 z181 z182 z183 z184 z185 z186 z187 z188 z189 z190 z191 z192 z193 z194 z195 z196 z197 z198 z199 z200 z201 z202 z203 z204 z205 z206 z207 z208 z209 z210 z211 z212 z213 z214 z215 z216 z217 z218 z219 z220 z221 z222 z223 z224 z225 z226 z227 z228 z229 z230 z231 z232 z233 z234 z235 z236 z237 z238 z239 z240 z241 z242 z243 z244 z245 z246 z247 z248 z249 z250 z251 z252 z253 z254 z255 z256 z257 z258 z259 z260 z261 z262 z263 z264 z265 : Value) :
    (pts.st Try.f13 16).wp Try.prog (Exit.then ((pts.rest Try.f13 16).wp Try.prog (bodyPost Try.prog Try.f13 (Post w T))) (bodyPost Try.prog Try.f13 (Post w T))) { tmps := #[v, z1, z2, .pointer (some ⟨w.heap.size, 0, none⟩), z4, .pointer (some ⟨w.heap.size + 1, 0, none⟩), z6, z7, .pointer (some ⟨w.heap.size + 1 + 1, 0, none⟩), z9, .int .i64 (i : Int), .pointer (some ⟨bh, 0, none⟩), .pointer (some ⟨bq, 0, none⟩), z13, z14, z15, z16, z17, z18, z19, z20, z21, z22, z23, z24, z25, z26, z27, z28, z29, z30, z31, z32, z33, z34, z35, z36, z37, z38, z39, z40, z41, z42, z43, z44, z45, z46, z47, z48, z49, z50, z51, z52, z53, z54, z55, z56, z57, z58, z59, z60, z61, z62, z63, z64, z65, z66, z67, z68, z69, z70, z71, z72, z73, z74, z75, z76, z77, z78, z79, z80, z81, z82, z83, z84, z85, z86, z87, z88, z89, z90, z91, z92, z93, z94, z95, z96, z97, z98, z99, z100, z101, z102, z103, z104, z105, z106, z107, z108, z109, z110, z111, z112, z113, z114, z115, z116, z117, z118, z119, z120, z121, z122, z123, z124, z125, z126, z127, z128, z129, z130, z131, z132, z133, z134, z135, z136, z137, z138, z139, z140, z141, z142, z143, z144, z145, z146, z147, z148, z149, z150, z151, z152, z153, z154, z155, z156, z157, z158, z159, z160, z161, z162, z163, z164, z165, z166, z167, z168, z169, z170, z171, z172, z173, z174, z175, z176, z177, z178, z179, z180, z181, z182, z183, z184, z185, z186, z187, z188, z189, z190, z191, z192, z193, z194, z195, z196, z197, z198, z199, z200, z201, z202, z203, z204, z205, z206, z207, z208, z209, z210, z211, z212, z213, z214, z215, z216, z217, z218, z219, z220, z221, z222, z223, z224, z225, z226, z227, z228, z229, z230, z231, z232, z233, z234, z235, z236, z237, z238, z239, z240, z241, z242, z243, z244, z245, z246, z247, z248, z249, z250, z251, z252, z253, z254, z255, z256, z257, z258, z259, z260, z261, z262, z263, z264, z265], defers := [] } W := by
  conv in pts.st _ _ => whnf
  conv in pts.rest _ _ => whnf
  have cH := H.cell
  have CS := fd3.sort_any _ ps1 B W O hsm (by omega) (by omega)
  have pbl : pb < W.heap.size := (World.ownsRow.lt O pb rfl).2
  go_wp2_with fail
  refine CS.mono ?_
  rintro e W1 ⟨rfl, l', hpm, hsr, O1, g1⟩
  have hl' := hS.out l' hpm hsr
  subst hl'
  have gB : Below B W W1 := ⟨g1.os, g1.tape, g1.output, g1.size, fun k hk => g1.block k (by omega) (fun e => by have e' : some k = some pb := e; simp only [Option.some.injEq] at e'; omega)⟩
  have hl2 : l'.length = n + 1 := by rw [hpm.length_eq]; exact hps1
  have hsm2 : ∀ o ∈ l', Sm o := fun o ho => hsm o (hpm.subset ho)
  have H1 := H.below gB hbB
  have Q1 := Qb.below gB hqB
  have F1 := F.below gB (by omega)
  have R1 := R.below gB (by omega)
  have Z1 := Z.below gB (by omega)
  have hV1 := hV.trans (gB.mono hVB)
  have b1 := bel.trans (gB.mono (by have := hV1.size; omega))
  clear CS O H Qb F R Z hV bel cH gB g1 hpm hsr hS hsm hps1
  have r1 := frp.Own.rd O1
  have cQ := Q1.cell
  by_cases t0 : 8 * p.st = 0
  case neg =>
    have t1 : ((ptOf p).a == 0) = false := by show (8 * p.st == 0) = false; simpa using t0
    have eh : hdOf xh p = xh := by unfold hdOf; rw [if_neg t0]
    rw [eh] at E
    clear O1 t0 eh
    go_upto_region 36 with fail
    exact pts.part (by assumption) (fdv.from36 w W1 T p v X L i bh xh pb 0 sc n l' qa qd ql (h.below hV1) (hM.below hV1) hb hi r1 hl2 (by omega) hq hsm2 H1 F1 R1 Z1 b1 E _ _ _ _ _ _ _ _ _ _ _ _ _ _ _ _ _ _ _ _ _ _ _ _ _ _ _ _ _ _ _ _ _ _ _ _ _ _ _ _ _ _ _ _ _ _ _ _ _ _ _ _ _ _ _ _ _ _ _ _ _ _ _ _ _ _ _ _ _ _ _ _ _ _ _ _ _ _ _ _ _ _ _ _ _ _ _ _ _ _ _ _ _ _ _ _ _ _ _ _ _ _ _ _ _ _ _ _ _ _ _ _ _ _ _ _ _ _ _ _ _ _ _ _ _ _ _ _ _ _ _ _ _ _ _ _ _ _ _ _ _ _ _ _ _ _ _ _ _ _ _ _ _ _ _ _ _ _ _ _ _ _ _ _ _ _ _ _ _ _ _ _ _ _ _ _ _ _ _ _ _ _ _ _ _ _ _ _ _ _ _ _ _ _ _ _ _ _ _ _ _ _ _ _ _ _ _ _ _ _ _ _ _ _ _ _ _ _ _ _ _ _ _ _ _ _ _ _ _ _ _ _ _ _ _ _ _ _ _ _ _ _ _ _ _ _ _ _ _ _ _ _ _ _ _ _ _ _ _ _)
  have t1 : ((ptOf p).a == 0) = true := by show (8 * p.st == 0) = true; simpa using t0
  have eh : hdOf xh p = { xh with tos := p.tos, li := p.li, o := p.o } := by unfold hdOf; rw [if_pos t0]
  rw [eh] at E
  have cH := H1.cell
  have fH := H1.free
  have cF := F1.cell
  go_upto_region 35 with fail
  clear t0 t1 eh
  go_region
  have H2 : Blk (((W1.setCell ⟨bh, 4, none⟩ (.int .i64 p.tos)).setCell ⟨bh, 5, none⟩ (.int .i64 p.li)).setCell ⟨bh, 6, none⟩ (.string p.o)).drew bh (Hd.cells { xh with tos := p.tos, li := p.li, o := p.o } (.slice (some ⟨pb, 0, none⟩) (n + 1) sc)) 46 := (((H1.setCell 4 (.int .i64 p.tos)).setCell 5 (.int .i64 p.li)).setCell 6 (.string p.o)).drew
  have u2 : But bh W1 (((W1.setCell ⟨bh, 4, none⟩ (.int .i64 p.tos)).setCell ⟨bh, 5, none⟩ (.int .i64 p.li)).setCell ⟨bh, 6, none⟩ (.string p.o)) := But.trans (But.trans (but_setCell _ _ _ _) (but_setCell _ _ _ _)) (but_setCell _ _ _ _)
  have u3 : But bh W1 (((W1.setCell ⟨bh, 4, none⟩ (.int .i64 p.tos)).setCell ⟨bh, 5, none⟩ (.int .i64 p.li)).setCell ⟨bh, 6, none⟩ (.string p.o)).drew := ⟨u2.os, u2.tape, u2.output, u2.size, u2.block⟩
  clear u2
  generalize (((W1.setCell ⟨bh, 4, none⟩ (.int .i64 p.tos)).setCell ⟨bh, 5, none⟩ (.int .i64 p.li)).setCell ⟨bh, 6, none⟩ (.string p.o)).drew = W2 at *
  have hV2 := u3.below hV1 hbh
  have r2 := frp.Own.rd (O1.but u3 (fun e => by have e' : some pb = some bh := e; simp only [Option.some.injEq] at e'; omega))
  have F2 := u3.blk F1 (by omega)
  have R2 := u3.blk R1 (by omega)
  have Z2 := u3.blk Z1 (by omega)
  have b2 := u3.below b1 (by omega)
  clear u3 O1 r1 cQ Q1 cH fH cF H1 F1 R1 Z1 b1
  go_upto_region 36 with fail
  exact pts.part (by assumption) (fdv.from36 w W2 T p v X L i bh { xh with tos := p.tos, li := p.li, o := p.o } pb 0 sc n l' qa qd ql (h.below hV2) (hM.below hV2) hb hi r2 hl2 (by omega) hq hsm2 H2 F2 R2 Z2 b2 E _ _ _ _ _ _ _ _ _ _ _ _ _ _ _ _ _ _ _ _ _ _ _ _ _ _ _ _ _ _ _ _ _ _ _ _ _ _ _ _ _ _ _ _ _ _ _ _ _ _ _ _ _ _ _ _ _ _ _ _ _ _ _ _ _ _ _ _ _ _ _ _ _ _ _ _ _ _ _ _ _ _ _ _ _ _ _ _ _ _ _ _ _ _ _ _ _ _ _ _ _ _ _ _ _ _ _ _ _ _ _ _ _ _ _ _ _ _ _ _ _ _ _ _ _ _ _ _ _ _ _ _ _ _ _ _ _ _ _ _ _ _ _ _ _ _ _ _ _ _ _ _ _ _ _ _ _ _ _ _ _ _ _ _ _ _ _ _ _ _ _ _ _ _ _ _ _ _ _ _ _ _ _ _ _ _ _ _ _ _ _ _ _ _ _ _ _ _ _ _ _ _ _ _ _ _ _ _ _ _ _ _ _ _ _ _ _ _ _ _ _ _ _ _ _ _ _ _ _ _ _ _ _ _ _ _ _ _ _ _ _ _ _ _ _ _ _ _ _ _ _ _ _ _ _ _ _ _ _ _)
end Go.Proofs.Ytlbpapngcgnepaa.fdu
