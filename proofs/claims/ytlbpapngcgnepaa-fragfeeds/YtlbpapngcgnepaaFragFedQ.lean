/- custref.Fed, from where it has its heap on. -/
import Derived.Test.YtlbpapngcgnepaaFragFedR
namespace Go.Proofs.Ytlbpapngcgnepaa.fdq
open Go.ChangeShapes Go.WideShapes Go.ChangeAt Go.RowKit Go.BigFrame
open Go.Proofs.Ytlbpapngcgnepaa Go.Proofs.Ytlbpapngcgnepaa.ipb Go.Proofs.Ytlbpapngcgnepaa.boxes Go.Proofs.Ytlbpapngcgnepaa.ipr Go.Proofs.Ytlbpapngcgnepaa.frb Go.Proofs.Ytlbpapngcgnepaa.frp Go.Proofs.Ytlbpapngcgnepaa.pl Go.Proofs.Ytlbpapngcgnepaa.frx Go.Proofs.Ytlbpapngcgnepaa.frh Go.Proofs.Ytlbpapngcgnepaa.frf2 Go.Proofs.Ytlbpapngcgnepaa.frt Go.Proofs.Ytlbpapngcgnepaa.frfe Go.Proofs.Ytlbpapngcgnepaa.fdz Go.Proofs.Ytlbpapngcgnepaa.fdy Go.Proofs.Ytlbpapngcgnepaa.frha
open Go.Proofs.Ytlbpapngcgnepaa.rws (Own Knd)

set_option maxRecDepth 20000 in
set_option maxHeartbeats 8000000 in
theorem from19 (w V : World) (T : Tk) (p : Pk) (g goff n cap : Nat) (X : List Hv) (L : List Hp) (i : Nat) (xh : Hd) (sa : Option Addr) (m sc : Nat) (ps0 ps : List Pt) (qa : Int) (qd : ByteArray) (ql : Bool) (h : Rd HK V (.slice (some ⟨g, goff, none⟩) n cap) X) (hM : Ms V X L) (hXn : X.length = n) (hn : n ≤ 1000) (hb : X.length * 80 ≤ 140737488355328) (hi : i < X.length) (hxi : X[i]? = some ⟨xh, sa, m, sc⟩)
    (hx : Rd TK V (.slice sa m sc) ps0) (hm : m ≤ 1000) (hsm : ∀ o ∈ ps0 ++ [ptOf p], Sm o) (hS : Hid (ps0.any (cl (ptOf p)) = false → ∀ l' : List Pt, l'.Perm (ps0 ++ [ptOf p]) → l'.Pairwise (fun a b => a.a ≤ b.a) → l' = ps)) (hq : ps[m]? = some ⟨qa, qd, ql⟩)
    (F : Blk V w.heap.size p.cells 24) (R : Blk V (w.heap.size + 1) zeroP.cells 24) (Z : Blk V (w.heap.size + 1 + 1) zeroP.cells 24) (bel : Below w.heap.size w V)
    (E0 : Hid (ps0.any (ptb (ptOf p)) = true → T = ⟨L, zeroP, false, 0⟩)) (E8 : Hid (ps0.any (ptb (ptOf p)) = false → ps0.any (cl (ptOf p)) = true → T = ⟨wo L i, zeroP, false, 8⟩)) (E6 : Hid (ps0.any (ptb (ptOf p)) = false → ps0.any (cl (ptOf p)) = false → 64 ≤ m → T = ⟨wo L i, zeroP, false, 6⟩)) (E : Hid (ps0.any (ptb (ptOf p)) = false → ps0.any (cl (ptOf p)) = false → m < 64 → ∀ S : ByteArray, S.data.toList = fdm.dl [] ps → T = if (ql && ((S.size : Int) == qa + qd.size)) = true then ⟨wo L i, ⟨(hdOf xh p).tos, p.id, false, false, 0, (hdOf xh p).li, p.pr, p.fr, p.to, (hdOf xh p).o, S⟩, true, 0⟩ else ⟨L.set i ⟨hdOf xh p, ps⟩, zeroP, false, 0⟩))
    (z1 z2 z4 z6 z7 z9 z11 z12 z13 z14 z15 z16 z17 z18 z19 z20 z21 z22 z23 z24 z25 z26 z27 z28 z29 z30 z31 z32 z33 z34 z35 z36 z37 z38 z39 z40 z41 z42 z43 z44 z45 z46 z47 z48 z49 z50 z51 z52 z53 z54 z55 z56 z57 z58 z59 z60 z61 z62 z63 z64 z65 z66 z67 z68 z69 z70 z71 z72 z73 z74 z75 z76 z77 z78 z79 z80 z81 z82 z83 z84 z85 z86 z87 z88 z89 z90 z91 z92 z93 z94 z95 z96 z97 z98 z99 z100 z101 z102 z103 z104 z105 z106 z107 z108 z109 z110 z111 z112 z113 z114 z115 z116 z117 z118 z119 z120 z121 z122 z123 z124 z125 z126 z127 z128 z129 z130 z131 z132 z133 z134 z135 z136 z137 z138 z139 z140 z141 z142 z143 z144 z145 z146 z147 z148 z149 z150 z151 z152 z153 z154 z155 z156 z157 z158 z159 z160 z161 z162 z163 z164 z165 z166 z167 z168 z169 z170 z171 z172 z173 z174 z175 z176 z177 z178 z179 z180 z181 z182 z183 z184 z185 z186 z187 z188 z189 z190 z191 z192 z193 z194 z195 z196 z197 z198 z199 z200 z201 z202 z203 z204 z205 z206 z207 z208 z209 z210 z211 z212 z213 z214 z215 z216 z217 z218 z219 z220 z221 z222 z223 z224 z225 z226 z227 z228 z229 z230 z231 z232 z233 z234 z235 z236 z237 z238 z239 z240 z241 z242 z243 z244 z245 z246 z247 z248 z249 z250 z251 z252 z253 z254 z255 z256 z257 z258 z259 z260 z261 z262 z263 z264 z265 : Value) :
    (pts.st Try.f13 10).wp Try.prog (Exit.then ((pts.rest Try.f13 10).wp Try.prog (bodyPost Try.prog Try.f13 (Post w T))) (bodyPost Try.prog Try.f13 (Post w T))) { tmps := #[.slice (some ⟨g, goff, none⟩) n cap, z1, z2, .pointer (some ⟨w.heap.size, 0, none⟩), z4, .pointer (some ⟨w.heap.size + 1, 0, none⟩), z6, z7, .pointer (some ⟨w.heap.size + 1 + 1, 0, none⟩), z9, .int .i64 (i : Int), z11, z12, z13, z14, z15, z16, z17, z18, z19, z20, z21, z22, z23, z24, z25, z26, z27, z28, z29, z30, z31, z32, z33, z34, z35, z36, z37, z38, z39, z40, z41, z42, z43, z44, z45, z46, z47, z48, z49, z50, z51, z52, z53, z54, z55, z56, z57, z58, z59, z60, z61, z62, z63, z64, z65, z66, z67, z68, z69, z70, z71, z72, z73, z74, z75, z76, z77, z78, z79, z80, z81, z82, z83, z84, z85, z86, z87, z88, z89, z90, z91, z92, z93, z94, z95, z96, z97, z98, z99, z100, z101, z102, z103, z104, z105, z106, z107, z108, z109, z110, z111, z112, z113, z114, z115, z116, z117, z118, z119, z120, z121, z122, z123, z124, z125, z126, z127, z128, z129, z130, z131, z132, z133, z134, z135, z136, z137, z138, z139, z140, z141, z142, z143, z144, z145, z146, z147, z148, z149, z150, z151, z152, z153, z154, z155, z156, z157, z158, z159, z160, z161, z162, z163, z164, z165, z166, z167, z168, z169, z170, z171, z172, z173, z174, z175, z176, z177, z178, z179, z180, z181, z182, z183, z184, z185, z186, z187, z188, z189, z190, z191, z192, z193, z194, z195, z196, z197, z198, z199, z200, z201, z202, z203, z204, z205, z206, z207, z208, z209, z210, z211, z212, z213, z214, z215, z216, z217, z218, z219, z220, z221, z222, z223, z224, z225, z226, z227, z228, z229, z230, z231, z232, z233, z234, z235, z236, z237, z238, z239, z240, z241, z242, z243, z244, z245, z246, z247, z248, z249, z250, z251, z252, z253, z254, z255, z256, z257, z258, z259, z260, z261, z262, z263, z264, z265], defers := [] } V := by
  conv in pts.st _ _ => whnf
  conv in pts.rest _ _ => whnf
  have cF := F.cell
  have sq := hsm (ptOf p) (by simp)
  have s0 : 0 ≤ 8 * p.st := sq.a0
  have s1 : 8 * p.st ≤ 1000000 := sq.a1
  have i0 : (i : Int) < (n : Int) := by omega
  have hnc : n ≤ cap := by
    obtain ⟨_, _, e, _, hf, _⟩ := id h
    simp only [Value.slice.injEq] at e
    obtain ⟨-, -, rfl⟩ := e
    have := hf.le; omega
  have hpx : ∀ (j : Nat) y, X[j]? = some y → ∀ i, i < HK.k → V.cell? ⟨g, goff + j * HK.k + i, none⟩ = (HK.enc y)[i]? := by
    obtain ⟨_, _, e, _, _, hc⟩ := id h
    simp only [Value.slice.injEq] at e
    obtain ⟨rfl, -, -⟩ := e
    obtain ⟨b', o', e2, _, hp⟩ := hc (by omega)
    simp only [Option.some.injEq, Addr.mk.injEq, and_true] at e2
    obtain ⟨rfl, rfl⟩ := e2
    exact hp
  have b1 := (Below.refl V.heap.size V).alloc (Nat.le_refl _) (.cells (Hd.cells xh (.slice sa m sc)) 46)
  have b2 := b1.alloc b1.size (.cells (ptOf p).cells 49)
  have H2 : Blk ((V.alloc (.cells (Hd.cells xh (.slice sa m sc)) 46)).alloc (.cells (ptOf p).cells 49)) V.heap.size (Hd.cells xh (.slice sa m sc)) 46 := (Blk.new _ _ _).alloc _
  have Q2 : Blk ((V.alloc (.cells (Hd.cells xh (.slice sa m sc)) 46)).alloc (.cells (ptOf p).cells 49)) (V.heap.size + 1) (ptOf p).cells 49 := Blk.newAt _ _ _ (by simp)
  have cF1 := (F.alloc (.cells (Hd.cells xh (.slice sa m sc)) 46)).cell
  go_upto_region 20 with (refine rd_load HK _ rfl _ rfl g goff X hpx i _ rfl (by first | rfl | simp) _ hxi (Hd.cells xh (.slice sa m sc)) rfl _ Try.underlying46 rfl ?_)
  go_upto_region 21 with fail
  rename_i K1 hK1 K2 hK2
  have HK : Hid _ := hK1
  clear hK1 cF cF1 hpx
  have hx2 := hx.below b2
  have h2 := h.below b2
  have M2 := hM.below b2
  have F2 := F.below b2 F.lt
  have R2 := R.below b2 R.lt
  have Z2 := Z.below b2 Z.lt
  have bl2 := bel.trans (b2.mono bel.size)
  have CH := fun u hu => has_any (.slice sa m sc) ps0 (ptOf p) u hu
  change Code.wp _ _ _ _ ((V.alloc (.cells (Hd.cells xh (.slice sa m sc)) 46)).alloc (.cells (ptOf p).cells 49))
  generalize (V.alloc (.cells (Hd.cells xh (.slice sa m sc)) 46)).alloc (.cells (ptOf p).cells 49) = Wn at *
  have cH := H2.cell
  go_wp2_with (refine blk_load _ rfl 49 _ rfl (V.heap.size + 1) rfl _ _ Q2 _ Try.underlying49 rfl 3 pt_info rfl ?_)
  refine (CH _ hx2).mono ?_
  rintro e W3 ⟨rfl, c3⟩
  have b3 := b2.trans (c3.mono b2.size)
  have hx3 := hx2.below c3
  have h3 := h2.below c3
  have M3 := M2.below c3
  have H3 := H2.below c3 H2.lt
  have Q3 := Q2.below c3 Q2.lt
  have F3 := F2.below c3 F2.lt
  have R3 := R2.below c3 R2.lt
  have Z3 := Z2.below c3 Z2.lt
  have bl3 := bl2.trans (c3.mono bl2.size)
  clear CH cH c3 hx2 h2 M2 H2 Q2 F2 R2 Z2 bl2 b2 b1
  cases hp : ps0.any (ptb (ptOf p)) with
  | true =>
    have e0 : Hid (T = ⟨L, zeroP, false, 0⟩) := E0.out hp
    have P3 := M3.prd h3
    clear E0 E8 E6 E hS hp HK
    go_upto_region 22 with fail
    have ne := ab.ne W3
    have cc := ab.cells Z3
    refine lsn.region 3 _ (ab.Ab W3) (by kernel_rfl) (by simp only [List.take]; exact rfl) (by simp only [List.drop]; exact rfl) (by kernel_rfl) (by kernel_rfl) (ab.Ab.drew _) ?_
    repeat (go_big_quiet_step (fail))
    refine wpQuiet_nil ?_
    intro _ hx
    obtain ⟨x, rfl⟩ := hx
    obtain ⟨Wx, Kx⟩ := x
    have Rx : Blk Wx (w.heap.size + 1) zeroP.cells 24 := R3.below Kx R3.lt
    have bx : Below w.heap.size w Wx := bl3.trans (Kx.mono bl3.size)
    clear ne cc
    go_wp2_with (refine blk_store _ rfl 24 _ _ rfl (w.heap.size + 1) zeroP.cells rfl rfl _ _ Rx 11 pk_info rfl rfl (pk_one zeroP) ?_)
    intro Wy ky uy
    have by_ := uy.below bx (by omega)
    go_wp2_with fail
    exact blk_ret4 rfl rfl _ _ _ rfl ky _ Try.underlying24 rfl 11 pk_info rfl ⟨_, ret_feed (by rw [e0.out]) (by rw [e0.out]) (by rw [e0.out]), by rw [e0.out]; exact prd_but (P3.below Kx) Rx uy, by_⟩
  | false =>
    have E8' : Hid _ := E8.out hp
    have E6' : Hid _ := E6.out hp
    have E' : Hid _ := E.out hp
    clear E0 E8 E6 E hp
    go_wp2_with fail
    exact HK.out _ _ (wp_seq (fdr.from23 w V W3 T p _ X L i V.heap.size (V.heap.size + 1) xh sa m sc ps0 ps qa qd ql h hM b3 hb hi hx3 hm hsm hS hq H3 (Nat.le_refl _) (by omega) Q3 F3 R3 Z3 Z.lt bl3 E8' E6' E' _ _ _ _ _ _ _ _ _ _ _ _ _ _ _ _ _ _ _ _ _ _ _ _ _ _ _ _ _ _ _ _ _ _ _ _ _ _ _ _ _ _ _ _ _ _ _ _ _ _ _ _ _ _ _ _ _ _ _ _ _ _ _ _ _ _ _ _ _ _ _ _ _ _ _ _ _ _ _ _ _ _ _ _ _ _ _ _ _ _ _ _ _ _ _ _ _ _ _ _ _ _ _ _ _ _ _ _ _ _ _ _ _ _ _ _ _ _ _ _ _ _ _ _ _ _ _ _ _ _ _ _ _ _ _ _ _ _ _ _ _ _ _ _ _ _ _ _ _ _ _ _ _ _ _ _ _ _ _ _ _ _ _ _ _ _ _ _ _ _ _ _ _ _ _ _ _ _ _ _ _ _ _ _ _ _ _ _ _ _ _ _ _ _ _ _ _ _ _ _ _ _ _ _ _ _ _ _ _ _ _ _ _ _ _ _ _ _ _ _ _ _ _ _ _ _ _ _ _ _ _ _ _ _ _ _ _ _ _ _ _ _ _ _ _ _ _ _ _ _ _ _ _ _ _ _ _ _ _))
end Go.Proofs.Ytlbpapngcgnepaa.fdq
