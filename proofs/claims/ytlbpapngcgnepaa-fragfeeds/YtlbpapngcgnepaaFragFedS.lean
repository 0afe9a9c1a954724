/- custref.Fed, from where it counts the parts on. -/
import Derived.Test.YtlbpapngcgnepaaFragFedT
namespace Go.Proofs.Ytlbpapngcgnepaa.fds
open Go.ChangeShapes Go.WideShapes Go.ChangeAt Go.RowKit Go.BigFrame
open Go.Proofs.Ytlbpapngcgnepaa Go.Proofs.Ytlbpapngcgnepaa.ipb Go.Proofs.Ytlbpapngcgnepaa.boxes Go.Proofs.Ytlbpapngcgnepaa.ipr Go.Proofs.Ytlbpapngcgnepaa.frb Go.Proofs.Ytlbpapngcgnepaa.frp Go.Proofs.Ytlbpapngcgnepaa.pl Go.Proofs.Ytlbpapngcgnepaa.frx Go.Proofs.Ytlbpapngcgnepaa.frh Go.Proofs.Ytlbpapngcgnepaa.frf2 Go.Proofs.Ytlbpapngcgnepaa.frt Go.Proofs.Ytlbpapngcgnepaa.frfe Go.Proofs.Ytlbpapngcgnepaa.fdz Go.Proofs.Ytlbpapngcgnepaa.fdy
open Go.Proofs.Ytlbpapngcgnepaa.rws (Own Knd)

set_option maxRecDepth 20000 in
set_option maxHeartbeats 8000000 in
theorem from30 (w V W : World) (T : Tk) (p : Pk) (v : Value) (X : List Hv) (L : List Hp) (i bh bq : Nat) (xh : Hd) (sa : Option Addr) (m sc : Nat) (ps0 ps : List Pt) (qa : Int) (qd : ByteArray) (ql : Bool) (h : Rd HK V v X) (hM : Ms V X L) (hV : Below V.heap.size V W) (hb : X.length * 80 ≤ 140737488355328) (hi : i < X.length)
    (hx : Rd TK W (.slice sa m sc) ps0) (hm : m ≤ 1000) (hsm : ∀ o ∈ ps0 ++ [ptOf p], Sm o) (hS : Hid (∀ l' : List Pt, l'.Perm (ps0 ++ [ptOf p]) → l'.Pairwise (fun a b => a.a ≤ b.a) → l' = ps)) (hq : ps[m]? = some ⟨qa, qd, ql⟩)
    (H : Blk W bh (Hd.cells xh (.slice sa m sc)) 46) (hbh : V.heap.size ≤ bh) (hne : bq ≠ bh) (Qb : Blk W bq (ptOf p).cells 49) (F : Blk W w.heap.size p.cells 24)
    (R : Blk W (w.heap.size + 1) zeroP.cells 24) (Z : Blk W (w.heap.size + 1 + 1) zeroP.cells 24) (hZ : w.heap.size + 1 + 1 < V.heap.size) (bel : Below w.heap.size w W)
    (E6 : Hid (64 ≤ m → T = ⟨wo L i, zeroP, false, 6⟩)) (E : Hid (m < 64 → ∀ S : ByteArray, S.data.toList = fdm.dl [] ps → T = if (ql && ((S.size : Int) == qa + qd.size)) = true then ⟨wo L i, ⟨(hdOf xh p).tos, p.id, false, false, 0, (hdOf xh p).li, p.pr, p.fr, p.to, (hdOf xh p).o, S⟩, true, 0⟩ else ⟨L.set i ⟨hdOf xh p, ps⟩, zeroP, false, 0⟩))
    (z1 z2 z4 z6 z7 z9 z13 z14 z15 z16 z17 z18 z19 z20 z21 z22 z23 z24 z25 z26 z27 z28 z29 z30 z31 z32 z33 z34 z35 z36 z37 z38 z39 z40 z41 z42 z43 z44 z45 z46 z47 z48 z49 z50 z51 z52 z53 z54 z55 z56 z57 z58 z59 z60 z61 z62 z63 z64 z65 z66 z67 z68 z69 z70 z71 z72 z73 z74 z75 z76 z77 z78 z79 z80 z81 z82 z83 z84 z85 z86 z87 z88 z89 z90 z91 z92 z93 z94 z95 z96 z97 z98 z99 z100 z101 z102 z103 z104 z105 z106 z107 z108 z109 z110 z111 z112 z113 z114 z115 z116 z117 z118 z119 z120 z121 z122 z123 z124 z125 z126 z127 z128 z129 z130 z131 z132 z133 z134 z135 z136 z137 z138 z139 z140 z141 z142 z143 z144 z145 z146 z147 z148 z149 z150 z151 z152 z153 z154 z155 z156 z157 z158 z159 z160 z161 z162 z163 z164 z165 z166 z167 z168 z169 z170 z171 z172 z173 z174 z175 z176 z177 z178 z179 z180 z181 z182 z183 z184 z185 z186 z187 z188 z189 z190 z191 z192 z193 z194 z195 z196 z197 z198 z199 z200 z201 z202 z203 z204 z205 z206 z207 z208 z209 z210 z211 z212 z213 z214 z215 z216 z217 z218 z219 z220 z221 z222 z223 z224 z225 z226 z227 z228 z229 z230 z231 z232 z233 z234 z235 z236 z237 z238 z239 z240 z241 z242 z243 z244 z245 z246 z247 z248 z249 z250 z251 z252 z253 z254 z255 z256 z257 z258 z259 z260 z261 z262 z263 z264 z265 : Value) :
    (pts.st Try.f13 14).wp Try.prog (Exit.then ((pts.rest Try.f13 14).wp Try.prog (bodyPost Try.prog Try.f13 (Post w T))) (bodyPost Try.prog Try.f13 (Post w T))) { tmps := #[v, z1, z2, .pointer (some ⟨w.heap.size, 0, none⟩), z4, .pointer (some ⟨w.heap.size + 1, 0, none⟩), z6, z7, .pointer (some ⟨w.heap.size + 1 + 1, 0, none⟩), z9, .int .i64 (i : Int), .pointer (some ⟨bh, 0, none⟩), .pointer (some ⟨bq, 0, none⟩), z13, z14, z15, z16, z17, z18, z19, z20, z21, z22, z23, z24, z25, z26, z27, z28, z29, z30, z31, z32, z33, z34, z35, z36, z37, z38, z39, z40, z41, z42, z43, z44, z45, z46, z47, z48, z49, z50, z51, z52, z53, z54, z55, z56, z57, z58, z59, z60, z61, z62, z63, z64, z65, z66, z67, z68, z69, z70, z71, z72, z73, z74, z75, z76, z77, z78, z79, z80, z81, z82, z83, z84, z85, z86, z87, z88, z89, z90, z91, z92, z93, z94, z95, z96, z97, z98, z99, z100, z101, z102, z103, z104, z105, z106, z107, z108, z109, z110, z111, z112, z113, z114, z115, z116, z117, z118, z119, z120, z121, z122, z123, z124, z125, z126, z127, z128, z129, z130, z131, z132, z133, z134, z135, z136, z137, z138, z139, z140, z141, z142, z143, z144, z145, z146, z147, z148, z149, z150, z151, z152, z153, z154, z155, z156, z157, z158, z159, z160, z161, z162, z163, z164, z165, z166, z167, z168, z169, z170, z171, z172, z173, z174, z175, z176, z177, z178, z179, z180, z181, z182, z183, z184, z185, z186, z187, z188, z189, z190, z191, z192, z193, z194, z195, z196, z197, z198, z199, z200, z201, z202, z203, z204, z205, z206, z207, z208, z209, z210, z211, z212, z213, z214, z215, z216, z217, z218, z219, z220, z221, z222, z223, z224, z225, z226, z227, z228, z229, z230, z231, z232, z233, z234, z235, z236, z237, z238, z239, z240, z241, z242, z243, z244, z245, z246, z247, z248, z249, z250, z251, z252, z253, z254, z255, z256, z257, z258, z259, z260, z261, z262, z263, z264, z265], defers := [] } W := by
  conv in pts.st _ _ => whnf
  conv in pts.rest _ _ => whnf
  refine fdt.hide fun K hK => ?_
  dsimp only
  have cH := H.cell
  by_cases hk : 64 ≤ m
  · have k1 : (64 : Int) ≤ (m : Int) := by omega
    have e6 := E6.out hk
    have hW := h.below hV
    have MW := hM.below hV
    clear E E6 hS hq
    go_upto_region 31 with fail
    have ne : Nonempty (spc.In (ab.Ab W)) := ⟨⟨_, ab.Ab.refl W⟩⟩
    have cZ : ∀ (x : spc.In (ab.Ab W)) o, x.W.cell? ⟨w.heap.size + 1 + 1, o, none⟩ = zeroP.cells[o]? := fun x o => (Below.cell x.h (p := ⟨w.heap.size + 1 + 1, o, none⟩) Z.lt).trans (Z.cell o)
    refine' lsn.told 5 _ [(2, undef), (4, undef)] [(2, 177), (4, 4)] (fun k v W' => Own HK W' W.heap.size v (X.take i ++ X.drop (i + 1))) (ab.Ab W) (fun W W' => Below W.heap.size W W') (by kernel_rfl) (by simp only [List.take]; exact rfl) (by simp only [List.drop]; exact rfl) (by kernel_rfl) (by kernel_rfl) (ab.Ab.drew W)
      (fun k v W W' hb h => Own.kept h hb) (by simp only [spc.rep, List.lookup, Nat.zero_add, Nat.reduceAdd, Nat.reduceBEq]; exact rfl) ?_
    repeat (go_big_quiet_step (fail))
    refine wpQuiet_nil ⟨?_, ?_, ?_⟩
    · simp only [List.forall_mem_cons, List.not_mem_nil, false_imp_iff, implies_true, and_true]
      refine ⟨?_, ?_⟩ <;> (rintro _ ⟨⟩; rfl)
    · simp only [List.forall_mem_cons, List.not_mem_nil, false_imp_iff, implies_true, and_true]
      refine ⟨?_, ?_⟩
      · rintro _ ⟨⟩ x u hC - -
        refine told.call2 29 _ _ _ _ _ rfl (by intro args w; simp [go_sem]) rfl rfl ((fd1.without_any v X i u (hW.below hC) hi hb).mono ?_)
        rintro e w' ⟨v', rfl, o, hb⟩
        refine ⟨_, rfl, Below.trans hC (hb.mono (Below.size hC)), hb, ?_⟩
        rw [if_pos (by decide)]
        exact o.mono (Below.size hC)
      · rintro _ ⟨⟩ x u hC hS -
        refine fdx.told_assign _ rfl ⟨hC, Below.refl _ _, ?_⟩
        rw [if_pos (by decide)]
        exact hS (2, 177) (by simp) (by decide)
    intro x Wx hC hS
    have own := hS (4, 4) (by simp)
    have Rx := R.below hC R.lt
    have bx := bel.trans (Below.mono hC bel.size)
    have Px := ((MW.below hC).wo i).prd (frp.Own.rd own)
    clear hS ne cZ
    simp only [spc.jn, Act.put, List.setIfInBounds_toArray, List.set_cons_succ, List.set_cons_zero]
    go_wp2_with (refine blk_store _ rfl 24 _ _ rfl (w.heap.size + 1) zeroP.cells rfl rfl _ _ Rx 11 pk_info rfl rfl (pk_one zeroP) ?_)
    intro Wy ky uy
    have by_ := uy.below bx (by omega)
    go_wp2_with fail
    exact blk_ret4 rfl rfl _ _ _ rfl ky _ Try.underlying24 rfl 11 pk_info rfl ⟨_, ret_feed (by rw [e6]) (by rw [e6]) (by rw [e6]), by rw [e6]; exact prd_but Px Rx uy, by_⟩
  have k1 : ¬ (64 : Int) ≤ (m : Int) := by omega
  have E1 : Hid _ := E.out (by omega)
  clear E E6
  go_upto_region 32 with fail
  exact pts.part (by assumption) (fdt.from32 w V W T p v X L i bh bq xh sa m sc ps0 ps qa qd ql h hM hV hb hi hx (by omega) hsm hS hq H hbh hne Qb F R Z hZ bel E1 _ _ _ _ _ _ _ _ _ _ _ _ _ _ _ _ _ _ _ _ _ _ _ _ _ _ _ _ _ _ _ _ _ _ _ _ _ _ _ _ _ _ _ _ _ _ _ _ _ _ _ _ _ _ _ _ _ _ _ _ _ _ _ _ _ _ _ _ _ _ _ _ _ _ _ _ _ _ _ _ _ _ _ _ _ _ _ _ _ _ _ _ _ _ _ _ _ _ _ _ _ _ _ _ _ _ _ _ _ _ _ _ _ _ _ _ _ _ _ _ _ _ _ _ _ _ _ _ _ _ _ _ _ _ _ _ _ _ _ _ _ _ _ _ _ _ _ _ _ _ _ _ _ _ _ _ _ _ _ _ _ _ _ _ _ _ _ _ _ _ _ _ _ _ _ _ _ _ _ _ _ _ _ _ _ _ _ _ _ _ _ _ _ _ _ _ _ _ _ _ _ _ _ _ _ _ _ _ _ _ _ _ _ _ _ _ _ _ _ _ _ _ _ _ _ _ _ _ _ _ _ _ _ _ _ _ _ _ _ _ _ _ _ _ _ _ _ _ _ _ _ _ _ _ _ _ _ _ _)
end Go.Proofs.Ytlbpapngcgnepaa.fds
