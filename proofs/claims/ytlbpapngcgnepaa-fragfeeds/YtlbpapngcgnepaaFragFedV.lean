/- custref.Fed, from where it joins the parts on. -/
import Derived.Test.YtlbpapngcgnepaaFragFedX
import Derived.Test.YtlbpapngcgnepaaFragFedMath
namespace Go.Proofs.Ytlbpapngcgnepaa.fdv
open Go.ChangeShapes Go.WideShapes Go.ChangeAt Go.RowKit Go.BigFrame
open Go.Proofs.Ytlbpapngcgnepaa Go.Proofs.Ytlbpapngcgnepaa.ipb Go.Proofs.Ytlbpapngcgnepaa.boxes Go.Proofs.Ytlbpapngcgnepaa.ipr Go.Proofs.Ytlbpapngcgnepaa.frb Go.Proofs.Ytlbpapngcgnepaa.frp Go.Proofs.Ytlbpapngcgnepaa.pl Go.Proofs.Ytlbpapngcgnepaa.frx Go.Proofs.Ytlbpapngcgnepaa.frh Go.Proofs.Ytlbpapngcgnepaa.frf2 Go.Proofs.Ytlbpapngcgnepaa.frt Go.Proofs.Ytlbpapngcgnepaa.frfe Go.Proofs.Ytlbpapngcgnepaa.fdz Go.Proofs.Ytlbpapngcgnepaa.fdy
open Go.Proofs.Ytlbpapngcgnepaa.rws (Own Knd)

theorem app_list (S d : ByteArray) : (S ++ d).data.toList = S.data.toList ++ d.data.toList := by simp
set_option maxRecDepth 20000 in
set_option maxHeartbeats 4000000 in
theorem from36 (w W : World) (T : Tk) (p : Pk) (v : Value) (X : List Hv) (L : List Hp) (i bh : Nat) (xh : Hd) (pb poff sc n : Nat) (ps : List Pt) (qa : Int) (qd : ByteArray) (ql : Bool) (h : Rd HK W v X) (hM : Ms W X L) (hb : X.length * 80 ≤ 140737488355328) (hi : i < X.length)
    (hx : Rd TK W (.slice (some ⟨pb, poff, none⟩) (n + 1) sc) ps) (hps : ps.length = n + 1) (hn : n ≤ 1000) (hq : ps[n]? = some ⟨qa, qd, ql⟩) (hsm : ∀ o ∈ ps, Sm o)
    (H : Blk W bh (Hd.cells xh (.slice (some ⟨pb, poff, none⟩) (n + 1) sc)) 46) (F : Blk W w.heap.size p.cells 24)
    (R : Blk W (w.heap.size + 1) zeroP.cells 24) (Z : Blk W (w.heap.size + 1 + 1) zeroP.cells 24) (bel : Below w.heap.size w W)
    (E : Hid (∀ S : ByteArray, S.data.toList = fdm.dl [] ps → T = if (ql && ((S.size : Int) == qa + qd.size)) = true then ⟨wo L i, ⟨xh.tos, p.id, false, false, 0, xh.li, p.pr, p.fr, p.to, xh.o, S⟩, true, 0⟩ else ⟨L.set i ⟨xh, ps⟩, zeroP, false, 0⟩))
    (z1 z2 z4 z6 z7 z9 z12 z13 z14 z15 z16 z17 z18 z19 z20 z21 z22 z23 z24 z25 z26 z27 z28 z29 z30 z31 z32 z33 z34 z35 z36 z37 z38 z39 z40 z41 z42 z43 z44 z45 z46 z47 z48 z49 z50 z51 z52 z53 z54 z55 z56 z57 z58 z59 z60 z61 z62 z63 z64 z65 z66 z67 z68 z69 z70 z71 z72 z73 z74 z75 z76 z77 z78 z79 z80 z81 z82 z83 z84 z85 z86 z87 z88 z89 z90 z91 z92 z93 z94 z95 z96 z97 z98 z99 z100 z101 z102 z103 z104 z105 z106 z107 z108 z109 z110 z111 z112 z113 z114 z115 z116 z117 z118 z119 z120 z121 z122 z123 z124 z125 z126 z127 z128 z129 z130 z131 z132 z133 z134 z135 z136 z137 z138 z139 z140 z141 z142 z143 z144 z145 z146 z147 z148 z149 z150 z151 z152 z153 z154 z155 z156 z157 z158 z159 z160 z161 z162 z163 z164 z165 z166 z167 z168 z169 z170 z171 z172 z173 z174 z175 z176 z177 z178 z179 z180 z181 z182 z183 z184 z185 z186 z187 z188 z189 z190 z191 z192 z193 z194 z195 z196 z197 z198 z199 z200 z201 z202 z203 z204 z205 z206 z207 z208 z209 z210 z211 z212 z213 z214 z215 z216 z217 z218 z219 z220 z221 z222 z223 z224 z225 z226 z227 z228 z229 z230 z231 z232 z233 z234 z235 z236 z237 z238 z239 z240 z241 z242 z243 z244 z245 z246 z247 z248 z249 z250 z251 z252 z253 z254 z255 z256 z257 z258 z259 z260 z261 z262 z263 z264 z265 : Value) :
    (pts.st Try.f13 18).wp Try.prog (Exit.then ((pts.rest Try.f13 18).wp Try.prog (bodyPost Try.prog Try.f13 (Post w T))) (bodyPost Try.prog Try.f13 (Post w T))) { tmps := #[v, z1, z2, .pointer (some ⟨w.heap.size, 0, none⟩), z4, .pointer (some ⟨w.heap.size + 1, 0, none⟩), z6, z7, .pointer (some ⟨w.heap.size + 1 + 1, 0, none⟩), z9, .int .i64 (i : Int), .pointer (some ⟨bh, 0, none⟩), z12, z13, z14, z15, z16, z17, z18, z19, z20, z21, z22, z23, z24, z25, z26, z27, z28, z29, z30, z31, z32, z33, z34, z35, z36, z37, z38, z39, z40, z41, z42, z43, z44, z45, z46, z47, z48, z49, z50, z51, z52, z53, z54, z55, z56, z57, z58, z59, z60, z61, z62, z63, z64, z65, z66, z67, z68, z69, z70, z71, z72, z73, z74, z75, z76, z77, z78, z79, z80, z81, z82, z83, z84, z85, z86, z87, z88, z89, z90, z91, z92, z93, z94, z95, z96, z97, z98, z99, z100, z101, z102, z103, z104, z105, z106, z107, z108, z109, z110, z111, z112, z113, z114, z115, z116, z117, z118, z119, z120, z121, z122, z123, z124, z125, z126, z127, z128, z129, z130, z131, z132, z133, z134, z135, z136, z137, z138, z139, z140, z141, z142, z143, z144, z145, z146, z147, z148, z149, z150, z151, z152, z153, z154, z155, z156, z157, z158, z159, z160, z161, z162, z163, z164, z165, z166, z167, z168, z169, z170, z171, z172, z173, z174, z175, z176, z177, z178, z179, z180, z181, z182, z183, z184, z185, z186, z187, z188, z189, z190, z191, z192, z193, z194, z195, z196, z197, z198, z199, z200, z201, z202, z203, z204, z205, z206, z207, z208, z209, z210, z211, z212, z213, z214, z215, z216, z217, z218, z219, z220, z221, z222, z223, z224, z225, z226, z227, z228, z229, z230, z231, z232, z233, z234, z235, z236, z237, z238, z239, z240, z241, z242, z243, z244, z245, z246, z247, z248, z249, z250, z251, z252, z253, z254, z255, z256, z257, z258, z259, z260, z261, z262, z263, z264, z265], defers := [] } W := by
  conv in pts.st _ _ => whnf
  conv in pts.rest _ _ => whnf
  have cH := H.cell
  obtain ⟨_, _, e, hm, hf, hc⟩ := id hx
  obtain ⟨pb', poff', e2, hpb, hpx⟩ := hc (by omega)
  simp only [Value.slice.injEq] at e
  obtain ⟨rfl, -, rfl⟩ := e
  simp only [Option.some.injEq, Addr.mk.injEq, and_true] at e2
  obtain ⟨rfl, rfl⟩ := e2
  have hnc : n + 1 ≤ sc := by have := hf.le; omega
  have HS : Hid (Sm ⟨qa, qd, ql⟩) := hsm _ (List.mem_of_getElem? hq)
  clear hc hf hm
  go_wp2_with fail
  go_loopw [16, 204] (fun s16 s204 wr => ∃ (k : Nat) (S : ByteArray), s16 = .string S ∧ s204 = .int .i64 (k : Int) ∧ k ≤ n + 1 ∧ Hid (S.data.toList = fdm.dl [] (ps.take k)) ∧ Below W.heap.size W wr) (fun _ i _ => n + 1 - (intOf i).toNat)
  case atStart => exact ⟨0, _, rfl, rfl, Nat.zero_le _, (by show _ = _; rfl), Below.refl _ _⟩
  case round =>
    obtain ⟨k, S, rfl, rfl, hk, hS, br⟩ := hrel
    by_cases hlt : k < n + 1
    · obtain ⟨q, hqk⟩ : ∃ q, ps[k]? = some q := ⟨ps[k]'(by omega), List.getElem?_eq_getElem (by omega)⟩
      have hlt' : (k : Int) < ((n + 1 : Nat) : Int) := by omega
      have hx1 : ∀ (j : Nat) y, ps[j]? = some y → ∀ i, i < TK.k → wr.cell? ⟨pb, poff + j * TK.k + i, none⟩ = (TK.enc y)[i]? := fun j y hj i hi => (br.cell (p := ⟨pb, poff + j * TK.k + i, none⟩) hpb).trans (hpx j y hj i hi)
      have hs := fdm.dl_take ps k q hqk
      rw [← hS.out] at hs
      have b4 := br.alloc br.size (.cells q.cells 49)
      have sq := hsm _ (List.mem_of_getElem? hqk)
      obtain ⟨a, d, la⟩ := q
      by_cases ha : a = (S.size : Int)
      · subst ha
        have ha' : ((S.size : Int) == (S.size : Int)) = true := by simp
        have o1 : ¬ 9223372036854775807 < S.size + d.size := by
          have h1 : (S.size : Int) ≤ 1000000 := sq.a1
          have h2 : d.size ≤ 1000000 := sq.d1
          omega
        have hs' : Hid ((S ++ d).data.toList = fdm.dl [] (ps.take (k + 1))) := by
          show _ = _
          rw [hs, app_list, if_pos (by simp)]
        clear hs hS
        go_wp2_with (refine rd_load TK _ rfl _ rfl pb poff ps hx1 k _ rfl rfl _ hqk (Pt.cells ⟨(S.size : Int), d, la⟩) rfl _ Try.underlying49 rfl ?_)
        go_roundw
        case rel => exact ⟨k + 1, _, rfl, by simp, by omega, hs', b4⟩
        case measure => simp [intOf]; omega
      · have ha' : (a == (S.size : Int)) = false := by simpa using ha
        have hs' : Hid (S.data.toList = fdm.dl [] (ps.take (k + 1))) := by
          show _ = _
          rw [hs, if_neg (by intro e; apply ha; simpa using e)]
        clear hs hS
        go_wp2_with (refine rd_load TK _ rfl _ rfl pb poff ps hx1 k _ rfl rfl _ hqk (Pt.cells ⟨a, d, la⟩) rfl _ Try.underlying49 rfl ?_)
        go_roundw
        case rel => exact ⟨k + 1, _, rfl, by simp, by omega, hs', b4⟩
        case measure => simp [intOf]; omega
    · have hlt' : ¬ (k : Int) < ((n + 1 : Nat) : Int) := by omega
      have hS' : S.data.toList = fdm.dl [] ps := by rw [hS.out, List.take_of_length_le (by omega)]
      have E1 := E.out S hS'
      have hsq := HS.out
      clear hS hS' hpx HS E cH hlt
      go_upto_region 43 with fail
      exact pts.part (by assumption) (fdx.from43 w _ T p v X L i bh xh pb poff sc n ps qa qd ql S (h.below br) (hM.below br) hb hi (hx.below br) hps hn hq hsq.1 hsq.2 hsq.3 (H.below br H.lt) (F.below br F.lt) (R.below br R.lt) (Z.below br Z.lt) (bel.trans (br.mono bel.size)) E1 _ _ _ _ _ _ _ _ _ _ _ _ _ _ _ _ _ _ _ _ _ _ _ _ _ _ _ _ _ _ _ _ _ _ _ _ _ _ _ _ _ _ _ _ _ _ _ _ _ _ _ _ _ _ _ _ _ _ _ _ _ _ _ _ _ _ _ _ _ _ _ _ _ _ _ _ _ _ _ _ _ _ _ _ _ _ _ _ _ _ _ _ _ _ _ _ _ _ _ _ _ _ _ _ _ _ _ _ _ _ _ _ _ _ _ _ _ _ _ _ _ _ _ _ _ _ _ _ _ _ _ _ _ _ _ _ _ _ _ _ _ _ _ _ _ _ _ _ _ _ _ _ _ _ _ _ _ _ _ _ _ _ _ _ _ _ _ _ _ _ _ _ _ _ _ _ _ _ _ _ _ _ _ _ _ _ _ _ _ _ _ _ _ _ _ _ _ _ _ _ _ _ _ _ _ _ _ _ _ _ _ _ _ _ _ _ _ _ _ _ _ _ _ _ _ _ _ _ _ _ _ _ _ _ _ _ _ _ _ _ _ _ _ _ _ _ _ _ _ _ _ _ _ _ _ _ _ _ _)
end Go.Proofs.Ytlbpapngcgnepaa.fdv
