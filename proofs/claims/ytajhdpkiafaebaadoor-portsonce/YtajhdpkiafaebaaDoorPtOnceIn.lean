/- The walk through custkeep.PortsOnce. -/
import Derived.Test.YtajhdpkiafaebaaDoorPtLives
import Derived.Test.YtajhdpkiafaebaaDoorPtEnd
import Derived.Test.YtajhdpkiafaebaaDoorPtRef
import Derived.Test.YtajhdpkiafaebaaDoorPtOnceMath
import Derived.Deep.CutBlock
namespace Go.Proofs.YtajhdpkiafaebaaDoor.poi
open Go.ChangeShapes Go.WideShapes Go.ChangeAt Go.RowKit Go.BigFrame Go.Maps
open Go.Proofs.YtajhdpkiafaebaaDoor Go.Proofs.YtajhdpkiafaebaaDoor.pm Go.Proofs.YtajhdpkiafaebaaDoor.pp Go.Proofs.YtajhdpkiafaebaaDoor.pt Go.Proofs.YtajhdpkiafaebaaDoor.pt1 Go.Proofs.YtajhdpkiafaebaaDoor.pa Go.Proofs.YtajhdpkiafaebaaDoor.ptr Go.Proofs.YtajhdpkiafaebaaDoor.pom Go.Proofs.YtajhdpkiafaebaaDoor.boxes Go.Proofs.YtajhdpkiafaebaaDoor.rwr
open Go.Proofs.YtajhdpkiafaebaaDoor.rws (Knd Own)

abbrev KT : TypeId := 3
abbrev MT : TypeId := 37
theorem law : Keyed Tryd.prog KT := int_keyed Tryd.underlying3
theorem zeroE (w : World) : (zeroValue 3).run Tryd.prog w = .ok (.int .i64 0) w := by kernel_rfl
theorem key_of {r : Int} (h : -9223372036854775808 ≤ r ∧ r ≤ 9223372036854775807) : keyOf Tryd.prog KT (.int .i64 r) = some (ky r) := keyOf_int_mk Tryd.underlying3 (by simp [Lit.wf, IntKind.min, IntKind.max, IntKind.signed, IntKind.bits]; omega)
noncomputable abbrev PE : Value → Option (DataW Unit × List MemPlace) := plainElem Tryd.prog 3
theorem map_below {w w' : World} {b n : Nat} {D : DataW Unit} (h : w.ownsMap Tryd.prog KT PE b n D) (hb : Below w.heap.size w w') : w'.ownsMap Tryd.prog KT PE b n D :=
  h.kept (row := none) ⟨hb.os, hb.tape, hb.output, hb.size, fun k hk _ => hb.block k hk⟩ (by simp)
theorem map_but {w w' : World} {b c n : Nat} {D : DataW Unit} (h : w.ownsMap Tryd.prog KT PE b n D) (hb : But c w w') (hne : b ≠ c) : w'.ownsMap Tryd.prog KT PE b n D :=
  h.kept (row := some c) ⟨hb.os, hb.tape, hb.output, by rw [hb.size]; exact Nat.le_refl _, fun k _ hk => hb.block k (fun e => hk (by rw [e]))⟩ (by simpa using hne)
theorem blk_grown {w w' : World} {r : Option Nat} {b : Nat} {F : Array Value} {t : TypeId} (h : w.grownBy w' r) (k : Blk w b F t) (hb : r ≠ some b) : Blk w' b F t := (h.block b k.lt (fun e => hb e.symm)).trans k
set_option maxRecDepth 20000 in
set_option maxHeartbeats 20000000 in
theorem walk (b : Int) (t : Nat) (v : Value) (l : List Int) (ht : t < 18446744073709551616) (w : World) (hT : Tb w) (hr : Rd NK w v l) (hl : ∀ k ∈ l, -9223372036854775808 ≤ k ∧ k ≤ 9223372036854775807) :
    Calls Tryd.prog 4 #[.agg (PC b t), v] w fun e w' => e = .returned (.bool true) ∧ Below w.heap.size w w' := by
  have F0 := Blk.new w (PC b t) 24
  have b0 := (Below.refl w.heap.size w).alloc (Nat.le_refl _) (.cells (PC b t) 24)
  have c0 := F0.cell
  have CF := fun u => plt.free_any b t ht u
  have hnm : l.length ≤ 9223372036854775807 := by
    obtain ⟨_, _, _, hm, _⟩ := hr
    unfold maxLen at hm; omega
  obtain ⟨sa, sc, rfl⟩ := hr.form
  have ck := fun h => num_cells hr h
  have HK : Hid (∀ j, j < l.length → ∃ k, l[j]? = some k ∧ -9223372036854775808 ≤ k ∧ k ≤ 9223372036854775807) := fun j hj => ⟨_, List.getElem?_eq_getElem hj, hl _ (List.getElem_mem hj)⟩
  clear hr hl
  generalize l.length = m at *
  by_cases hb : perr b = 0
  · have hfn : fn b t = (nf t : Int) := by unfold fn; rw [if_pos hb]
    have hb3 := (perr_cases b).resolve_right (by rw [hb]; rintro ⟨h, _⟩; cases h)
    obtain ⟨_, hb0, hb1, hb2⟩ := hb3
    have HB : Hid (perr b = 0) := hb
    have hN := nf_le t
    rw [hfn, hb] at CF
    have HS0 : Hid (Sn b t t (.map []) 0) := sn_begin b ht
    have HN : Hid (∀ (u i : Nat) (D : DataW Unit), Sn b t u D i → i < nf t → u ≠ 18446744073709551615) := fun u i D h hi => sn_room h hi
    have HF : Hid (∀ (u i : Nat) (D : DataW Unit), Sn b t u D i → i = nf t → u = 18446744073709551615) := fun u i D h hi => sn_full h hi
    clear hfn hb
    generalize nf t = N at *
    go_enter Tryd.func4, Tryd.ntmps4
    go_wp2_with fail
    refine (CF _).mono ?_
    rintro e w1 ⟨rfl, z⟩
    have b1 := b0.trans (z.mono b0.size)
    have F1 := F0.below z F0.lt
    clear c0 F0 b0 z CF
    go_wp2_with fail
    refine (plv.lives _ (hT.below b1)).mono ?_
    rintro e w2 ⟨rfl, z⟩
    have b2 := b1.trans (z.mono b1.size)
    have F2 := F1.below z F1.lt
    have c2 := F2.cell
    clear F1 b1 z
    have dA := (Below.refl w2.heap.size w2).alloc (Nat.le_refl _) (.cells Z2 24)
    go_upto_region 5 with (refine blk_store _ rfl 24 _ _ rfl w2.heap.size _ rfl rfl _ _ (Blk.new w2 Z2 24) 2 pt_info rfl rfl (pt_one _ _) ?_; intro w3 X3 p3)
    have l3 := p3.below dA (Nat.le_refl _)
    have b3 := b2.trans (l3.mono b2.size)
    have F3 := F2.below l3 F2.lt
    have hXP : w.heap.size < w2.heap.size := F2.lt
    clear dA p3 l3 c2 F2 b2
    generalize w2.heap.size = X at *
    have F4 := F3.alloc (.map #[] 0)
    have X4 := X3.alloc (.map #[] 0)
    have b4 := b3.alloc b3.size (.map #[] 0)
    have m4 : (w3.alloc (.map #[] 0)).ownsMap Tryd.prog KT PE w3.heap.size 0 (.map []) := World.ownsMap_made _ _ _ _
    have hmm := @run_makeMap Tryd.prog
    have hMX : w3.heap.size ≠ X := by have := X3.lt; omega
    have hMP : w3.heap.size ≠ w.heap.size := by have := F3.lt; omega
    have hMw : w.heap.size ≤ w3.heap.size := b3.size
    clear F3 X3 b3
    go_upto_region 6 with fail
    generalize w3.alloc (.map #[] 0) = W4 at *
    generalize w3.heap.size = Bm at *
    go_wp2_with fail
    go_loopw [35] (fun s35 wr => ∃ (i u : Nat) (D : DataW Unit), s35 = .int .i64 (i : Int) ∧ i ≤ N ∧ Blk wr w.heap.size (PC b u) 24 ∧ Blk wr X (PC b t) 24 ∧ wr.ownsMap Tryd.prog KT PE Bm i D ∧ Hid (Sn b t u D i) ∧ Below w.heap.size w wr) (fun i _ => N - (intOf i).toNat)
    case atStart => exact ⟨0, t, .map [], rfl, Nat.zero_le _, F4, X4, m4, HS0, b4⟩
    case round =>
      clear F4 X4 m4 HS0 b4
      obtain ⟨i, u, D, rfl, hi, F, XB, MM, HS, bel⟩ := hrel
      by_cases hlt : i < N
      · have hlt' : (i : Int) < (N : Int) := by omega
        go_upto_if 44 with fail
        go_cut [10] (fun s10 wx => ∃ q : Int, s10 = .int .i64 q ∧ 0 ≤ q ∧ q ≤ 65535 ∧ wx = wr)
        case first =>
          clear HF HN
          by_cases hm : i < m
          · have hm' : (i : Int) < (m : Int) := by omega
            obtain ⟨y, hy, hy0, hy1⟩ := HK.out i hm
            obtain ⟨nb, no, rfl, hnb, hnx⟩ := ck (by omega)
            have cy := (bel.cell (p := ⟨nb, no + i, none⟩) hnb).trans (hnx i y hy)
            go_wp2_with fail
            all_goals go_meet
            all_goals exact ⟨_, rfl, by omega, by omega, rfl⟩
          · have hm' : ¬ (i : Int) < (m : Int) := by omega
            go_wp2_with fail
            go_meet
            case rel => exact ⟨_, rfl, by go_num, by go_num, rfl⟩
        case rest =>
          obtain ⟨q, rfl, hq0, hq1, hwc⟩ := hcut
          subst hwc
          have HO : Hid (u ≠ 18446744073709551615) := HN.out u i D HS.out hlt
          have hle := let_ok HB.out hq0 hq1 HO.out
          obtain ⟨z1, z2, z3⟩ := le_ones hle
          have hlk := le_lk HS.out.lt hle
          have CL := plt.let_any b u q HS.out.lt wc (hT.below bel)
          rw [hle, z1, z2, z3] at CL
          have hFr := hlk.free
          have hk := hFr.1
          have HFr : Hid (pm.F u (lkw b u q)) := hFr
          clear z1 z2 z3 hle hlk HO HN HF hFr
          generalize lkw b u q = k at *
          have hDt := MM.tidy law
          have HKey : Hid (keyOf Tryd.prog KT (.int .i64 (b + (k : Int))) = some (ky (b + (k : Int)))) := key_of (by omega)
          have HNew : Hid (∀ c : Int, D.atKey (ky (b + (k : Int))) (el 0) = el c → c = 0) := fun c hc => sn_new HS.out HFr.out hc
          have HOnce : Hid (∀ c : Int, (D.put (ky (b + (k : Int))) (el 1)).atKey (ky (b + (k : Int))) (el 0) = el c → c = 1) := fun c hc => sn_once hDt hc
          have HS2 : Hid (Sn b t (st u k) (D.put (ky (b + (k : Int))) (el 1)) (i + 1)) := sn_step HS.out HFr.out hDt
          have HWf : Hid ((Lit.int .i64 1).wf = true) := by show _ = _; decide
          clear HS HFr hDt
          generalize st u k = u2 at *
          have cF := F.cell
          go_wp2_with fail
          refine CL.mono ?_
          rintro e w5 ⟨rfl, z⟩
          have F5 := F.below z F.lt
          have X5 := XB.below z XB.lt
          have M5 := map_below MM z
          have b5 := bel.trans (z.mono bel.size)
          clear CL cF F XB MM bel z
          go_upto_region 14 with (refine blk_store _ rfl 24 _ _ rfl w.heap.size _ rfl rfl _ _ F5 2 pt_info rfl rfl (pt_one _ _) ?_; intro w6 F6 p6)
          have X6 := p6.blk X5 (by omega)
          have M6 := map_but M5 p6 hMP
          have b6 := p6.below b5 (Nat.le_refl _)
          have c6 := F6.cell
          have hw1 : IntKind.i64.wrap (b + 63) = b + 63 := by rw [IntKind.wrap_i64]; omega
          clear F5 X5 M5 b5 p6
          have hkc : (k : Int) < 64 := by omega
          go_upto_region 17 with (first | (at_lookup; refine wpList_lookup_own_int _ rfl _ _ MT rfl KT 3 .i64 law Tryd.underlying37 Tryd.underlying3 (zeroE _) Bm i D rfl M6 _ _ rfl HKey.out ?_; intro c hat hwc; obtain rfl := HNew.out c hat; clear hat hwc) | (at_mapUpdate; refine wpList_mapUpdate_own _ rfl _ _ _ MT rfl KT 3 law Tryd.underlying37 _ Bm i D rfl M6 (by unfold maxLen; omega) _ _ _ rfl rfl HKey.out (el 1) [] (plainElem_int Tryd.underlying3 HWf.out) ?_; intro w9 M9 g9))
          have F9 := blk_grown g9 F6 (by simpa using hMP)
          have X9 := blk_grown g9 X6 (by simpa using hMX)
          have b9 := b6.grown g9 b6.size (fun q hq => by cases hq; exact hMw)
          clear F6 X6 M6 b6 c6 g9 HNew HWf
          go_wp2_with (at_lookup; refine wpList_lookup_own_int _ rfl _ _ MT rfl KT 3 .i64 law Tryd.underlying37 Tryd.underlying3 (zeroE _) Bm (i + 1) (D.put (ky (b + (k : Int))) (el 1)) rfl M9 _ _ rfl HKey.out ?_; intro c hat hwc; obtain rfl := HOnce.out c hat; clear hat hwc)
          go_roundw
          case rel => exact ⟨i + 1, u2, _, by go_num, by omega, F9, X9, M9, HS2, b9⟩
          case measure => simp [intOf]; omega
      · have hlt' : ¬ (i : Int) < (N : Int) := by omega
        have e : i = N := by omega
        have hu : u = 18446744073709551615 := HF.out u i D HS.out e
        obtain ⟨V, hV⟩ : ∃ V, V = wr := ⟨_, rfl⟩
        subst hV
        have CL := plt.let_any b u 80 HS.out.lt V (hT.below bel)
        subst hu
        have hle := let_no (b := b) HB.out (w := 80) (by decide) (by decide)
        obtain ⟨z1, z2, z3⟩ := le_zeros (b := b) (t := 18446744073709551615) (w := 80) (by rw [hle]; decide)
        rw [hle, z1, z2, z3] at CL
        have HSeen : Hid (∀ (j : Nat) (c : Int), j < 64 → D.atKey (ky (b + (j : Int))) (el 0) = el c → c = if t.testBit j = true then 0 else 1) := fun j c hj hc => sn_seen HS.out hj hc
        have cF := F.cell
        clear hle z1 z2 z3 HF HN HK ck HS e hlt
        go_wp2_with fail
        refine CL.mono ?_
        rintro e w5 ⟨rfl, z⟩
        have F5 := F.below z F.lt
        have X5 := XB.below z XB.lt
        have M5 := map_below MM z
        have b5 := bel.trans (z.mono bel.size)
        clear CL cF F XB MM bel z
        have dA := (Below.refl w5.heap.size w5).alloc (Nat.le_refl _) (.cells Z2 24)
        go_upto_region 21 with (refine blk_store _ rfl 24 _ _ rfl w5.heap.size _ rfl rfl _ _ (Blk.new w5 Z2 24) 2 pt_info rfl rfl (pt_one _ _) ?_; intro w6 Y6 p6)
        have l6 := p6.below dA (Nat.le_refl _)
        have b6 := b5.trans (l6.mono b5.size)
        have F6 := F5.below l6 F5.lt
        have X6 := X5.below l6 X5.lt
        have M6 := map_below M5 l6
        have cX := X6.cell
        clear dA p6 l6 F5 X5 M5 b5 Y6
        go_wp2_with fail
        go_loopw [15] (fun s15 wr => ∃ (j u : Nat), s15 = .int .i64 (b + (j : Int)) ∧ j ≤ 64 ∧ Blk wr w.heap.size (PC b u) 24 ∧ Blk wr X (PC b t) 24 ∧ wr.ownsMap Tryd.prog KT PE Bm i D ∧ Hid (Dn t j u) ∧ Below w.heap.size w wr) (fun s _ => (b + 64 - intOf s).toNat)
        case atStart => exact ⟨0, 18446744073709551615, by simp, by omega, F6, X6, M6, dn_begin t, b6⟩
        case round =>
          clear F6 X6 M6 b6 cX
          obtain ⟨j, u, rfl, hj, F, XB, MM, HD, bel⟩ := hrel
          have cX := XB.cell
          have hw64 : IntKind.i64.wrap (b + 64) = b + 64 := by rw [IntKind.wrap_i64]; omega
          by_cases hlt : j < 64
          · have hlt' : b + (j : Int) < b + 64 := by omega
            have HKey : Hid (keyOf Tryd.prog KT (.int .i64 (b + (j : Int))) = some (ky (b + (j : Int)))) := key_of (by omega)
            have hw1 : IntKind.i64.wrap (b + (j : Int) + 1) = b + ((j + 1 : Nat) : Int) := by rw [IntKind.wrap_i64]; omega
            cases hb : t.testBit j
            · have HC : Hid (∀ c : Int, D.atKey (ky (b + (j : Int))) (el 0) = el c → c = 1) := fun c hc => by have := HSeen.out j c hlt hc; rw [hb] at this; exact this
              obtain ⟨hu, hd⟩ := dn_end HD.out hlt hb
              have HD2 : Hid (Dn t (j + 1) (cl u j)) := hd
              have CE := fun V => pte.end_any b u (b + (j : Int)) HD.out.lt V
              obtain ⟨y1, y2, y3⟩ := end_ok HB.out hlt hu
              rw [y1, y2, y3] at CE
              clear hu hd y1 y2 y3 HD HSeen hb
              generalize cl u j = u2 at *
              have cF := F.cell
              go_wp2_with (at_lookup; refine wpList_lookup_own_int _ rfl _ _ MT rfl KT 3 .i64 law Tryd.underlying37 Tryd.underlying3 (zeroE _) Bm i D rfl MM _ _ rfl HKey.out ?_; intro c hat hwc; obtain rfl := HC.out c hat; clear hat hwc)
              refine (CE _).mono ?_
              rintro e w7 ⟨rfl, z⟩
              have F7 := F.below z F.lt
              have X7 := XB.below z XB.lt
              have M7 := map_below MM z
              have b7 := bel.trans (z.mono bel.size)
              clear CE cF cX F XB MM bel z HC
              go_upto_region 28 with (refine blk_store _ rfl 24 _ _ rfl w.heap.size _ rfl rfl _ _ F7 2 pt_info rfl rfl (pt_one _ _) ?_; intro w8 F8 p8)
              have X8 := p8.blk X7 (by omega)
              have M8 := map_but M7 p8 hMP
              have b8 := p8.below b7 (Nat.le_refl _)
              clear F7 X7 M7 b7 p8
              go_wp2_with fail
              go_roundw
              case rel => exact ⟨j + 1, u2, rfl, by omega, F8, X8, M8, HD2, b8⟩
              case measure => simp [intOf]; omega
            · have HC : Hid (∀ c : Int, D.atKey (ky (b + (j : Int))) (el 0) = el c → c = 0) := fun c hc => by have := HSeen.out j c hlt hc; rw [hb] at this; exact this
              have HD2 : Hid (Dn t (j + 1) u) := dn_stay HD.out hb
              clear HD HSeen hb
              go_wp2_with (at_lookup; refine wpList_lookup_own_int _ rfl _ _ MT rfl KT 3 .i64 law Tryd.underlying37 Tryd.underlying3 (zeroE _) Bm i D rfl MM _ _ rfl HKey.out ?_; intro c hat hwc; obtain rfl := HC.out c hat; clear hat hwc)
              go_roundw
              case rel => exact ⟨j + 1, u, rfl, by omega, F, XB, MM, HD2, bel⟩
              case measure => simp [intOf]; omega
          · have hlt' : ¬ b + (j : Int) < b + 64 := by omega
            have hu : u = t := dn_all HD.out (by omega) ht
            subst hu
            have cF := F.cell
            clear HD HSeen MM F XB
            go_wp2_with fail
            go_ret
            exact ⟨rfl, bel⟩
  · have hb' : perr b = 1 := by
      rcases perr_cases b with ⟨h, _⟩ | ⟨h, _⟩
      · exact absurd h hb
      · exact h
    have hfn : fn b t = 0 := by unfold fn; rw [if_neg hb]
    rw [hfn, hb'] at CF
    clear hfn hb hb' ck HK
    go_enter Tryd.func4, Tryd.ntmps4
    go_wp2_with fail
    refine (CF _).mono ?_
    rintro e w1 ⟨rfl, z⟩
    have b1 := b0.trans (z.mono b0.size)
    clear c0 F0 b0 z CF
    go_wp2_with fail
    refine (plv.lives _ (hT.below b1)).mono ?_
    rintro e w2 ⟨rfl, z⟩
    have b2 := b1.trans (z.mono b1.size)
    clear b1 z
    go_wp2_with fail
    refine (plv.lives _ (hT.below b2)).mono ?_
    rintro e w3 ⟨rfl, z⟩
    have b3 := b2.trans (z.mono b2.size)
    clear b2 z
    go_wp2_with fail
    go_ret
    exact ⟨rfl, b3⟩
end Go.Proofs.YtajhdpkiafaebaaDoor.poi
