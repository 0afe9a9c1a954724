/- The walk through custkeep.AgesBook. -/
import Derived.Test.YtehiipnafckjbaaAgLives2
import Derived.Test.YtehiipnafckjbaaAgRef3
import Derived.Test.YtehiipnafckjbaaAgBook
import Derived.Test.YtehiipnafckjbaaAgCont
import Derived.Deep.CutBlock
namespace Go.Proofs.Ytehiipnafckjbaa.agbi
open Go.ChangeShapes Go.WideShapes Go.ChangeAt Go.RowKit Go.BigFrame Go.Maps
open Go.Proofs.Ytehiipnafckjbaa Go.Proofs.Ytehiipnafckjbaa.am Go.Proofs.Ytehiipnafckjbaa.ag Go.Proofs.Ytehiipnafckjbaa.agi Go.Proofs.Ytehiipnafckjbaa.agt Go.Proofs.Ytehiipnafckjbaa.agl Go.Proofs.Ytehiipnafckjbaa.agu Go.Proofs.Ytehiipnafckjbaa.agx Go.Proofs.Ytehiipnafckjbaa.agv Go.Proofs.Ytehiipnafckjbaa.agb Go.Proofs.Ytehiipnafckjbaa.boxes Go.Proofs.Ytehiipnafckjbaa.rwr
open Go.Proofs.Ytehiipnafckjbaa.rws (Knd Own)

abbrev KT : TypeId := 3
abbrev MT : TypeId := 45
theorem law : Keyed Try.prog KT := int_keyed Try.underlying3
theorem zeroE (w : World) : (zeroValue 3).run Try.prog w = .ok (.int .i64 0) w := by kernel_rfl
theorem key_of {r : Int} (h : -9223372036854775808 ≤ r ∧ r ≤ 9223372036854775807) : keyOf Try.prog KT (.int .i64 r) = some (ky r) := keyOf_int_mk Try.underlying3 (by simp [Lit.wf, IntKind.min, IntKind.max, IntKind.signed, IntKind.bits]; omega)
noncomputable abbrev PE : Value → Option (DataW Unit × List MemPlace) := plainElem Try.prog 3
theorem map_below {w w' : World} {b n : Nat} {D : DataW Unit} (h : w.ownsMap Try.prog KT PE b n D) (hb : Below w.heap.size w w') : w'.ownsMap Try.prog KT PE b n D :=
  h.kept (row := none) ⟨hb.os, hb.tape, hb.output, hb.size, fun k hk _ => hb.block k hk⟩ (by simp)
theorem map_but {w w' : World} {b c n : Nat} {D : DataW Unit} (h : w.ownsMap Try.prog KT PE b n D) (hb : But c w w') (hne : b ≠ c) : w'.ownsMap Try.prog KT PE b n D :=
  h.kept (row := some c) ⟨hb.os, hb.tape, hb.output, by rw [hb.size]; exact Nat.le_refl _, fun k _ hk => hb.block k (fun e => hk (by rw [e]))⟩ (by simpa using hne)
theorem own_grown {w w' : World} {B : Nat} {v : Value} {l : List Sy} {r : Option Nat} (h : Own SK w B v l) (hg : w.grownBy w' r) (hne : v.ownBlock ≠ r) : Own SK w' B v l :=
  World.ownsRow.kept (row := r) h hg (Or.inr hne)
theorem nums_grown {w w' : World} {B : Nat} {v : Value} {l : List Int} {r : Option Nat} (h : Own NK w B v l) (hg : w.grownBy w' r) (hne : v.ownBlock ≠ r) : Own NK w' B v l :=
  World.ownsRow.kept (row := r) h hg (Or.inr hne)
theorem blk_grown {w w' : World} {r : Option Nat} {b : Nat} {F : Array Value} {t : TypeId} (h : w.grownBy w' r) (k : Blk w b F t) (hb : r ≠ some b) : Blk w' b F t := (h.block b k.lt (fun e => hb e.symm)).trans k
set_option maxRecDepth 20000 in
set_option maxHeartbeats 20000000 in
theorem walk (size : Int) (v : Value) (ts : List Int) (u : Value) (ss : List Int) (w : World) (hr : Rd NK w v ts) (hs : Rd NK w u ss) :
    Calls Try.prog 5 #[.int .i64 size, v, u] w fun e w' => e = .returned (.bool true) ∧ Below w.heap.size w w' := by
  obtain ⟨sa, sc, rfl⟩ := hr.form
  obtain ⟨sb, sd, rfl⟩ := hs.form
  have hnm : ts.length ≤ 9223372036854775807 := by
    obtain ⟨_, _, _, hm, _⟩ := hr
    unfold maxLen at hm; omega
  have hmv : ss.length ≤ 9223372036854775807 := by
    obtain ⟨_, _, _, hm, _⟩ := hs
    unfold maxLen at hm; omega
  have CN := fun w => new_any size w
  by_cases hb : rs size = true
  · have e1 : ne size = 0 := by unfold ne; rw [hb]; rfl
    have e2 : nn size = size := by unfold nn; rw [hb]; rfl
    rw [e1, e2] at CN
    have hrs := rs_iff.1 hb
    obtain ⟨N, rfl⟩ : ∃ N : Nat, size = (N : Int) := ⟨size.toNat, by omega⟩
    have hN1 : 1 ≤ N := by omega
    have hN2 : N ≤ 64 := by omega
    have HRs : Hid (rs N = true) := hb
    have ck := fun h => num_cells hr h
    have cn := fun h => num_cells hs h
    have HK : Hid (∀ j, j < ts.length → ∃ k, ts[j]? = some k) := fun j hj => ⟨_, List.getElem?_eq_getElem hj⟩
    have HV : Hid (∀ j, j < ss.length → ∃ y, ss[j]? = some y) := fun j hj => ⟨_, List.getElem?_eq_getElem hj⟩
    have HB0 : Hid (Bk [] (.map []) N 0) := bk_begin N
    clear hr hs hb e1 e2 hrs
    generalize ts.length = n at *
    generalize ss.length = m at *
    go_enter Try.func5, Try.ntmps5
    go_wp2_with fail
    refine (CN _).mono ?_
    rintro e w1 ⟨rfl, l1⟩
    have dA := (Below.refl w1.heap.size w1).alloc (Nat.le_refl _) (.cells Z2 24)
    go_upto_region 2 with (refine blk_store _ rfl 24 _ _ rfl w1.heap.size _ rfl rfl _ _ (Blk.new w1 Z2 24) 2 ag_info rfl rfl (ag_one _ _ _ _) ?_; intro w2 X2 p2)
    have l2 := p2.below dA (Nat.le_refl _)
    have d2 := l1.trans (l2.mono l1.size)
    have hX : w.heap.size ≤ w1.heap.size := l1.size
    clear CN dA p2 l1 l2
    generalize w1.heap.size = X at *
    go_wp2_with fail
    refine (agv.lives _).mono ?_
    rintro e w3 ⟨rfl, l3⟩
    have X3 := X2.below l3 X2.lt
    have d3 := d2.trans (l3.mono d2.size)
    clear X2 d2 l3
    by_cases hn : n ≤ 300
    · have hn' : ¬ (300 : Int) < (n : Int) := by omega
      have X4 := X3.alloc (.map #[] 0)
      have d4 := d3.alloc d3.size (.map #[] 0)
      have m4 : (w3.alloc (.map #[] 0)).ownsMap Try.prog KT PE w3.heap.size 0 (.map []) := World.ownsMap_made _ _ _ _
      have hmm := @run_makeMap Try.prog
      have hMX : w3.heap.size ≠ X := by have := X3.lt; omega
      have hMw : w.heap.size ≤ w3.heap.size := d3.size
      clear X3 d3
      go_upto_region 6 with fail
      generalize w3.alloc (.map #[] 0) = W4 at *
      generalize w3.heap.size = Bm at *
      go_wp2_with fail
      go_loopw [9, 50] (fun s9 s50 wr => ∃ (i : Nat) (tm : Int) (ta : Option Addr) (q tc : Nat) (l : List Sy) (D : DataW Unit), s50 = .int .i64 (i : Int) ∧ s9 = .int .i64 tm ∧ i ≤ n ∧ 0 ≤ tm ∧ tm ≤ 1000 * (i : Int) ∧ Blk wr X (AC N (.slice ta q tc)) 24 ∧ Own SK wr 0 (.slice ta q tc) l ∧ (Value.slice ta q tc).ownBlock ≠ some X ∧ (Value.slice ta q tc).ownBlock ≠ some Bm ∧ wr.ownsMap Try.prog KT PE Bm i D ∧ Hid (Bk l D N tm) ∧ Below w.heap.size w wr) (fun _ i _ => n - (intOf i).toNat)
      case atStart => exact ⟨0, 0, none, 0, 0, [], .map [], rfl, rfl, Nat.zero_le _, by omega, by omega, X4, Own.nil _ _ _, by simp [Value.ownBlock], by simp [Value.ownBlock], m4, HB0, d4⟩
      case round =>
        clear X4 m4 HB0 d4
        obtain ⟨i, tm, ta, q, tc, l, D, rfl, rfl, hi, ht0, ht1, XB, O, ne1, ne2, M, HB, bel⟩ := hrel
        by_cases hlt : i < n
        · have hlt' : (i : Int) < (n : Int) := by omega
          obtain ⟨k, hki⟩ := HK.out i hlt
          obtain ⟨kb, ko, rfl, hkb, hkx⟩ := ck (by omega)
          have ckey := (bel.cell (p := ⟨kb, ko + i, none⟩) hkb).trans (hkx i k hki)
          go_upto_if 58 with fail
          go_cut [9] (fun s9 wx => ∃ t2 : Int, s9 = .int .i64 t2 ∧ tm ≤ t2 ∧ t2 ≤ tm + 1000 ∧ wx = wr)
          case first =>
            by_cases hm : i < m
            · have hm' : (i : Int) < (m : Int) := by omega
              obtain ⟨y, hy⟩ := HV.out i hm
              obtain ⟨nb, no, rfl, hnb, hnx⟩ := cn (by omega)
              have cy := (bel.cell (p := ⟨nb, no + i, none⟩) hnb).trans (hnx i y hy)
              go_wp2_with fail
              trace_state
              go_meet
              case rel => exact ⟨_, rfl, by go_num, by go_num, rfl⟩
            · have hm' : ¬ (i : Int) < (m : Int) := by omega
              go_wp2_with fail
              go_meet
              case rel => exact ⟨tm, rfl, by omega, by omega, rfl⟩
          case rest =>
            obtain ⟨t2, rfl, ht2, ht3, rfl⟩ := hcut
            go_upto_region 12 with fail
            obtain ⟨rm, hrm⟩ : ∃ rm, rm = max 0 (min k 1073741824) / 4 % (N : Int) := ⟨_, rfl⟩
            have hr0 : 0 ≤ rm := by rw [hrm]; exact Int.emod_nonneg _ (by omega)
            have hr1 : rm < (N : Int) := by rw [hrm]; exact Int.emod_lt_of_pos _ (by omega)
            rw [← hrm]
            have HKey : Hid (keyOf Try.prog KT (.int .i64 rm) = some (ky rm)) := key_of (by omega)
            have HB2 : Hid (Bk l D N t2) := bk_later HB.out ht2
            have hDt := M.tidy law
            clear hrm HB HV HK cn ck hkx ckey
            go_upto_region 13 with (at_lookup; refine wpList_lookup_own_ok_int _ rfl _ _ MT rfl KT 3 .i64 law Try.underlying45 Try.underlying3 (zeroE _) Bm i D rfl M _ _ rfl HKey.out ?_; intro c hat hwc)
            go_upto_block 2 with fail
            have HWf : Hid ((Lit.int .i64 t2).wf = true) := by
              show (Lit.int .i64 t2).wf = true
              simp [Lit.wf, IntKind.min, IntKind.max, IntKind.signed, IntKind.bits]; omega
            have hBlt : Bm < wc.heap.size := M.lt
            have hw2 : IntKind.i64.wrap (t2 - 2) = t2 - 2 := by rw [IntKind.wrap_i64]; omega
            have cXB := XB.cell
            generalize bits BinOp.and IntKind.i64 k 3 = md at *
            obtain ⟨th, hth⟩ : ∃ th, th = Maps.has D (ky rm) := ⟨_, rfl⟩
            rw [← hth]
            have HTh : Hid (th = Maps.has D (ky rm)) := hth
            clear hth
            go_cut [] (fun wx => ∃ (ta : Option Addr) (q tc : Nat) (l : List Sy) (D : DataW Unit), Blk wx X (AC N (.slice ta q tc)) 24 ∧ Own SK wx 0 (.slice ta q tc) l ∧ (Value.slice ta q tc).ownBlock ≠ some X ∧ (Value.slice ta q tc).ownBlock ≠ some Bm ∧ wx.ownsMap Try.prog KT PE Bm (i + 1) D ∧ Hid (Bk l D N t2) ∧ Below w.heap.size w wx)
            case first =>
              by_cases h0 : md = 0
              · subst h0
                have CT := take_any N (.slice ta q tc) l t2 _ (Own.rd O)
                rcases bk_take HB2.out HRs.out hDt with ⟨a, hsz⟩ | ⟨a, b, d, f, hlf, hh, hB3⟩
                · have hroom : decide (Maps.size D < N) = false := decide_eq_false (by omega)
                  rw [a] at CT
                  clear HKey hat hwc HWf hsz a
                  generalize tn N l t2 = TN at *
                  generalize tr N l t2 = TR at *
                  generalize tl N l t2 = TL at *
                  go_wp2_with fail
                  refine CT.mono ?_
                  rintro e w5 ⟨v5, rfl, o5, l5⟩
                  obtain ⟨ta5, tc5, e5⟩ := (Own.rd o5).form
                  obtain ⟨q5, hq5⟩ : ∃ q, q = (TL).length := ⟨_, rfl⟩
                  rw [← hq5] at e5
                  subst e5
                  clear hq5
                  have neX5 := own_ne o5 XB.lt
                  have neB5 := own_ne o5 hBlt
                  have XB5 := XB.below l5 XB.lt
                  have O5 := O.kept l5
                  have M5 := map_below M l5
                  have bel5 := bel.trans (l5.mono bel.size)
                  have dA := (Below.refl w5.heap.size w5).alloc (Nat.le_refl _) (.cells Z2 24)
                  clear l5 O bel M
                  go_upto_region 27 with (refine blk_store _ rfl 24 _ _ rfl w5.heap.size _ rfl rfl _ _ (Blk.new w5 Z2 24) 2 ag_info rfl rfl (ag_one _ _ _ _) ?_; intro w6 X6 p6)
                  have l6 := p6.below dA (Nat.le_refl _)
                  have XB6 := XB5.below l6 XB5.lt
                  have O6 := O5.kept l6
                  have o6 := o5.kept l6
                  have M6 := map_below M5 l6
                  have bel6 := bel5.trans (l6.mono bel5.size)
                  clear dA p6 l6 XB5 O5 o5 M5 bel5 XB
                  generalize w5.heap.size = x5 at *
                  clear o6 X6 neX5 neB5
                  go_wp2_with (at_len; refine wpList_len_own _ rfl _ MT rfl KT 3 Try.underlying45 _ Bm i D rfl M6 ?_)
                  go_meet
                  case rel => exact ⟨ta, q, tc, l, D, XB6, O6, ne1, ne2, M6.mono (Nat.le_succ _), HB2, bel6⟩
                · rw [a, b, d, f] at CT
                  have HB3 : Hid (Bk (l ++ [⟨(lf l : Int), t2⟩]) (D.put (ky (lf l)) (el t2)) N t2) := hB3
                  have HKey2 : Hid (keyOf Try.prog KT (.int .i64 (lf l : Int)) = some (ky (lf l))) := key_of (by omega)
                  have hk0 : decide ((lf l : Int) < 0) = false := decide_eq_false (by omega)
                  have hk1 : decide ((N : Int) ≤ (lf l : Int)) = false := decide_eq_false (by omega)
                  clear HKey hat hwc a b d f hB3 hlf
                  generalize hkf : (lf l : Int) = kf at *
                  clear hkf
                  go_wp2_with fail
                  refine CT.mono ?_
                  rintro e w5 ⟨v5, rfl, o5, l5⟩
                  obtain ⟨ta5, tc5, e5⟩ := (Own.rd o5).form
                  obtain ⟨q5, hq5⟩ : ∃ q, q = (l ++ [(⟨kf, t2⟩ : Sy)]).length := ⟨_, rfl⟩
                  rw [← hq5] at e5
                  subst e5
                  clear hq5
                  have neX5 := own_ne o5 XB.lt
                  have neB5 := own_ne o5 hBlt
                  have XB5 := XB.below l5 XB.lt
                  have O5 := O.kept l5
                  have M5 := map_below M l5
                  have bel5 := bel.trans (l5.mono bel.size)
                  have dA := (Below.refl w5.heap.size w5).alloc (Nat.le_refl _) (.cells Z2 24)
                  clear l5 O bel M
                  go_upto_region 27 with (refine blk_store _ rfl 24 _ _ rfl w5.heap.size _ rfl rfl _ _ (Blk.new w5 Z2 24) 2 ag_info rfl rfl (ag_one _ _ _ _) ?_; intro w6 X6 p6)
                  have l6 := p6.below dA (Nat.le_refl _)
                  have XB6 := XB5.below l6 XB5.lt
                  have O6 := O5.kept l6
                  have o6 := o5.kept l6
                  have M6 := map_below M5 l6
                  have bel6 := bel5.trans (l6.mono bel5.size)
                  clear dA p6 l6 XB5 O5 o5 M5 bel5 XB
                  generalize w5.heap.size = x5 at *
                  go_upto_region 29 with (at_lookup; refine wpList_lookup_own_ok_int _ rfl _ _ MT rfl KT 3 .i64 law Try.underlying45 Try.underlying3 (zeroE _) Bm i D rfl M6 _ _ rfl HKey2.out ?_; intro c2 hat2 hwc2; rw [hh])
                  have cX6 := X6.cell
                  go_wp2_with (first | (refine blk_store _ rfl 24 _ _ rfl X _ rfl rfl _ _ XB6 2 ag_info rfl rfl (ag_one _ _ _ _) ?_; intro w8 X8 p8; have M8 := map_but M6 p8 hMX; have o8 := o6.but p8 neX5; have bel8 := p8.below bel6 hX) | (at_mapUpdate; refine wpList_mapUpdate_own _ rfl _ _ _ MT rfl KT 3 law Try.underlying45 _ Bm i D rfl M8 (by unfold maxLen; omega) _ _ _ rfl rfl HKey2.out (el t2) [] (plainElem_int Try.underlying3 HWf.out) ?_; intro w9 M9 g9))
                  have X9 := blk_grown g9 X8 (by simpa using hMX)
                  have o9 := own_grown o8 g9 neB5
                  have bel9 := bel8.grown g9 bel8.size (fun q hq => by cases hq; exact hMw)
                  clear X8 o8 bel8 g9 M8 p8 O6 o6 XB6 M6 X6 bel6 cX6
                  go_wp2_with fail
                  go_meet
                  case rel => exact ⟨ta5, q5, tc5, _, _, X9, o9.mono (Nat.zero_le _), neX5, neB5, M9, HB3, bel9⟩
              · have hd0 : (md == 0) = false := by simpa using h0
                by_cases h1 : md = 1
                · subst h1
                  have CT := touch_any N (.slice ta q tc) l rm t2 _ (Own.rd O)
                  rcases bk_touch HB2.out HRs.out hDt rm with ⟨a, hh⟩ | ⟨a, b, hh, hB3⟩
                  · rw [a] at CT
                    have et : th = false := by rw [HTh.out]; exact hh
                    subst et
                    clear HKey hat hwc HWf a
                    generalize un N l rm t2 = TN at *
                    generalize ul N l rm t2 = TL at *
                    go_wp2_with fail
                    refine CT.mono ?_
                    rintro e w5 ⟨v5, rfl, o5, l5⟩
                    obtain ⟨ta5, tc5, e5⟩ := (Own.rd o5).form
                    obtain ⟨q5, hq5⟩ : ∃ q, q = (TL).length := ⟨_, rfl⟩
                    rw [← hq5] at e5
                    subst e5
                    clear hq5
                    have neX5 := own_ne o5 XB.lt
                    have neB5 := own_ne o5 hBlt
                    have XB5 := XB.below l5 XB.lt
                    have O5 := O.kept l5
                    have M5 := map_below M l5
                    have bel5 := bel.trans (l5.mono bel.size)
                    have dA := (Below.refl w5.heap.size w5).alloc (Nat.le_refl _) (.cells Z2 24)
                    clear l5 O bel M
                    go_upto_region 36 with (refine blk_store _ rfl 24 _ _ rfl w5.heap.size _ rfl rfl _ _ (Blk.new w5 Z2 24) 2 ag_info rfl rfl (ag_one _ _ _ _) ?_; intro w6 X6 p6)
                    have l6 := p6.below dA (Nat.le_refl _)
                    have XB6 := XB5.below l6 XB5.lt
                    have O6 := O5.kept l6
                    have o6 := o5.kept l6
                    have M6 := map_below M5 l6
                    have bel6 := bel5.trans (l6.mono bel5.size)
                    clear dA p6 l6 XB5 O5 o5 M5 bel5 XB
                    generalize w5.heap.size = x5 at *
                    clear o6 X6 neX5 neB5
                    go_wp2_with fail
                    go_meet
                    case rel => exact ⟨ta, q, tc, l, D, XB6, O6, ne1, ne2, M6.mono (Nat.le_succ _), HB2, bel6⟩
                  · rw [a, b] at CT
                    have et : th = true := by rw [HTh.out]; exact hh
                    subst et
                    have HB3 : Hid (Bk (ul N l rm t2) (D.put (ky rm) (el t2)) N t2) := hB3
                    clear hat hwc a b hB3
                    generalize ul N l rm t2 = TL at *
                    go_wp2_with fail
                    refine CT.mono ?_
                    rintro e w5 ⟨v5, rfl, o5, l5⟩
                    obtain ⟨ta5, tc5, e5⟩ := (Own.rd o5).form
                    obtain ⟨q5, hq5⟩ : ∃ q, q = (TL).length := ⟨_, rfl⟩
                    rw [← hq5] at e5
                    subst e5
                    clear hq5
                    have neX5 := own_ne o5 XB.lt
                    have neB5 := own_ne o5 hBlt
                    have XB5 := XB.below l5 XB.lt
                    have O5 := O.kept l5
                    have M5 := map_below M l5
                    have bel5 := bel.trans (l5.mono bel.size)
                    have dA := (Below.refl w5.heap.size w5).alloc (Nat.le_refl _) (.cells Z2 24)
                    clear l5 O bel M
                    go_upto_region 36 with (refine blk_store _ rfl 24 _ _ rfl w5.heap.size _ rfl rfl _ _ (Blk.new w5 Z2 24) 2 ag_info rfl rfl (ag_one _ _ _ _) ?_; intro w6 X6 p6)
                    have l6 := p6.below dA (Nat.le_refl _)
                    have XB6 := XB5.below l6 XB5.lt
                    have O6 := O5.kept l6
                    have o6 := o5.kept l6
                    have M6 := map_below M5 l6
                    have bel6 := bel5.trans (l6.mono bel5.size)
                    clear dA p6 l6 XB5 O5 o5 M5 bel5 XB
                    generalize w5.heap.size = x5 at *
                    have cX6 := X6.cell
                    go_wp2_with (first | (refine blk_store _ rfl 24 _ _ rfl X _ rfl rfl _ _ XB6 2 ag_info rfl rfl (ag_one _ _ _ _) ?_; intro w8 X8 p8; have M8 := map_but M6 p8 hMX; have o8 := o6.but p8 neX5; have bel8 := p8.below bel6 hX) | (at_mapUpdate; refine wpList_mapUpdate_own _ rfl _ _ _ MT rfl KT 3 law Try.underlying45 _ Bm i D rfl M8 (by unfold maxLen; omega) _ _ _ rfl rfl HKey.out (el t2) [] (plainElem_int Try.underlying3 HWf.out) ?_; intro w9 M9 g9))
                    have X9 := blk_grown g9 X8 (by simpa using hMX)
                    have o9 := own_grown o8 g9 neB5
                    have bel9 := bel8.grown g9 bel8.size (fun q hq => by cases hq; exact hMw)
                    clear X8 o8 bel8 g9 M8 p8 O6 o6 XB6 M6 X6 bel6 cX6
                    go_wp2_with fail
                    go_meet
                    case rel => exact ⟨ta5, q5, tc5, _, _, X9, o9.mono (Nat.zero_le _), neX5, neB5, M9, HB3, bel9⟩
                · have hd1 : (md == 1) = false := by simpa using h1
                  by_cases h2 : md = 2
                  · subst h2
                    have CT := leave_any N (.slice ta q tc) l rm _ (Own.rd O)
                    rcases bk_leave HB2.out HRs.out hDt rm with ⟨a, hh⟩ | ⟨a, b, hh, hB3⟩
                    · rw [a] at CT
                      have et : th = false := by rw [HTh.out]; exact hh
                      subst et
                      clear HKey hat hwc HWf a
                      generalize ln N l rm = TN at *
                      generalize ll N l rm = TL at *
                      go_wp2_with fail
                      refine CT.mono ?_
                      rintro e w5 ⟨v5, rfl, o5, l5⟩
                      obtain ⟨ta5, tc5, e5⟩ := (Own.rd o5).form
                      obtain ⟨q5, hq5⟩ : ∃ q, q = (TL).length := ⟨_, rfl⟩
                      rw [← hq5] at e5
                      subst e5
                      clear hq5
                      have neX5 := own_ne o5 XB.lt
                      have neB5 := own_ne o5 hBlt
                      have XB5 := XB.below l5 XB.lt
                      have O5 := O.kept l5
                      have M5 := map_below M l5
                      have bel5 := bel.trans (l5.mono bel.size)
                      have dA := (Below.refl w5.heap.size w5).alloc (Nat.le_refl _) (.cells Z2 24)
                      clear l5 O bel M
                      go_upto_region 42 with (refine blk_store _ rfl 24 _ _ rfl w5.heap.size _ rfl rfl _ _ (Blk.new w5 Z2 24) 2 ag_info rfl rfl (ag_one _ _ _ _) ?_; intro w6 X6 p6)
                      have l6 := p6.below dA (Nat.le_refl _)
                      have XB6 := XB5.below l6 XB5.lt
                      have O6 := O5.kept l6
                      have o6 := o5.kept l6
                      have M6 := map_below M5 l6
                      have bel6 := bel5.trans (l6.mono bel5.size)
                      clear dA p6 l6 XB5 O5 o5 M5 bel5 XB
                      generalize w5.heap.size = x5 at *
                      clear o6 X6 neX5 neB5
                      go_wp2_with fail
                      go_meet
                      case rel => exact ⟨ta, q, tc, l, D, XB6, O6, ne1, ne2, M6.mono (Nat.le_succ _), HB2, bel6⟩
                    · rw [a, b] at CT
                      have et : th = true := by rw [HTh.out]; exact hh
                      subst et
                      have HB3 : Hid (Bk (ll N l rm) (D.del (ky rm)) N t2) := hB3
                      clear hat hwc a b hB3 HWf
                      generalize ll N l rm = TL at *
                      go_wp2_with fail
                      refine CT.mono ?_
                      rintro e w5 ⟨v5, rfl, o5, l5⟩
                      obtain ⟨ta5, tc5, e5⟩ := (Own.rd o5).form
                      obtain ⟨q5, hq5⟩ : ∃ q, q = (TL).length := ⟨_, rfl⟩
                      rw [← hq5] at e5
                      subst e5
                      clear hq5
                      have neX5 := own_ne o5 XB.lt
                      have neB5 := own_ne o5 hBlt
                      have XB5 := XB.below l5 XB.lt
                      have O5 := O.kept l5
                      have M5 := map_below M l5
                      have bel5 := bel.trans (l5.mono bel.size)
                      have dA := (Below.refl w5.heap.size w5).alloc (Nat.le_refl _) (.cells Z2 24)
                      clear l5 O bel M
                      go_upto_region 42 with (refine blk_store _ rfl 24 _ _ rfl w5.heap.size _ rfl rfl _ _ (Blk.new w5 Z2 24) 2 ag_info rfl rfl (ag_one _ _ _ _) ?_; intro w6 X6 p6)
                      have l6 := p6.below dA (Nat.le_refl _)
                      have XB6 := XB5.below l6 XB5.lt
                      have O6 := O5.kept l6
                      have o6 := o5.kept l6
                      have M6 := map_below M5 l6
                      have bel6 := bel5.trans (l6.mono bel5.size)
                      clear dA p6 l6 XB5 O5 o5 M5 bel5 XB
                      generalize w5.heap.size = x5 at *
                      have cX6 := X6.cell
                      go_wp2_with (first | (refine blk_store _ rfl 24 _ _ rfl X _ rfl rfl _ _ XB6 2 ag_info rfl rfl (ag_one _ _ _ _) ?_; intro w8 X8 p8; have M8 := map_but M6 p8 hMX; have o8 := o6.but p8 neX5; have bel8 := p8.below bel6 hX) | (at_delete; refine wpList_delete_own _ rfl _ _ MT KT rfl 3 law Try.underlying45 _ Bm i D rfl M8 _ _ rfl HKey.out ?_; intro w9 M9 t9))
                      have g9 := t9.grown
                      have X9 := blk_grown g9 X8 (by simpa using hMX)
                      have o9 := own_grown o8 g9 neB5
                      have bel9 := bel8.grown g9 bel8.size (fun q hq => by cases hq; exact hMw)
                      clear X8 o8 bel8 g9 M8 p8 O6 o6 XB6 M6 X6 bel6 cX6 t9
                      go_wp2_with fail
                      go_meet
                      case rel => exact ⟨ta5, q5, tc5, _, _, X9, o9.mono (Nat.zero_le _), neX5, neB5, M9.mono (Nat.le_succ _), HB3, bel9⟩
                  · have hd2 : (md == 2) = false := by simpa using h2
                    have CT := expire_any N (.slice ta q tc) l (t2 - 2) _ (Own.rd O)
                    have ea := bk_aerr HB2.out HRs.out
                    obtain ⟨y1, y2, y3⟩ := xe_ones ea (t2 - 2)
                    have HGo : Hid (tk l rm = true → ((rm ∈ xg N l (t2 - 2)) ↔ c < t2 - 2)) := fun h => by rw [y3]; exact bk_goes HB2.out h hat
                    have HHas : Hid (Maps.has D (ky rm) = tk l rm) := HB2.out.has rm
                    have HXl : Hid (xl N l (t2 - 2) = l.drop (old (t2 - 2) l)) := y2
                    have hol := old_le (t2 - 2) l
                    have hlen64 : l.length ≤ 64 := by have := ok_len HB2.out.ok; omega
                    have HGl : Hid ((xg N l (t2 - 2)).length = old (t2 - 2) l) := by
                      show _ = _
                      rw [y3, List.length_map, List.length_take]; omega
                    have HGa : Hid (∀ j, j < old (t2 - 2) l → (xg N l (t2 - 2))[j]? = some (ax l j).r ∧ (ax l j).a < t2 - 2 ∧ 0 ≤ (ax l j).r ∧ (ax l j).r < (N : Int)) := fun j hj => by
                      have h1 := HB2.out.ok.1 _ (ax_mem (show j < l.length by omega))
                      refine ⟨?_, old_yes hj, h1.1, h1.2⟩
                      rw [y3, List.getElem?_map, List.getElem?_take, if_pos hj, ax_get (by omega)]
                      rfl
                    rw [ea, y1] at CT
                    clear ea y1 y2 y3 HKey hwc HWf hat
                    go_wp2_with fail
                    refine CT.mono ?_
                    rintro e w5 ⟨v5, g5, rfl, o5, p5, l5⟩
                    obtain ⟨ga, gc, eg⟩ := (Own.rd p5).form
                    obtain ⟨qg, hqg⟩ : ∃ q, q = (xg N l (t2 - 2)).length := ⟨_, rfl⟩
                    rw [← hqg] at eg
                    subst eg
                    have HQG : Hid (qg = (xg N l (t2 - 2)).length) := hqg
                    clear hqg
                    obtain ⟨ta5, tc5, e5⟩ := (Own.rd o5).form
                    obtain ⟨q5, hq5⟩ : ∃ q, q = (xl N l (t2 - 2)).length := ⟨_, rfl⟩
                    rw [← hq5] at e5
                    subst e5
                    clear hq5
                    have neX5 := own_ne o5 XB.lt
                    have neB5 := own_ne o5 hBlt
                    have XB5 := XB.below l5 XB.lt
                    have O5 := O.kept l5
                    have M5 := map_below M l5
                    have bel5 := bel.trans (l5.mono bel.size)
                    have dA := (Below.refl w5.heap.size w5).alloc (Nat.le_refl _) (.cells Z2 24)
                    clear l5 O bel M
                    go_upto_region 15 with (refine blk_store _ rfl 24 _ _ rfl w5.heap.size _ rfl rfl _ _ (Blk.new w5 Z2 24) 2 ag_info rfl rfl (ag_one _ _ _ _) ?_; intro w6 X6 p6)
                    have l6 := p6.below dA (Nat.le_refl _)
                    have XB6 := XB5.below l6 XB5.lt
                    have O6 := O5.kept l6
                    have o6 := o5.kept l6
                    have M6 := map_below M5 l6
                    have bel6 := bel5.trans (l6.mono bel5.size)
                    have n6 := p5.kept l6
                    have neG := own_ne p5 XB.lt
                    have neGB := own_ne p5 hBlt
                    clear dA p6 l6 XB5 O5 o5 M5 bel5 XB p5
                    generalize w5.heap.size = x5 at *
                    have CN := agcn.contains_any (.slice ga qg gc) (xg N l (t2 - 2)) rm _ (Own.rd n6) (by rw [HGl.out]; omega)
                    go_upto_region 15 with fail
                    obtain ⟨W, hW⟩ : ∃ W, W = w6 := ⟨_, rfl⟩
                    subst hW
                    go_cut [103] (fun s103 wx => s103 = .bool false ∧ Below W.heap.size W wx)
                    case first =>
                      clear X6 XB6 O6 o6 M6 n6 bel6 HGa HXl HB2
                      cases th
                      · clear CN
                        go_wp2_with fail
                        go_meet
                        case rel => exact ⟨rfl, Below.refl _ _⟩
                      · have e1 : decide (rm ∈ xg N l (t2 - 2)) = decide (c < t2 - 2) := by
                          have h := HGo.out (by rw [← HHas.out, ← HTh.out])
                          rw [Bool.eq_iff_iff, decide_eq_true_eq, decide_eq_true_eq]; exact h
                        rw [e1] at CN
                        clear e1 HGo HHas HTh
                        go_wp2_with fail
                        refine CN.mono ?_
                        rintro e w7 ⟨rfl, z⟩
                        go_wp2_with fail
                        go_meet
                        case rel => exact ⟨rfl, z⟩
                    case rest =>
                      obtain ⟨rfl, d⟩ := hcut
                      have XB7 := XB6.below d XB6.lt
                      have X7 := X6.below d X6.lt
                      have o7 := o6.kept d
                      have n7 := n6.kept d
                      have M7 := map_below M6 d
                      have bel7 := bel6.trans (d.mono bel6.size)
                      clear CN XB6 X6 O6 o6 n6 M6 bel6 d HGo HHas
                      have cX7 := X7.cell
                      have HQo : Hid (qg = old (t2 - 2) l) := by show qg = _; rw [HQG.out, HGl.out]
                      have HB30 : Hid (Bk (l.drop 0) D N t2) := HB2.out
                      have hq64 : qg ≤ 64 := by have := HQo.out; omega
                      clear HQG HGl HB2
                      go_upto_region 18 with (refine blk_store _ rfl 24 _ _ rfl X _ rfl rfl _ _ XB7 2 ag_info rfl rfl (ag_one _ _ _ _) ?_; intro w8 X8 p8)
                      have M8 := map_but M7 p8 hMX
                      have o8 := o7.but p8 neX5
                      have n8 := n7.but p8 neG
                      have bel8 := p8.below bel7 hX
                      clear X7 XB7 o7 n7 M7 bel7 p8 cX7
                      go_wp2_with fail
                      generalize xl N l (t2 - 2) = XL at *
                      generalize xg N l (t2 - 2) = XG at *
                      go_loopw [107] (fun s107 wr => ∃ (j : Nat) (D : DataW Unit), s107 = .int .i64 (j : Int) ∧ j ≤ qg ∧ Blk wr X (AC N (.slice ta5 q5 tc5)) 24 ∧ Own SK wr 0 (.slice ta5 q5 tc5) XL ∧ Own NK wr 0 (.slice ga qg gc) XG ∧ wr.ownsMap Try.prog KT PE Bm i D ∧ Hid (Bk (l.drop j) D N t2) ∧ Below w.heap.size w wr) (fun s _ => qg - (intOf s).toNat)
                      case atStart => exact ⟨0, D, rfl, Nat.zero_le _, X8, o8.mono (Nat.zero_le _), n8.mono (Nat.zero_le _), M8, HB30, bel8⟩
                      case round =>
                        clear X8 o8 n8 M8 HB30 bel8 HTh hDt
                        obtain ⟨j, D, rfl, hj, X8, o8, n8, M8, HB3, bel8⟩ := hrel
                        have ha : Bm < wr.heap.size := M8.lt
                        by_cases hlt2 : j < qg
                        · have hlt2' : (j : Int) < (qg : Int) := by omega
                          obtain ⟨g1, g2, g3, g4⟩ := HGa.out j (by rw [← HQo.out]; exact hlt2)
                          obtain ⟨gb, go, rfl, hgb, hgx⟩ := num_cells (Own.rd n8) (by have := (List.getElem?_eq_some_iff.1 g1).1; omega)
                          have cG := hgx j _ g1
                          have hjl : j < l.length := by have := HQo.out; omega
                          have HAg : Hid (∀ c3, D.atKey (ky (ax l j).r) (el 0) = el c3 → c3 = (ax l j).a) := fun c3 h => bk_age HB3.out hjl h
                          have HB4 : Hid (Bk (l.drop (j + 1)) (D.del (ky (ax l j).r)) N t2) := bk_old HB3.out (M8.tidy law) hjl
                          have HKey3 : Hid (keyOf Try.prog KT (.int .i64 (ax l j).r) = some (ky (ax l j).r)) := key_of (by omega)
                          have hd : decide (t2 - 2 ≤ (ax l j).a) = false := decide_eq_false (by omega)
                          have cX8 := X8.cell
                          clear g1 g2 g3 g4 hgx HB3 HGa HXl HQo hjl
                          generalize (ax l j).r = jr at *
                          generalize (ax l j).a = ja at *
                          go_wp2_with (first | (at_lookup; refine wpList_lookup_own_int _ rfl _ _ MT rfl KT 3 .i64 law Try.underlying45 Try.underlying3 (zeroE _) Bm i D rfl M8 _ _ rfl HKey3.out ?_; intro c3 hat3 hwc3; have h3 := HAg.out c3 hat3; rw [h3]; clear h3 hat3 hwc3) | (at_delete; refine wpList_delete_own _ rfl _ _ MT KT rfl 3 law Try.underlying45 _ Bm i D rfl M8 _ _ rfl HKey3.out ?_; intro w9 M9 t9))
                          have g9 := t9.grown
                          have X9 := blk_grown g9 X8 (by simpa using hMX)
                          have o9 := own_grown o8 g9 neB5
                          have n9 := nums_grown n8 g9 neGB
                          have bel9 := bel8.grown g9 bel8.size (fun q hq => by cases hq; exact hMw)
                          clear X8 o8 n8 M8 bel8 t9 g9 cX8 cG HAg
                          go_wp2_with fail
                          go_roundw
                          case rel => exact ⟨j + 1, _, by go_num, by omega, X9, o9, n9, M9, HB4, bel9⟩
                          case measure => simp [intOf]; omega
                        · have hlt2' : ¬ (j : Int) < (qg : Int) := by omega
                          have HB5 : Hid (Bk XL D N t2) := by
                            have := HB3.out
                            rw [show j = old (t2 - 2) l from by have := HQo.out; omega, ← HXl.out] at this
                            exact this
                          clear HB3 HGa HXl HQo n8
                          go_wp2_with fail
                          go_meet
                          case rel => exact ⟨ta5, q5, tc5, XL, D, X8, o8, neX5, neB5, M8.mono (Nat.le_succ _), HB5, bel8⟩
            case rest =>
              obtain ⟨ta, q, tc, l, D, XB, O, ne1, ne2, M, HB, bel⟩ := hcut
              have hqs : Maps.size D = q := by rw [HB.out.sz]; exact (rd_cap (Own.rd O)).1.symm
              have HQs : Hid (Maps.size D = q) := hqs
              have CA := agrr.right_any N (.slice ta q tc) l _ (Own.rd O)
              rw [bk_aerr HB.out HRs.out] at CA
              have cX := XB.cell
              clear hqs HB2 HKey hat hwc hDt
              go_wp2_with (at_len; refine wpList_len_own _ rfl _ MT rfl KT 3 Try.underlying45 _ Bm (i + 1) D rfl M ?_; rw [HQs.out])
              refine CA.mono ?_
              rintro e w9 ⟨rfl, z⟩
              have X9 := XB.below z XB.lt
              have O9 := O.kept z
              have M9 := map_below M z
              have b9 := bel.trans (z.mono bel.size)
              clear CA cX z XB O M bel HQs
              go_wp2_with fail
              go_roundw
              case rel => exact ⟨i + 1, t2, ta, q, tc, l, D, by go_num, rfl, by omega, by omega, by omega, X9, O9, ne1, ne2, M9, HB, b9⟩
              case measure => simp [intOf]; omega
        · have hlt' : ¬ (i : Int) < (n : Int) := by omega
          clear HV HK ck cn ne1 ne2 HB M O XB
          go_wp2_with fail
          go_ret
          exact ⟨rfl, bel⟩
    · have hn' : (300 : Int) < (n : Int) := by omega
      clear X3 HB0 HK HV ck cn
      go_wp2_with fail
      refine (agv.lives _).mono ?_
      rintro e w4 ⟨rfl, l4⟩
      have d4 := d3.trans (l4.mono d3.size)
      go_wp2_with fail
      go_ret
      exact ⟨rfl, d4⟩
  · have hb' : rs size = false := by simpa using hb
    have e1 : ne size = 1 := by unfold ne; rw [hb']; rfl
    have e2 : nn size = 0 := by unfold nn; rw [hb']; rfl
    rw [e1, e2] at CN
    clear hr hs hb hb' e1 e2
    generalize ts.length = n at *
    generalize ss.length = m at *
    go_enter Try.func5, Try.ntmps5
    go_wp2_with fail
    refine (CN _).mono ?_
    rintro e w1 ⟨rfl, l1⟩
    have dA := (Below.refl w1.heap.size w1).alloc (Nat.le_refl _) (.cells Z2 24)
    go_upto_region 2 with (refine blk_store _ rfl 24 _ _ rfl w1.heap.size Z2 rfl rfl _ _ (Blk.new w1 Z2 24) 2 ag_info rfl rfl (ag_one _ _ _ _) ?_; intro w2 X2 p2)
    have l2 := p2.below dA (Nat.le_refl _)
    have d2 := l1.trans (l2.mono l1.size)
    clear dA p2 l1 l2 X2 CN
    generalize w1.heap.size = X at *
    go_wp2_with fail
    refine (agv.lives _).mono ?_
    rintro e w3 ⟨rfl, l3⟩
    have d3 := d2.trans (l3.mono d2.size)
    clear l3 d2
    go_wp2_with fail
    refine (agv.lives _).mono ?_
    rintro e w4 ⟨rfl, l4⟩
    have d4 := d3.trans (l4.mono d3.size)
    go_wp2_with fail
    go_ret
    exact ⟨rfl, d4⟩
end Go.Proofs.Ytehiipnafckjbaa.agbi
