/- The walk through custkeep.TableBook. -/
import Derived.Test.YtmnmjmbfnecmoaaTabLives
import Derived.Test.YtmnmjmbfnecmoaaTabRef2
import Derived.Test.YtmnmjmbfnecmoaaTabBook
import Derived.Test.YtmnmjmbfnecmoaaArgsNs
namespace Go.Proofs.Ytmnmjmbfnecmoaa.tbi
open Go.ChangeShapes Go.WideShapes Go.ChangeAt Go.RowKit Go.BigFrame Go.Maps
open Go.Proofs.Ytmnmjmbfnecmoaa Go.Proofs.Ytmnmjmbfnecmoaa.tm Go.Proofs.Ytmnmjmbfnecmoaa.tb Go.Proofs.Ytmnmjmbfnecmoaa.tsh Go.Proofs.Ytmnmjmbfnecmoaa.tg Go.Proofs.Ytmnmjmbfnecmoaa.tp Go.Proofs.Ytmnmjmbfnecmoaa.tr Go.Proofs.Ytmnmjmbfnecmoaa.tk Go.Proofs.Ytmnmjmbfnecmoaa.tbk Go.Proofs.Ytmnmjmbfnecmoaa.argn Go.Proofs.Ytmnmjmbfnecmoaa.boxes Go.Proofs.Ytmnmjmbfnecmoaa.rwr
open Go.Proofs.Ytmnmjmbfnecmoaa.rws (Knd Own)

abbrev KT : TypeId := 25
abbrev MT : TypeId := 45
theorem law : Keyed Try.prog KT := int_keyed Try.underlying25
theorem zeroE (w : World) : (zeroValue 3).run Try.prog w = .ok (.int .i64 0) w := by kernel_rfl
theorem key_of {k : Nat} (h : k < 18446744073709551616) : keyOf Try.prog KT (.int .u64 (k : Int)) = some (ky k) := keyOf_int_mk Try.underlying25 (by simp [Lit.wf, IntKind.min, IntKind.max, IntKind.signed, IntKind.bits]; omega)
noncomputable abbrev PE : Value → Option (DataW Unit × List MemPlace) := plainElem Try.prog 3
theorem own_grown {w w' : World} {B : Nat} {v : Value} {l : List St} {r : Option Nat} (h : Own SK w B v l) (hg : w.grownBy w' r) (hne : v.ownBlock ≠ r) : Own SK w' B v l :=
  World.ownsRow.kept (row := r) h hg (Or.inr hne)
theorem blk_grown {w w' : World} {r : Option Nat} {b : Nat} {F : Array Value} {t : TypeId} (h : w.grownBy w' r) (k : Blk w b F t) (hb : r ≠ some b) : Blk w' b F t := (h.block b k.lt (fun e => hb e.symm)).trans k
theorem map_below {w w' : World} {b n : Nat} {D : DataW Unit} (h : w.ownsMap Try.prog KT PE b n D) (hb : Below w.heap.size w w') : w'.ownsMap Try.prog KT PE b n D :=
  h.kept (row := none) ⟨hb.os, hb.tape, hb.output, hb.size, fun k hk _ => hb.block k hk⟩ (by simp)
theorem map_but {w w' : World} {b c n : Nat} {D : DataW Unit} (h : w.ownsMap Try.prog KT PE b n D) (hb : But c w w') (hne : b ≠ c) : w'.ownsMap Try.prog KT PE b n D :=
  h.kept (row := some c) ⟨hb.os, hb.tape, hb.output, by rw [hb.size]; exact Nat.le_refl _, fun k _ hk => hb.block k (fun e => hk (by rw [e]))⟩ (by simpa using hne)
theorem own_at {w : World} {B : Nat} {sa : Option Addr} {n sc : Nat} {l : List St} (h : Own SK w B (.slice sa n sc) l) (hl : 0 < l.length) : ∃ g, sa = some ⟨g, 0, none⟩ := by
  obtain ⟨g, cap, e, _⟩ := h.form hl
  simp only [Value.slice.injEq] at e
  exact ⟨g, e.1⟩
set_option maxRecDepth 20000 in
set_option maxHeartbeats 20000000 in
theorem walk (b : Int) (v : Value) (ks : List Nat) (u : Value) (vs : List Int) (w : World) (hr : Rd UK w v ks) (hk : ∀ k ∈ ks, k < 18446744073709551616) (hs : Rd IK w u vs) (hv : ∀ y ∈ vs, -9223372036854775808 ≤ y ∧ y ≤ 9223372036854775807) :
    Calls Try.prog 5 #[.int .i64 b, v, u] w fun e w' => e = .returned (.bool true) ∧ Below w.heap.size w w' := by
  obtain ⟨sa, sc, rfl⟩ := hr.form
  obtain ⟨sb, sd, rfl⟩ := hs.form
  have hnm : ks.length ≤ 9223372036854775807 := by
    obtain ⟨_, _, _, hm, _⟩ := hr
    unfold maxLen at hm; omega
  have hmv : vs.length ≤ 9223372036854775807 := by
    obtain ⟨_, _, _, hm, _⟩ := hs
    unfold maxLen at hm; omega
  by_cases hb : rb b = true
  · obtain ⟨B, rfl⟩ : ∃ B : Nat, b = (B : Int) := ⟨b.toNat, by unfold rb at hb; simp at hb; omega⟩
    have hB : 1 ≤ B ∧ B ≤ 6 := by unfold rb at hb; simp at hb; omega
    have CN := fun w => new_ok B w hB.1 hB.2
    have HB0 : Hid (Bk (List.replicate (2 ^ B) z0) (.map []) (2 ^ B)) := bk_begin hB.1 hB.2
    have hN : 2 ≤ 2 ^ B ∧ 2 ^ B ≤ 64 := by
      have : B = 1 ∨ B = 2 ∨ B = 3 ∨ B = 4 ∨ B = 5 ∨ B = 6 := by omega
      rcases this with rfl | rfl | rfl | rfl | rfl | rfl <;> decide
    have hsh : IntKind.i64.wrap ((2 : Int) ^ B) = ((2 ^ B : Nat) : Int) := by
      rw [IntKind.wrap_i64]
      have : ((2 : Int) ^ B) = ((2 ^ B : Nat) : Int) := by rw [Int.natCast_pow]; rfl
      rw [this]; omega
    have HSH : Hid (IntKind.i64.wrap ((2 : Int) ^ B) = ((2 ^ B : Nat) : Int)) := hsh
    have h64 : (B : Int) ≤ 64 := by omega
    have ck := fun h => keys_at hr h
    have cn := fun h => nums_at hs h
    have HK : Hid (∀ j, j < ks.length → ∃ k, ks[j]? = some k ∧ k < 18446744073709551616) := fun j hj => ⟨_, List.getElem?_eq_getElem hj, hk _ (List.getElem_mem hj)⟩
    have HV : Hid (∀ j, j < vs.length → ∃ y, vs[j]? = some y ∧ -9223372036854775808 ≤ y ∧ y ≤ 9223372036854775807) := fun j hj => ⟨_, List.getElem?_eq_getElem hj, hv _ (List.getElem_mem hj)⟩
    clear hr hk hs hv hb hsh
    generalize hL0 : List.replicate (2 ^ B) z0 = L0 at *
    have hlen0 : L0.length = 2 ^ B := by rw [← hL0]; exact List.length_replicate
    clear hL0
    generalize 2 ^ B = N at *
    generalize ks.length = n at *
    generalize vs.length = m at *
    go_enter Try.func5, Try.ntmps5
    go_wp2_with fail
    refine (CN _).mono ?_
    rintro e w1 ⟨v1, rfl, o1, l1⟩
    obtain ⟨sa1, sc1, e1⟩ := (Own.rd o1).form
    rw [hlen0] at e1
    subst e1
    have dA := (Below.refl w1.heap.size w1).alloc (Nat.le_refl _) (.cells Z1 24)
    go_upto_region 2 with (refine blk_store _ rfl 24 _ _ rfl w1.heap.size _ rfl rfl _ _ (Blk.new w1 Z1 24) 1 tb_info rfl rfl (tb_one _ _ _) ?_; intro w2 X2 p2)
    have l2 := p2.below dA (Nat.le_refl _)
    have o2 := o1.kept l2
    have d2 := l1.trans (l2.mono l1.size)
    have hX : w.heap.size ≤ w1.heap.size := l1.size
    have neX : (Value.slice sa1 N sc1).ownBlock ≠ some w1.heap.size := by
      rcases o1.forms with ⟨e, _⟩ | ⟨g, cap, e, _, hg, _⟩
      · rw [e]; simp [Value.ownBlock]
      · rw [e]; simp [Value.ownBlock]; omega
    have ltO : ∀ g, (Value.slice sa1 N sc1).ownBlock = some g → g < w1.heap.size := fun g hg => by
      rcases o1.forms with ⟨e, _⟩ | ⟨g', cap, e, _, hg', _⟩
      · rw [e] at hg; simp [Value.ownBlock] at hg
      · rw [e] at hg; simp [Value.ownBlock] at hg; omega
    clear CN o1 dA p2 l1 hlen0
    generalize w1.heap.size = X at *
    go_wp2_with fail
    refine (tl.lives _).mono ?_
    rintro e w3 ⟨rfl, l3⟩
    have X3 := X2.below l3 X2.lt
    have o3 := o2.kept l3
    have d3 := d2.trans (l3.mono d2.size)
    have hX3 : X < w3.heap.size := X3.lt
    clear X2 o2 d2 l2 l3
    by_cases hn : n ≤ 300
    · have hn' : ¬ (300 : Int) < (n : Int) := by omega
      have o4 := o3.alloc (.map #[] 0)
      have X4 := X3.alloc (.map #[] 0)
      have d4 := d3.alloc d3.size (.map #[] 0)
      have m4 : (w3.alloc (.map #[] 0)).ownsMap Try.prog KT PE w3.heap.size 0 (.map []) := World.ownsMap_made _ _ _ _
      have neM : (Value.slice sa1 N sc1).ownBlock ≠ some w3.heap.size := fun e => by have := ltO _ e; omega
      have hmm := @run_makeMap Try.prog
      have hMX : w3.heap.size ≠ X := by omega
      have hMw : w.heap.size ≤ w3.heap.size := d3.size
      clear o3 X3 d3 ltO hX3
      go_upto_region 5 with fail
      generalize w3.alloc (.map #[] 0) = W4 at *
      generalize w3.heap.size = Bm at *
      go_wp2_with fail
      go_loopw [48] (fun s48 wr => ∃ (i : Nat) (ta : Option Addr) (tc : Nat) (l : List St) (D : DataW Unit), s48 = .int .i64 (i : Int) ∧ i ≤ n ∧ Blk wr X #[.slice ta N tc] 24 ∧ Own SK wr 0 (.slice ta N tc) l ∧ (Value.slice ta N tc).ownBlock ≠ some X ∧ (Value.slice ta N tc).ownBlock ≠ some Bm ∧ wr.ownsMap Try.prog KT PE Bm i D ∧ Hid (Bk l D N) ∧ Below w.heap.size w wr) (fun i _ => n - (intOf i).toNat)
      case atStart => exact ⟨0, sa1, sc1, L0, .map [], rfl, Nat.zero_le _, X4, o4.mono (Nat.zero_le _), neX, neM, m4, HB0, d4⟩
      case round =>
        clear X4 o4 neX neM m4 HB0 d4
        obtain ⟨i, ta, tc, l, D, rfl, hi, XB, O, ne1, ne2, M, HB, bel⟩ := hrel
        by_cases hlt : i < n
        · have hlt' : (i : Int) < (n : Int) := by omega
          obtain ⟨k, hki, hkk⟩ := HK.out i hlt
          obtain ⟨kb, ko, rfl, hkb, hkx⟩ := ck (by omega)
          have ckey := (bel.cell (p := ⟨kb, ko + i, none⟩) hkb).trans (hkx i k hki)
          obtain ⟨y, hy1, hy2, hy⟩ : ∃ y : Int, -9223372036854775808 ≤ y ∧ y ≤ 9223372036854775807 ∧ ((i < m ∧ vs[i]? = some y) ∨ (¬ i < m ∧ y = 0)) := by
            by_cases hm : i < m
            · obtain ⟨y, e, e1, e2⟩ := HV.out i hm
              exact ⟨y, e1, e2, Or.inl ⟨hm, e⟩⟩
            · exact ⟨0, by omega, by omega, Or.inr ⟨hm, rfl⟩⟩
          have HY : Hid ((i < m ∧ vs[i]? = some y) ∨ (¬ i < m ∧ y = 0)) := hy
          have HYb : Hid (-9223372036854775808 ≤ y ∧ y ≤ 9223372036854775807) := ⟨hy1, hy2⟩
          clear hy hy1 hy2
          go_upto_if 56 with fail
          go_cut [12] (fun s12 wx => s12 = .int .i64 y ∧ wx = wr)
          case first =>
            rcases HY.out with ⟨hm, e⟩ | ⟨hm, rfl⟩
            · have hm' : (i : Int) < (m : Int) := by omega
              obtain ⟨nb, no, rfl, hnb, hnx⟩ := cn (by omega)
              have cy := (bel.cell (p := ⟨nb, no + i, none⟩) hnb).trans (hnx i y e)
              go_wp2_with fail
              go_meet
              case rel => exact ⟨rfl, rfl⟩
            · have hm' : ¬ (i : Int) < (m : Int) := by omega
              go_wp2_with fail
              go_meet
              case rel => exact ⟨rfl, rfl⟩
          case rest =>
            obtain ⟨rfl, rfl⟩ := hcut
            have hDt := M.tidy law
            have CR := fun u hu => remove_any (.slice ta N tc) l k u hu
            have CP := fun u hu => put_any (.slice ta N tc) l k y u hu
            have HBP : Hid (pe l k = 0 → Bk (pl l k y) (D.put (ky k) (el y)) N) := fun h => bk_put HB.out hDt hkk y h
            have HBR : Hid (fe l k = 0 → Bk (rl l k) (D.del (ky k)) N) := fun h => bk_rem HB.out hDt h
            have HRoom : Hid ((pe l k = 0 ∧ (Maps.has D (ky k) = true ∨ (Maps.has D (ky k) = false ∧ Maps.size D + 1 < N))) ∨ (pe l k = 6 ∧ Maps.has D (ky k) = false ∧ ¬ Maps.size D + 1 < N)) := bk_room HB.out
            have HKey : Hid (keyOf Try.prog KT (.int .u64 (k : Int)) = some (ky k)) := key_of hkk
            have HFe : Hid (∀ c, D.atKey (ky k) (el 0) = el c → (Maps.has D (ky k) = true → fe l k = 0) ∧ (Maps.has D (ky k) = false → fe l k = 7)) := fun c hc => ⟨fun h => (bk_yes HB.out h hc).1, fun h => (bk_no HB.out h hc).1⟩
            have hsz : Maps.size D ≤ i := M.size_le
            have HSz : Hid (Maps.size D ≤ i) := hsz
            have cX := XB.cell
            have hXlt := XB.lt
            have hBlt : Bm < wc.heap.size := M.lt
            clear hDt ckey hkx HY cn hsz
            by_cases h3 : y.tmod 3 = 0
            · have h3' : (y.tmod 3 == 0) = true := by simpa using h3
              clear h3 CP HBP HRoom
              cases hh : Maps.has D (ky k)
              · go_wp2_with (at_lookup; refine wpList_lookup_own_ok_int _ rfl _ _ MT rfl KT 3 .i64 law Try.underlying45 Try.underlying3 (zeroE _) Bm i D rfl M _ _ rfl HKey.out ?_; intro c hat hwc)
                have hfe := (HFe.out c hat).2 hh
                have CR' := CR _ (Own.rd O)
                rw [hfe] at CR'
                clear HFe HBR hfe CR
                refine CR'.mono ?_
                rintro e w5 ⟨v5, rfl, o5, l5⟩
                obtain ⟨ta5, tc5, e5⟩ := (Own.rd o5).form
                obtain ⟨n5, hn5⟩ : ∃ q, q = (rl l k).length := ⟨_, rfl⟩
                rw [← hn5] at e5
                subst e5
                have HN5 : Hid (n5 = (rl l k).length) := hn5
                clear hn5
                have neX5 := tl.own_ne o5 hXlt
                have neB5 := tl.own_ne o5 hBlt
                have XB5 := XB.below l5 XB.lt
                have O5 := O.kept l5
                have M5 := map_below M l5
                have bel5 := bel.trans (l5.mono bel.size)
                have dA := (Below.refl w5.heap.size w5).alloc (Nat.le_refl _) (.cells Z1 24)
                clear cX l5 O bel
                go_upto_region 14 with (refine blk_store _ rfl 24 _ _ rfl w5.heap.size _ rfl rfl _ _ (Blk.new w5 Z1 24) 1 tb_info rfl rfl (tb_one _ _ _) ?_; intro w6 X6 p6)
                have l6 := p6.below dA (Nat.le_refl _)
                have XB6 := XB5.below l6 XB5.lt
                have O6 := O5.kept l6
                have o6 := o5.kept l6
                have M6 := map_below M5 l6
                have bel6 := bel5.trans (l6.mono bel5.size)
                clear dA p6 l6 XB5 O5 o5 M5 bel5 XB M
                generalize w5.heap.size = x5 at *
                clear CR' o6
                go_wp2_with fail
                go_roundw
                case rel => exact ⟨i + 1, ta, tc, l, D, by go_num, by omega, XB6, O6, ne1, ne2, M6.mono (Nat.le_succ _), HB, bel6⟩
                case measure => simp [intOf]; omega
              · go_wp2_with (at_lookup; refine wpList_lookup_own_ok_int _ rfl _ _ MT rfl KT 3 .i64 law Try.underlying45 Try.underlying3 (zeroE _) Bm i D rfl M _ _ rfl HKey.out ?_; intro c hat hwc)
                have hfe := (HFe.out c hat).1 hh
                have HB' : Hid (Bk (rl l k) (D.del (ky k)) N) := HBR.out hfe
                have CR' := CR _ (Own.rd O)
                rw [hfe] at CR'
                clear HFe HBR hfe CR
                refine CR'.mono ?_
                rintro e w5 ⟨v5, rfl, o5, l5⟩
                obtain ⟨ta5, tc5, e5⟩ := (Own.rd o5).form
                obtain ⟨n5, hn5⟩ : ∃ q, q = (rl l k).length := ⟨_, rfl⟩
                rw [← hn5] at e5
                subst e5
                have HN5 : Hid (n5 = (rl l k).length) := hn5
                clear hn5
                have neX5 := tl.own_ne o5 hXlt
                have neB5 := tl.own_ne o5 hBlt
                have XB5 := XB.below l5 XB.lt
                have O5 := O.kept l5
                have M5 := map_below M l5
                have bel5 := bel.trans (l5.mono bel.size)
                have dA := (Below.refl w5.heap.size w5).alloc (Nat.le_refl _) (.cells Z1 24)
                clear cX l5 O bel
                go_upto_region 14 with (refine blk_store _ rfl 24 _ _ rfl w5.heap.size _ rfl rfl _ _ (Blk.new w5 Z1 24) 1 tb_info rfl rfl (tb_one _ _ _) ?_; intro w6 X6 p6)
                have l6 := p6.below dA (Nat.le_refl _)
                have XB6 := XB5.below l6 XB5.lt
                have O6 := O5.kept l6
                have o6 := o5.kept l6
                have M6 := map_below M5 l6
                have bel6 := bel5.trans (l6.mono bel5.size)
                clear dA p6 l6 XB5 O5 o5 M5 bel5 XB M
                generalize w5.heap.size = x5 at *
                have e5 : N = n5 := by rw [HN5.out]; exact HB'.out.len.symm
                clear CR'
                subst e5
                have cX6 := X6.cell
                go_wp2_with (first | (refine blk_store _ rfl 24 _ _ rfl X _ rfl rfl _ _ XB6 1 tb_info rfl rfl (tb_one _ _ _) ?_; intro w7 X7 p7; have M7 := map_but M6 p7 hMX; have o7 := o6.but p7 neX5; have bel7 := p7.below bel6 hX) | (at_delete; refine wpList_delete_own _ rfl _ _ MT KT rfl 3 law Try.underlying45 _ Bm i D rfl M7 _ _ rfl HKey.out ?_; intro w8 M8 t8))
                have g8 := t8.grown
                have X8 := blk_grown g8 X7 (by simpa using hMX)
                have o8 := own_grown o7 g8 neB5
                have bel8 := bel7.grown g8 bel7.size (fun q hq => by cases hq; exact hMw)
                clear X7 o7 bel7 t8 g8 M7 p7 O6 o6 XB6 M6 X6 bel6 cX6
                go_wp2_with fail
                go_roundw
                case rel => exact ⟨i + 1, ta5, tc5, rl l k, D.del (ky k), by go_num, by omega, X8, o8.mono (Nat.zero_le _), neX5, neB5, M8.mono (Nat.le_succ _), HB', bel8⟩
                case measure => simp [intOf]; omega
            · have h3' : (y.tmod 3 == 0) = false := by simpa using h3
              have HWf : Hid ((Lit.int .i64 y).wf = true) := by
                have := HYb.out
                show (Lit.int .i64 y).wf = true
                simp [Lit.wf, IntKind.min, IntKind.max, IntKind.signed, IntKind.bits]; omega
              clear h3 CR HBR
              cases hh : Maps.has D (ky k)
              · rcases HRoom.out with ⟨a, b⟩ | ⟨a, _, b⟩
                · have HPE : Hid (pe l k = 0) := a
                  have hroom : (Maps.size D : Int) < (N : Int) - 1 := by
                    rcases b with b | ⟨_, b⟩
                    · rw [hh] at b; cases b
                    · omega
                  clear HRoom a b
                  go_wp2_with (at_lookup; refine wpList_lookup_own_ok_int _ rfl _ _ MT rfl KT 3 .i64 law Try.underlying45 Try.underlying3 (zeroE _) Bm i D rfl M _ _ rfl HKey.out ?_; intro c hat hwc)
                  have CP' := CP _ (Own.rd O)
                  rw [HPE.out] at CP'
                  have HB' : Hid (Bk (pl l k y) (D.put (ky k) (el y)) N) := HBP.out HPE.out
                  clear HFe HBP CP HPE
                  refine CP'.mono ?_
                  rintro e w5 ⟨v5, rfl, o5, l5⟩
                  obtain ⟨ta5, tc5, e5⟩ := (Own.rd o5).form
                  obtain ⟨n5, hn5⟩ : ∃ q, q = (pl l k y).length := ⟨_, rfl⟩
                  rw [← hn5] at e5
                  subst e5
                  have HN5 : Hid (n5 = (pl l k y).length) := hn5
                  clear hn5
                  have neX5 := tl.own_ne o5 hXlt
                  have neB5 := tl.own_ne o5 hBlt
                  have XB5 := XB.below l5 XB.lt
                  have O5 := O.kept l5
                  have M5 := map_below M l5
                  have bel5 := bel.trans (l5.mono bel.size)
                  have dA := (Below.refl w5.heap.size w5).alloc (Nat.le_refl _) (.cells Z1 24)
                  clear cX l5 O bel
                  go_upto_region 20 with (refine blk_store _ rfl 24 _ _ rfl w5.heap.size _ rfl rfl _ _ (Blk.new w5 Z1 24) 1 tb_info rfl rfl (tb_one _ _ _) ?_; intro w6 X6 p6)
                  have l6 := p6.below dA (Nat.le_refl _)
                  have XB6 := XB5.below l6 XB5.lt
                  have O6 := O5.kept l6
                  have o6 := o5.kept l6
                  have M6 := map_below M5 l6
                  have bel6 := bel5.trans (l6.mono bel5.size)
                  clear dA p6 l6 XB5 O5 o5 M5 bel5 XB M
                  generalize w5.heap.size = x5 at *
                  have e5 : N = n5 := by rw [HN5.out]; exact HB'.out.len.symm
                  clear CP'
                  subst e5
                  have nn := ab.ne w6
                  have hlen : ∀ x : cls.In (ab.Ab w6), ∀ ty, (Builtin.len_ #[45] ty #[.map (some Bm)]).run Try.prog x.W = .ok (.int .i64 (Maps.size D)) x.W := fun x ty => (map_below M6 x.h).len Try.underlying45 ty
                  have hsh := HSH.out
                  have hw1 : IntKind.i64.wrap ((N : Int) - 1) = (N : Int) - 1 := by rw [IntKind.wrap_i64]; omega
                  refine ab.region (by kernel_rfl) (by kernel_rfl) ?_
                  repeat (go_big_quiet_step (fail))
                  refine wpQuiet_nil ?_
                  intro _ hx
                  obtain ⟨x, rfl⟩ := hx
                  have XB7 := XB6.below x.h XB6.lt
                  have X7 := X6.below x.h X6.lt
                  have O7 := O6.kept x.h
                  have o7 := o6.kept x.h
                  have M7 := map_below M6 x.h
                  have bel7 := bel6.trans (Below.mono x.h bel6.size)
                  clear XB6 X6 O6 o6 M6 bel6
                  generalize x.W = w7 at *
                  have cX7 := X7.cell
                  go_wp2_with (first | (refine blk_store _ rfl 24 _ _ rfl X _ rfl rfl _ _ XB7 1 tb_info rfl rfl (tb_one _ _ _) ?_; intro w8 X8 p8; have M8 := map_but M7 p8 hMX; have o8 := o7.but p8 neX5; have bel8 := p8.below bel7 hX) | (at_mapUpdate; refine wpList_mapUpdate_own _ rfl _ _ _ MT rfl KT 3 law Try.underlying45 _ Bm i D rfl M8 (by unfold maxLen; omega) _ _ _ rfl rfl HKey.out (el y) [] (plainElem_int Try.underlying3 HWf.out) ?_; intro w9 M9 g9))
                  have X9 := blk_grown g9 X8 (by simpa using hMX)
                  have o9 := own_grown o8 g9 neB5
                  have bel9 := bel8.grown g9 bel8.size (fun q hq => by cases hq; exact hMw)
                  clear X8 o8 bel8 g9 M8 p8 O7 o7 XB7 M7 X7 bel7 cX7
                  go_wp2_with fail
                  go_roundw
                  case rel => exact ⟨i + 1, ta5, tc5, pl l k y, D.put (ky k) (el y), by go_num, by omega, X9, o9.mono (Nat.zero_le _), neX5, neB5, M9, HB', bel9⟩
                  case measure => simp [intOf]; omega
                · have HPE : Hid (pe l k = 6) := a
                  have hroom : decide ((Maps.size D : Int) < (N : Int) - 1) = false := by simp; omega
                  clear HRoom a b
                  go_wp2_with (at_lookup; refine wpList_lookup_own_ok_int _ rfl _ _ MT rfl KT 3 .i64 law Try.underlying45 Try.underlying3 (zeroE _) Bm i D rfl M _ _ rfl HKey.out ?_; intro c hat hwc)
                  have CP' := CP _ (Own.rd O)
                  rw [HPE.out] at CP'
                  clear HFe HBP CP HPE
                  refine CP'.mono ?_
                  rintro e w5 ⟨v5, rfl, o5, l5⟩
                  obtain ⟨ta5, tc5, e5⟩ := (Own.rd o5).form
                  obtain ⟨n5, hn5⟩ : ∃ q, q = (pl l k y).length := ⟨_, rfl⟩
                  rw [← hn5] at e5
                  subst e5
                  have HN5 : Hid (n5 = (pl l k y).length) := hn5
                  clear hn5
                  have neX5 := tl.own_ne o5 hXlt
                  have neB5 := tl.own_ne o5 hBlt
                  have XB5 := XB.below l5 XB.lt
                  have O5 := O.kept l5
                  have M5 := map_below M l5
                  have bel5 := bel.trans (l5.mono bel.size)
                  have dA := (Below.refl w5.heap.size w5).alloc (Nat.le_refl _) (.cells Z1 24)
                  clear cX l5 O bel
                  go_upto_region 20 with (refine blk_store _ rfl 24 _ _ rfl w5.heap.size _ rfl rfl _ _ (Blk.new w5 Z1 24) 1 tb_info rfl rfl (tb_one _ _ _) ?_; intro w6 X6 p6)
                  have l6 := p6.below dA (Nat.le_refl _)
                  have XB6 := XB5.below l6 XB5.lt
                  have O6 := O5.kept l6
                  have o6 := o5.kept l6
                  have M6 := map_below M5 l6
                  have bel6 := bel5.trans (l6.mono bel5.size)
                  clear dA p6 l6 XB5 O5 o5 M5 bel5 XB M
                  generalize w5.heap.size = x5 at *
                  clear CP'
                  have nn := ab.ne w6
                  have hlen : ∀ x : cls.In (ab.Ab w6), ∀ ty, (Builtin.len_ #[45] ty #[.map (some Bm)]).run Try.prog x.W = .ok (.int .i64 (Maps.size D)) x.W := fun x ty => (map_below M6 x.h).len Try.underlying45 ty
                  have hsh := HSH.out
                  have hw1 : IntKind.i64.wrap ((N : Int) - 1) = (N : Int) - 1 := by rw [IntKind.wrap_i64]; omega
                  refine ab.region (by kernel_rfl) (by kernel_rfl) ?_
                  repeat (go_big_quiet_step (fail))
                  refine wpQuiet_nil ?_
                  intro _ hx
                  obtain ⟨x, rfl⟩ := hx
                  have XB7 := XB6.below x.h XB6.lt
                  have X7 := X6.below x.h X6.lt
                  have O7 := O6.kept x.h
                  have o7 := o6.kept x.h
                  have M7 := map_below M6 x.h
                  have bel7 := bel6.trans (Below.mono x.h bel6.size)
                  clear XB6 X6 O6 o6 M6 bel6
                  generalize x.W = w7 at *
                  clear o7
                  go_wp2_with fail
                  go_roundw
                  case rel => exact ⟨i + 1, ta, tc, l, D, by go_num, by omega, XB7, O7, ne1, ne2, M7.mono (Nat.le_succ _), HB, bel7⟩
                  case measure => simp [intOf]; omega
              · have HPE : Hid (pe l k = 0) := by
                  rcases HRoom.out with ⟨a, _⟩ | ⟨_, a, _⟩
                  · exact a
                  · rw [hh] at a; cases a
                clear HRoom
                go_wp2_with (at_lookup; refine wpList_lookup_own_ok_int _ rfl _ _ MT rfl KT 3 .i64 law Try.underlying45 Try.underlying3 (zeroE _) Bm i D rfl M _ _ rfl HKey.out ?_; intro c hat hwc)
                have CP' := CP _ (Own.rd O)
                rw [HPE.out] at CP'
                have HB' : Hid (Bk (pl l k y) (D.put (ky k) (el y)) N) := HBP.out HPE.out
                clear HFe HBP CP HPE
                refine CP'.mono ?_
                rintro e w5 ⟨v5, rfl, o5, l5⟩
                obtain ⟨ta5, tc5, e5⟩ := (Own.rd o5).form
                obtain ⟨n5, hn5⟩ : ∃ q, q = (pl l k y).length := ⟨_, rfl⟩
                rw [← hn5] at e5
                subst e5
                have HN5 : Hid (n5 = (pl l k y).length) := hn5
                clear hn5
                have neX5 := tl.own_ne o5 hXlt
                have neB5 := tl.own_ne o5 hBlt
                have XB5 := XB.below l5 XB.lt
                have O5 := O.kept l5
                have M5 := map_below M l5
                have bel5 := bel.trans (l5.mono bel.size)
                have dA := (Below.refl w5.heap.size w5).alloc (Nat.le_refl _) (.cells Z1 24)
                clear cX l5 O bel
                go_upto_region 20 with (refine blk_store _ rfl 24 _ _ rfl w5.heap.size _ rfl rfl _ _ (Blk.new w5 Z1 24) 1 tb_info rfl rfl (tb_one _ _ _) ?_; intro w6 X6 p6)
                have l6 := p6.below dA (Nat.le_refl _)
                have XB6 := XB5.below l6 XB5.lt
                have O6 := O5.kept l6
                have o6 := o5.kept l6
                have M6 := map_below M5 l6
                have bel6 := bel5.trans (l6.mono bel5.size)
                clear dA p6 l6 XB5 O5 o5 M5 bel5 XB M
                generalize w5.heap.size = x5 at *
                have e5 : N = n5 := by rw [HN5.out]; exact HB'.out.len.symm
                clear CP'
                subst e5
                have nn := ab.ne w6
                refine ab.region (by kernel_rfl) (by kernel_rfl) ?_
                repeat (go_big_quiet_step (fail))
                refine wpQuiet_nil ?_
                intro _ hx
                obtain ⟨x, rfl⟩ := hx
                have XB7 := XB6.below x.h XB6.lt
                have X7 := X6.below x.h X6.lt
                have O7 := O6.kept x.h
                have o7 := o6.kept x.h
                have M7 := map_below M6 x.h
                have bel7 := bel6.trans (Below.mono x.h bel6.size)
                clear XB6 X6 O6 o6 M6 bel6
                generalize x.W = w7 at *
                have cX7 := X7.cell
                go_wp2_with (first | (refine blk_store _ rfl 24 _ _ rfl X _ rfl rfl _ _ XB7 1 tb_info rfl rfl (tb_one _ _ _) ?_; intro w8 X8 p8; have M8 := map_but M7 p8 hMX; have o8 := o7.but p8 neX5; have bel8 := p8.below bel7 hX) | (at_mapUpdate; refine wpList_mapUpdate_own _ rfl _ _ _ MT rfl KT 3 law Try.underlying45 _ Bm i D rfl M8 (by unfold maxLen; omega) _ _ _ rfl rfl HKey.out (el y) [] (plainElem_int Try.underlying3 HWf.out) ?_; intro w9 M9 g9))
                have X9 := blk_grown g9 X8 (by simpa using hMX)
                have o9 := own_grown o8 g9 neB5
                have bel9 := bel8.grown g9 bel8.size (fun q hq => by cases hq; exact hMw)
                clear X8 o8 bel8 g9 M8 p8 O7 o7 XB7 M7 X7 bel7 cX7
                go_wp2_with fail
                go_roundw
                case rel => exact ⟨i + 1, ta5, tc5, pl l k y, D.put (ky k) (el y), by go_num, by omega, X9, o9.mono (Nat.zero_le _), neX5, neB5, M9, HB', bel9⟩
                case measure => simp [intOf]; omega
        · have hlt' : ¬ (i : Int) < (n : Int) := by omega
          obtain ⟨W, hW⟩ : ∃ W, W = wr := ⟨_, rfl⟩
          subst hW
          have CG := fun q u hu => get_any (.slice ta N tc) l q u hu
          have CT := fun u hu => rr.right_any (.slice ta N tc) l u hu HB.out.k
          have HBt : Hid (terr l = 0) := HB.out.t
          have HBl : Hid (l.length = N) := HB.out.len
          have HBs : Hid (Maps.size D = cnt l) := HB.out.sz
          rw [HBt.out] at CT
          clear HV HSH hi hlt ne1 ne2 hmm
          go_wp2_with fail
          go_loopw [129] (fun s129 wr => ∃ j : Nat, s129 = .int .i64 (j : Int) ∧ j ≤ n ∧ Below W.heap.size W wr) (fun j _ => n - (intOf j).toNat)
          case atStart => exact ⟨0, rfl, Nat.zero_le _, Below.refl _ _⟩
          case round =>
            obtain ⟨j, rfl, hj, bel2⟩ := hrel
            by_cases hlt : j < n
            · have hlt' : (j : Int) < (n : Int) := by omega
              obtain ⟨k, hki, hkk⟩ := HK.out j hlt
              obtain ⟨kb, ko, rfl, hkb, hkx⟩ := ck (by omega)
              have b3 := bel.trans (bel2.mono bel.size)
              have ckey := (b3.cell (p := ⟨kb, ko + j, none⟩) hkb).trans (hkx j k hki)
              have XB3 := XB.below bel2 XB.lt
              have O3 := O.kept bel2
              have M3 := map_below M bel2
              have cX := XB3.cell
              have HKey : Hid (keyOf Try.prog KT (.int .u64 (k : Int)) = some (ky k)) := key_of hkk
              have HYes : Hid (∀ c, D.atKey (ky k) (el 0) = el c → Maps.has D (ky k) = true → fe l k = 0 ∧ gv l k = c) := fun c hc h => bk_yes HB.out h hc
              have HNo : Hid (∀ c, D.atKey (ky k) (el 0) = el c → Maps.has D (ky k) = false → fe l k = 7 ∧ gv l k = c) := fun c hc h => bk_no HB.out h hc
              have CG' := CG k _ (Own.rd O3)
              clear CG CT XB O M bel hkx ck cn b3 HK
              go_wp2_with fail
              refine CG'.mono ?_
              rintro e w5 ⟨rfl, l5⟩
              have M5 := map_below M3 l5
              have bel5 := bel2.trans (l5.mono bel2.size)
              clear CG' M3 bel2 l5 XB3 O3 cX
              cases hh : Maps.has D (ky k)
              · go_wp2_with (at_lookup; refine wpList_lookup_own_ok_int _ rfl _ _ MT rfl KT 3 .i64 law Try.underlying45 Try.underlying3 (zeroE _) Bm i D rfl M5 _ _ rfl HKey.out ?_; intro c hat hwc; obtain ⟨f1, f2⟩ := HNo.out c hat hh; rw [f1, f2]; clear f1 f2 HYes HNo)
                go_roundw
                case rel => exact ⟨j + 1, by go_num, by omega, bel5⟩
                case measure => simp [intOf]; omega
              · go_wp2_with (at_lookup; refine wpList_lookup_own_ok_int _ rfl _ _ MT rfl KT 3 .i64 law Try.underlying45 Try.underlying3 (zeroE _) Bm i D rfl M5 _ _ rfl HKey.out ?_; intro c hat hwc; obtain ⟨f1, f2⟩ := HYes.out c hat hh; rw [f1, f2]; clear f1 f2 HYes HNo)
                go_roundw
                case rel => exact ⟨j + 1, by go_num, by omega, bel5⟩
                case measure => simp [intOf]; omega
            · have hlt' : ¬ (j : Int) < (n : Int) := by omega
              have XB3 := XB.below bel2 XB.lt
              have O3 := O.kept bel2
              have M3 := map_below M bel2
              have bel3 := bel.trans (bel2.mono bel.size)
              have cX := XB3.cell
              obtain ⟨V, hV⟩ : ∃ V, V = wr := ⟨_, rfl⟩
              subst hV
              clear CG XB O M bel bel2 ck cn HK HB
              have HC : Hid (∀ q, q < N → cnt (l.take (q + 1)) = cnt (l.take q) + (if (ax l q).u then 1 else 0)) := fun q hq => cnt_take (by rw [HBl.out]; exact hq)
              have HCe : Hid (cnt (l.take N) = Maps.size D) := by
                show cnt (l.take N) = Maps.size D
                rw [← HBl.out, List.take_length, HBs.out]
              have HCl : Hid (∀ q, cnt (l.take q) ≤ 64) := fun q => by
                have := cnt_le (l.take q)
                rw [List.length_take, HBl.out] at this
                omega
              have HCz : Hid (cnt (l.take 0) = 0) := rfl
              generalize hC : (fun q => cnt (l.take q)) = C at *
              have HC' : Hid (∀ q, q < N → C (q + 1) = C q + (if (ax l q).u then 1 else 0)) := by rw [← hC]; exact HC.out
              have HCe' : Hid (C N = Maps.size D) := by rw [← hC]; exact HCe.out
              have HCl' : Hid (∀ q, C q ≤ 64) := by rw [← hC]; exact HCl.out
              have HCz' : Hid (C 0 = 0) := by rw [← hC]; exact HCz.out
              clear HC HCe HCl HCz hC
              go_wp2_with fail
              go_loopw [25, 158] (fun s25 s158 wr => ∃ q : Nat, s158 = .int .i64 (q : Int) ∧ q ≤ N ∧ s25 = .int .i64 (C q : Int) ∧ Below V.heap.size V wr) (fun _ q _ => N - (intOf q).toNat)
              case atStart => exact ⟨0, rfl, Nat.zero_le _, by rw [HCz'.out]; rfl, Below.refl _ _⟩
              case round =>
                obtain ⟨q, rfl, hq, rfl, bel4⟩ := hrel
                have hcl := HCl'.out q
                by_cases hlq : q < N
                · have hlq' : (q : Int) < (N : Int) := by omega
                  have gq : l[q]? = some (ax l q) := ax_get (by rw [HBl.out]; exact hlq)
                  obtain ⟨g, rfl⟩ := own_at O3 (by rw [HBl.out]; omega)
                  have O4 := O3.kept bel4
                  have hS : Hid (C (q + 1) = C q + (if (ax l q).u then 1 else 0)) := HC'.out q hlq
                  generalize ax l q = s at *
                  obtain ⟨su, sk, sv⟩ := s
                  have bel5 := bel4.trans (((Below.refl wr.heap.size wr).alloc (Nat.le_refl _) (.cells #[.bool su, .int .u64 (sk : Int), .int .i64 sv] 40)).mono bel4.size)
                  clear CT XB3 O3 M3 bel3 cX HC' HCe' HCl' HCz'
                  cases su
                  · go_upto_region 38 with (refine rws.elem_load SK _ rfl _ rfl 0 g N tc l O4 q _ rfl rfl _ gq #[.bool false, .int .u64 (sk : Int), .int .i64 sv] rfl _ Try.underlying40 rfl ?_)
                    go_wp2_with fail
                    go_roundw
                    case rel => exact ⟨q + 1, by go_num, by omega, by rw [hS.out]; rfl, bel5⟩
                    case measure => simp [intOf]; omega
                  · go_upto_region 38 with (refine rws.elem_load SK _ rfl _ rfl 0 g N tc l O4 q _ rfl rfl _ gq #[.bool true, .int .u64 (sk : Int), .int .i64 sv] rfl _ Try.underlying40 rfl ?_)
                    go_wp2_with fail
                    go_roundw
                    case rel => exact ⟨q + 1, by go_num, by omega, by rw [hS.out]; go_num, bel5⟩
                    case measure => simp [intOf]; omega
                · have hlq' : ¬ (q : Int) < (N : Int) := by omega
                  have e : q = N := by omega
                  have HCq : Hid (C q = Maps.size D) := by rw [e]; exact HCe'.out
                  have M4 := map_below M3 bel4
                  have c4 := (XB3.below bel4 XB3.lt).cell
                  have b4 := bel3.trans (bel4.mono bel3.size)
                  have CT4 := CT _ (Own.rd (O3.kept bel4))
                  rw [HCq.out]
                  clear CT XB3 O3 M3 bel3 cX HC' HCe' HCl' HCz' e bel4 hcl
                  go_wp2_with (at_len; refine wpList_len_own _ rfl _ MT rfl KT 3 Try.underlying45 _ Bm i D rfl M4 ?_)
                  refine CT4.mono ?_
                  rintro e w9 ⟨rfl, l9⟩
                  have b9 := b4.trans (l9.mono b4.size)
                  clear CT4 c4 M4 l9 b4
                  go_wp2_with fail
                  go_ret
                  exact ⟨rfl, b9⟩
    · have hn' : (300 : Int) < (n : Int) := by omega
      clear X3 o3 ltO neX HB0 HK HV HSH ck cn
      go_wp2_with fail
      refine (tl.lives _).mono ?_
      rintro e w4 ⟨rfl, l4⟩
      have d4 := d3.trans (l4.mono d3.size)
      go_wp2_with fail
      go_ret
      exact ⟨rfl, d4⟩
  · have hb' : rb b = false := by simpa using hb
    have CN := fun w => new_no b w hb'
    clear hr hk hs hv hb hb'
    generalize ks.length = n at *
    generalize vs.length = m at *
    go_enter Try.func5, Try.ntmps5
    go_wp2_with fail
    refine (CN _).mono ?_
    rintro e w1 ⟨rfl, l1⟩
    have dA := (Below.refl w1.heap.size w1).alloc (Nat.le_refl _) (.cells Z1 24)
    go_upto_region 2 with (refine blk_store _ rfl 24 _ _ rfl w1.heap.size _ rfl rfl _ _ (Blk.new w1 Z1 24) 1 tb_info rfl rfl (tb_one _ _ _) ?_; intro w2 X2 p2)
    have l2 := p2.below dA (Nat.le_refl _)
    have d2 := l1.trans (l2.mono l1.size)
    clear dA p2 l1 l2 X2 CN
    generalize w1.heap.size = X at *
    go_wp2_with fail
    refine (tl.lives _).mono ?_
    rintro e w3 ⟨rfl, l3⟩
    have d3 := d2.trans (l3.mono d2.size)
    clear l3 d2
    go_wp2_with fail
    refine (tl.lives _).mono ?_
    rintro e w4 ⟨rfl, l4⟩
    have d4 := d3.trans (l4.mono d3.size)
    go_wp2_with fail
    go_ret
    exact ⟨rfl, d4⟩
end Go.Proofs.Ytmnmjmbfnecmoaa.tbi
