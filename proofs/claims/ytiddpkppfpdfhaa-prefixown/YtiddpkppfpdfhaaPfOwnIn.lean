/- The walk through custkeep.PrefixOwn. -/
import Derived.Test.YtiddpkppfpdfhaaPfLives
namespace Go.Proofs.Ytiddpkppfpdfhaa.pf
open Go.ChangeShapes Go.WideShapes Go.ChangeAt Go.RowKit Go.BigFrame
open Go.Proofs.Ytiddpkppfpdfhaa Go.Proofs.Ytiddpkppfpdfhaa.pm Go.Proofs.Ytiddpkppfpdfhaa.boxes Go.Proofs.Ytiddpkppfpdfhaa.rwr Go.Proofs.Ytiddpkppfpdfhaa.rwat
open Go.Proofs.Ytiddpkppfpdfhaa.rws (Knd Own)

/-- a row of nodes' cells that may be written all over -/
def Wr (B : Nat) (u : World) (v : Value) (cap : Nat) : Prop := (v = .slice none 0 0 ∧ cap = 0) ∨ ∃ g n cur, v = .slice (some ⟨g, 0, none⟩) n cap ∧ n ≤ cap ∧ B ≤ g ∧ Blk u g cur DK.e ∧ cur.size = cap * 4 ∧ flL cur.toList ∧ cap ≤ maxLen
theorem fo_wr {w : World} {B : Nat} {v : Value} {l : List Nd} (h : FO w B v l) : ∃ cap, Wr B w v cap := by
  rcases h.1.2 with ⟨rfl, _⟩ | ⟨g, cap, cur, rfl, hB, hg, hnc, hm, hcs, _⟩
  · exact ⟨0, Or.inl ⟨rfl, rfl⟩⟩
  · exact ⟨cap, Or.inr ⟨g, _, cur, rfl, hnc, hB, hg, hcs, h.2 g cur _ _ rfl hg, hm⟩⟩
theorem Wr.mono {B B' : Nat} {u : World} {v : Value} {cap : Nat} (h : Wr B u v cap) (hb : B' ≤ B) : Wr B' u v cap := by
  rcases h with h | ⟨g, n, cur, a, b, c, d⟩
  · exact Or.inl h
  · exact Or.inr ⟨g, n, cur, a, b, Nat.le_trans hb c, d⟩
theorem Wr.below {B : Nat} {u u' : World} {v : Value} {cap : Nat} (h : Wr B u v cap) (hb : Below u.heap.size u u') : Wr B u' v cap := by
  rcases h with h | ⟨g, n, cur, a, b, c, d, e⟩
  · exact Or.inl h
  · exact Or.inr ⟨g, n, cur, a, b, c, d.below hb d.lt, e⟩
theorem Wr.but {B g : Nat} {u u' : World} {v : Value} {cap : Nat} (h : Wr B u v cap) (hb : But g u u') (hne : v.ownBlock ≠ some g) : Wr B u' v cap := by
  rcases h with h | ⟨g', n, cur, rfl, b, c, d, e⟩
  · exact Or.inl h
  · refine Or.inr ⟨g', n, cur, rfl, b, c, hb.blk d (fun e => hne ?_), e⟩
    subst e; rfl
set_option maxRecDepth 20000 in
set_option maxHeartbeats 8000000 in
theorem own_walk (v : Value) (ns : List Nd) (a : Nat) (l : Int) (w : World) (hr : Rd DK w v ns) (ha : a < 4294967296) (hlen : ns.length * 32 ≤ 140737488351232) :
    Calls Try.prog 8 #[.agg (TC v), .agg (NC a l)] w fun e w' => e = .returned (.bool true) ∧ Below w.heap.size w w' := by
  have C1 := fun u hu => clone_any v ns u hu (by omega)
  have C2 := fun u hu => put_full v ns a l 5 u hu ha
  have C3 := fun u hu => rem_full v ns a l u hu
  have EQ : ∀ u x y, Rd DK u x ns → Rd DK u y ns → Calls Try.prog 26 #[x, y] u fun e w' => e = .returned (.bool true) ∧ Below u.heap.size u w' := fun u x y h1 h2 => by
    have := equal_any u x y ns ns h1 h2
    rwa [decide_eq_true rfl] at this
  clear ha hlen
  generalize putE ns a l 5 = PE at *
  generalize putL ns a l 5 = PL at *
  generalize remE ns a l = RE at *
  generalize remL ns a l = RL at *
  have b0 := ((Below.refl w.heap.size w).alloc (Nat.le_refl _) (.cells (TC v) 24)).alloc (by simp) (.cells (NC a l) 27)
  have F0 := (Blk.new w (TC v) 24).alloc (.cells (NC a l) 27)
  have F1 := Blk.newAt (w.alloc (.cells (TC v) 24)) (NC a l) 27 (b := w.heap.size + 1) (by simp)
  replace hr := hr.below b0
  obtain ⟨sa, sc, e_v⟩ := hr.form
  generalize hn : ns.length = n at *
  have HN : Hid (ns.length = n) := hn
  clear hn
  subst e_v
  go_enter Try.func8, Try.ntmps8
  go_upto_region 1 with fail
  generalize hV : (w.alloc (.cells (TC (.slice sa n sc)) 24)).alloc (.cells (NC a l) 27) = V at *
  clear hV
  have C := C1 V hr
  have cF0 := F0.cell
  go_wp2_with fail
  refine C.mono ?_
  rintro e W1 ⟨v1, rfl, O1, z⟩
  clear cF0
  replace F0 := F0.below z F0.lt
  replace F1 := F1.below z F1.lt
  replace hr := hr.below z
  replace b0 := b0.trans (z.mono b0.size)
  clear z
  clear C C1
  have q1 := Own.rd O1
  clear O1
  obtain ⟨sa1, sc1, e_v1⟩ := (q1).form
  rw [HN.out] at e_v1
  subst e_v1
  have B1 := Below.refl W1.heap.size W1
  have F1' := F0
  have d1 := b0
  have r1 := hr
  have p1 := q1
  have C := C2 W1 hr
  have cF0 := F0.cell
  have cF1 := F1.cell
  go_wp2_with fail
  refine C.mono ?_
  rintro e W2 ⟨v2, rfl, O2, z⟩
  clear cF0 cF1
  obtain ⟨ca, R2⟩ := fo_wr O2
  obtain ⟨sa2, sc2, e_v2⟩ := (FO.rd O2).form
  generalize PL.length = n2 at *
  subst e_v2
  have ltA : ∀ g, (Value.slice sa2 n2 sc2).ownBlock = some g → g < W2.heap.size := fo_lt O2
  replace B1 := B1.trans (z.mono B1.size)
  replace F0 := F0.below z F0.lt
  replace F1 := F1.below z F1.lt
  replace hr := hr.below z
  replace q1 := q1.below z
  replace b0 := b0.trans (z.mono b0.size)
  clear z C C2 O2
  have dA := (Below.refl W2.heap.size W2).alloc (Nat.le_refl _) (.cells Z1 24)
  go_upto_region 3 with (refine blk_store _ rfl 24 _ _ rfl W2.heap.size (TC (.slice sa2 n2 sc2)) rfl rfl _ _ (Blk.new W2 Z1 24) 1 tr_info rfl rfl (tc_one _ _ _) ?_; intro V2 A1 p)
  have zz := p.below dA (Nat.le_refl _)
  clear dA p
  replace R2 := R2.below zz
  replace ltA := fun g hg => Nat.lt_of_lt_of_le (ltA g hg) zz.size
  replace B1 := B1.trans (zz.mono B1.size)
  replace F0 := F0.below zz F0.lt
  replace F1 := F1.below zz F1.lt
  replace hr := hr.below zz
  replace q1 := q1.below zz
  replace b0 := b0.trans (zz.mono b0.size)
  clear zz
  have C := C3 V2 hr
  have cF0 := F0.cell
  have cF1 := F1.cell
  go_wp2_with fail
  refine C.mono ?_
  rintro e W3 ⟨v3, rfl, O3, z⟩
  clear cF0 cF1
  obtain ⟨cb, R3⟩ := fo_wr O3
  obtain ⟨sa3, sc3, e_v3⟩ := (FO.rd O3).form
  generalize RL.length = n3 at *
  subst e_v3
  have neAB : ∀ g, (Value.slice sa2 n2 sc2).ownBlock = some g → (Value.slice sa3 n3 sc3).ownBlock ≠ some g := fun g hg => fo_ne O3 (ltA g hg)
  replace R3 := R3.mono B1.size
  replace R2 := R2.below z
  replace B1 := B1.trans (z.mono B1.size)
  replace F0 := F0.below z F0.lt
  replace F1 := F1.below z F1.lt
  replace A1 := A1.below z A1.lt
  replace hr := hr.below z
  replace q1 := q1.below z
  replace b0 := b0.trans (z.mono b0.size)
  clear z C C3 O3 ltA
  have dA := (Below.refl W3.heap.size W3).alloc (Nat.le_refl _) (.cells Z1 24)
  go_upto_region 4 with (refine blk_store _ rfl 24 _ _ rfl W3.heap.size (TC (.slice sa3 n3 sc3)) rfl rfl _ _ (Blk.new W3 Z1 24) 1 tr_info rfl rfl (tc_one _ _ _) ?_; intro V3 A2 p)
  have zz := p.below dA (Nat.le_refl _)
  clear dA p
  replace R2 := R2.below zz
  replace R3 := R3.below zz
  replace B1 := B1.trans (zz.mono B1.size)
  replace F0 := F0.below zz F0.lt
  replace F1 := F1.below zz F1.lt
  replace A1 := A1.below zz A1.lt
  replace hr := hr.below zz
  replace q1 := q1.below zz
  replace b0 := b0.trans (zz.mono b0.size)
  clear zz
  generalize W2.heap.size = xa at *
  generalize W3.heap.size = xb at *
  have C := EQ V3 _ _ hr q1
  have cF0 := F0.cell
  go_wp2_with fail
  refine C.mono ?_
  rintro e W4 ⟨rfl, z⟩
  clear cF0
  replace R2 := R2.below z
  replace R3 := R3.below z
  replace B1 := B1.trans (z.mono B1.size)
  replace F0 := F0.below z F0.lt
  replace F1 := F1.below z F1.lt
  replace A1 := A1.below z A1.lt
  replace A2 := A2.below z A2.lt
  replace hr := hr.below z
  replace q1 := q1.below z
  replace b0 := b0.trans (z.mono b0.size)
  clear z C
  have R2' : Wr W1.heap.size W4 (.slice sa2 n2 sc2) ca := R2
  clear R2
  have cA1 := A1.cell
  have cA2 := A2.cell
  have ix0 : ∀ u, (Instr.index 59 (.agg #[.slice sa2 n2 sc2, .slice sa3 n3 sc3]) (.int .i64 0)).run Try.prog u = .ok (.slice sa2 n2 sc2) u := fun u => by simp [Instr.index, run_underlying Try.underlying59, asIntOf, go_sem]
  have ix1 : ∀ u, (Instr.index 59 (.agg #[.slice sa2 n2 sc2, .slice sa3 n3 sc3]) (.int .i64 1)).run Try.prog u = .ok (.slice sa3 n3 sc3) u := fun u => by simp [Instr.index, run_underlying Try.underlying59, asIntOf, go_sem]
  go_wp2_with fail
  clear cA1 cA2
  generalize hB1 : W1.heap.size = B at *
  have HB : Hid (W1.heap.size = B) := hB1
  clear hB1
  clear A1 A2 F0 F1 b0 hr q1
  go_loopw [38] (fun s38 wr => (s38 = .int .i64 0 ∧ Wr B wr (.slice sa2 n2 sc2) ca ∧ Wr B wr (.slice sa3 n3 sc3) cb ∧ Below B W1 wr) ∨ (s38 = .int .i64 1 ∧ Wr B wr (.slice sa3 n3 sc3) cb ∧ Below B W1 wr) ∨ (s38 = .int .i64 2 ∧ Below B W1 wr)) (fun i _ => 2 - (intOf i).toNat)
  case atStart => exact Or.inl ⟨rfl, R2', R3, B1⟩
  case round =>
    clear R2' R3 B1
    rcases hrel with ⟨rfl, hA, hB, bel⟩ | ⟨rfl, hB, bel⟩ | ⟨rfl, bel⟩
    · rcases hA with ⟨e, rfl⟩ | ⟨g, nr, cur, e, hnc, hgB, hg, hcs, hfl, hcm⟩
      · simp only [Value.slice.injEq] at e
        obtain ⟨rfl, rfl, rfl⟩ := e
        go_wp2_with fail
        go_loopg [47] 0 (fun g i wr => i = .int .i64 0 ∧ Wr B wr (.slice sa3 n3 sc3) cb ∧ Below B W1 wr)
        case atStart => exact ⟨rfl, hB, bel⟩
        case round =>
          obtain ⟨rfl, hB, bel⟩ := hrel
          go_wp2_with fail
          go_roundw
          case rel => exact Or.inr (Or.inl ⟨rfl, hB, bel⟩)
          case measure => simp [intOf]
      · simp only [Value.slice.injEq] at e
        obtain ⟨rfl, rfl, rfl⟩ := e
        have hcm' : sc2 ≤ 9223372036854775807 := by unfold maxLen at hcm; omega
        have neB := neAB g rfl
        go_wp2_with fail
        go_loopw [47] (fun s47 wr => ∃ (q : Nat) (cur : Array Value), s47 = .int .i64 (q : Int) ∧ q ≤ sc2 ∧ Blk wr g cur DK.e ∧ cur.size = sc2 * 4 ∧ flL cur.toList ∧ Wr B wr (.slice sa3 n3 sc3) cb ∧ Below B W1 wr) (fun i _ => sc2 - (intOf i).toNat)
        case atStart => exact ⟨0, cur, rfl, Nat.zero_le _, hg, hcs, hfl, hB, bel⟩
        case round =>
          clear hg hcs bel hB hfl
          obtain ⟨q, cu, rfl, hq, gk, ck, fk, hB, bel⟩ := hrel
          by_cases hlt : q < sc2
          · have hlt' : (q : Int) < (sc2 : Int) := by omega
            obtain ⟨y, hy⟩ := fk q (by rw [Array.length_toList, ck]; omega)
            rw [Array.getElem?_toList] at hy
            have cc : wr.cell? ⟨g, q * 4 + 3, none⟩ = some (.int .i64 y) := (gk.cell _).trans hy
            have fz := gk.free (q * 4 + 3)
            have HK : Hid (∀ u : Int, Blk (wr.setCell ⟨g, q * 4 + 3, none⟩ (.int .i64 u)) g (cu.setIfInBounds (q * 4 + 3) (.int .i64 u)) DK.e ∧ (cu.setIfInBounds (q * 4 + 3) (.int .i64 u)).size = sc2 * 4 ∧ flL (cu.setIfInBounds (q * 4 + 3) (.int .i64 u)).toList ∧ Wr B (wr.setCell ⟨g, q * 4 + 3, none⟩ (.int .i64 u)) (.slice sa3 n3 sc3) cb ∧ Below B W1 (wr.setCell ⟨g, q * 4 + 3, none⟩ (.int .i64 u))) := fun u => by
              refine ⟨gk.setCell _ _, by rw [Array.size_setIfInBounds]; exact ck, ?_, hB.but (but_setCell _ _ _ _) neB, (but_setCell _ _ _ _).below bel hgB⟩
              rw [Array.toList_setIfInBounds]
              exact flL_set fk q 3 _ (by decide) fun _ => ⟨u, rfl⟩
            clear gk ck fk hy hB bel
            go_wp2_with fail
            go_roundw
            case rel =>
              obtain ⟨k1, k2, k3, k4, k5⟩ := HK.out _
              exact ⟨q + 1, _, by go_num, by omega, k1, k2, k3, k4, k5⟩
            case measure => simp [intOf]; omega
          · have hlt' : ¬ (q : Int) < (sc2 : Int) := by omega
            clear gk ck fk
            go_wp2_with fail
            go_roundw
            case rel => exact Or.inr (Or.inl ⟨rfl, hB, bel⟩)
            case measure => simp [intOf]
    · rcases hB with ⟨e, rfl⟩ | ⟨g, nr, cur, e, hnc, hgB, hg, hcs, hfl, hcm⟩
      · simp only [Value.slice.injEq] at e
        obtain ⟨rfl, rfl, rfl⟩ := e
        go_wp2_with fail
        go_loopg [47] 0 (fun g i wr => i = .int .i64 0 ∧ Below B W1 wr)
        case atStart => exact ⟨rfl, bel⟩
        case round =>
          obtain ⟨rfl, bel⟩ := hrel
          go_wp2_with fail
          go_roundw
          case rel => exact Or.inr (Or.inr ⟨rfl, bel⟩)
          case measure => simp [intOf]
      · simp only [Value.slice.injEq] at e
        obtain ⟨rfl, rfl, rfl⟩ := e
        have hcm' : sc3 ≤ 9223372036854775807 := by unfold maxLen at hcm; omega
        go_wp2_with fail
        go_loopw [47] (fun s47 wr => ∃ (q : Nat) (cur : Array Value), s47 = .int .i64 (q : Int) ∧ q ≤ sc3 ∧ Blk wr g cur DK.e ∧ cur.size = sc3 * 4 ∧ flL cur.toList ∧ Below B W1 wr) (fun i _ => sc3 - (intOf i).toNat)
        case atStart => exact ⟨0, cur, rfl, Nat.zero_le _, hg, hcs, hfl, bel⟩
        case round =>
          clear hg hcs bel hfl
          obtain ⟨q, cu, rfl, hq, gk, ck, fk, bel⟩ := hrel
          by_cases hlt : q < sc3
          · have hlt' : (q : Int) < (sc3 : Int) := by omega
            obtain ⟨y, hy⟩ := fk q (by rw [Array.length_toList, ck]; omega)
            rw [Array.getElem?_toList] at hy
            have cc : wr.cell? ⟨g, q * 4 + 3, none⟩ = some (.int .i64 y) := (gk.cell _).trans hy
            have fz := gk.free (q * 4 + 3)
            have HK : Hid (∀ u : Int, Blk (wr.setCell ⟨g, q * 4 + 3, none⟩ (.int .i64 u)) g (cu.setIfInBounds (q * 4 + 3) (.int .i64 u)) DK.e ∧ (cu.setIfInBounds (q * 4 + 3) (.int .i64 u)).size = sc3 * 4 ∧ flL (cu.setIfInBounds (q * 4 + 3) (.int .i64 u)).toList ∧ Below B W1 (wr.setCell ⟨g, q * 4 + 3, none⟩ (.int .i64 u))) := fun u => by
              refine ⟨gk.setCell _ _, by rw [Array.size_setIfInBounds]; exact ck, ?_, (but_setCell _ _ _ _).below bel hgB⟩
              rw [Array.toList_setIfInBounds]
              exact flL_set fk q 3 _ (by decide) fun _ => ⟨u, rfl⟩
            clear gk ck fk hy bel
            go_wp2_with fail
            go_roundw
            case rel =>
              obtain ⟨k1, k2, k3, k5⟩ := HK.out _
              exact ⟨q + 1, _, by go_num, by omega, k1, k2, k3, k5⟩
            case measure => simp [intOf]; omega
          · have hlt' : ¬ (q : Int) < (sc3 : Int) := by omega
            clear gk ck fk
            go_wp2_with fail
            go_roundw
            case rel => exact Or.inr (Or.inr ⟨rfl, bel⟩)
            case measure => simp [intOf]
    · have bel0 : Below W1.heap.size W1 wr := by rw [HB.out]; exact bel
      have F7 := F1'.below bel0 F1'.lt
      have d7 := d1.trans (bel0.mono d1.size)
      have r7 := r1.below bel0
      have q7 := p1.below bel0
      clear bel bel0 F1' d1 r1 p1 HB ix0 ix1 neAB
      go_wp2_with fail
      refine (lives _).mono ?_
      rintro e w8 ⟨rfl, l8⟩
      have d8 := d7.trans (l8.mono d7.size)
      have EQ8 := EQ _ _ _ (r7.below l8) (q7.below l8)
      have c8 := (F7.below l8 F7.lt).cell
      clear F7 d7 r7 q7 l8 EQ
      go_wp2_with fail
      refine EQ8.mono ?_
      rintro e w9 ⟨rfl, l9⟩
      have d9 := d8.trans (l9.mono d8.size)
      clear EQ8 c8 l9 d8
      go_wp2_with fail
      go_ret
      exact ⟨rfl, d9⟩
end Go.Proofs.Ytiddpkppfpdfhaa.pf
