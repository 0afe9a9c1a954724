/- The walk through custkeep.TableOwn. -/
import Derived.Test.YtmnmjmbfnecmoaaTabLives
import Derived.Test.YtmnmjmbfnecmoaaRawSt
namespace Go.Proofs.Ytmnmjmbfnecmoaa.toi
open Go.ChangeShapes Go.WideShapes Go.ChangeAt Go.RowKit Go.BigFrame
open Go.Proofs.Ytmnmjmbfnecmoaa Go.Proofs.Ytmnmjmbfnecmoaa.tm Go.Proofs.Ytmnmjmbfnecmoaa.tb Go.Proofs.Ytmnmjmbfnecmoaa.tsh Go.Proofs.Ytmnmjmbfnecmoaa.tg Go.Proofs.Ytmnmjmbfnecmoaa.tp Go.Proofs.Ytmnmjmbfnecmoaa.tr Go.Proofs.Ytmnmjmbfnecmoaa.tk Go.Proofs.Ytmnmjmbfnecmoaa.boxes Go.Proofs.Ytmnmjmbfnecmoaa.rwr Go.Proofs.Ytmnmjmbfnecmoaa.rawst
open Go.Proofs.Ytmnmjmbfnecmoaa.rws (Knd Own)

/-- a row that may be written all over -/
def Wr (B : Nat) (u : World) (v : Value) (cap : Nat) : Prop := (v = .slice none 0 0 ∧ cap = 0) ∨ ∃ g n cur, v = .slice (some ⟨g, 0, none⟩) n cap ∧ n ≤ cap ∧ B ≤ g ∧ Blk u g cur SK.e ∧ cur.size = cap * 3 ∧ cap ≤ maxLen
theorem own_wr {w : World} {B : Nat} {v : Value} {l : List St} (h : Own SK w B v l) : ∃ cap, Wr B w v cap := by
  rcases h.2 with ⟨rfl, _⟩ | ⟨g, cap, cur, rfl, hB, hg, hnc, hm, hcs, _⟩
  · exact ⟨0, Or.inl ⟨rfl, rfl⟩⟩
  · exact ⟨cap, Or.inr ⟨g, _, cur, rfl, hnc, hB, hg, hcs, hm⟩⟩
theorem Wr.mono {B B' : Nat} {u : World} {v : Value} {cap : Nat} (h : Wr B u v cap) (hb : B' ≤ B) : Wr B' u v cap := by
  rcases h with h | ⟨g, n, cur, a, b, c, d⟩
  · exact Or.inl h
  · exact Or.inr ⟨g, n, cur, a, b, Nat.le_trans hb c, d⟩
theorem Wr.below {B : Nat} {u u' : World} {v : Value} {cap : Nat} (h : Wr B u v cap) (hb : Below u.heap.size u u') : Wr B u' v cap := by
  rcases h with h | ⟨g, n, cur, a, b, c, d, e⟩
  · exact Or.inl h
  · exact Or.inr ⟨g, n, cur, a, b, c, d.below hb d.lt, e⟩
theorem Wr.but {B g : Nat} {u u' : World} {v : Value} {cap : Nat} (h : Wr B u v cap) (hb : But g u u') (hne : v.ownBlock ≠ some g) : Wr B u' v cap := by
  rcases h with h | ⟨g', n, cur, rfl, b, c, d, e⟩
  · exact Or.inl h
  · refine Or.inr ⟨g', n, cur, rfl, b, c, hb.blk d (fun e => hne ?_), e⟩
    subst e; rfl
set_option maxRecDepth 20000 in
set_option maxHeartbeats 8000000 in
theorem walk (v : Value) (l : List St) (k : Nat) (w : World) (hr : Rd SK w v l) (hlen : l.length * 24 ≤ 140737488351232) :
    Calls Try.prog 8 #[.agg #[v], .int .u64 (k : Int)] w fun e w' => e = .returned (.bool true) ∧ Below w.heap.size w w' := by
  have C1 := fun u hu => clone_any v l u hu (by omega)
  have C2 : ∀ u, Rd SK u v l → Calls Try.prog 16 #[.agg #[v], .int .u64 (k : Int), .int .i64 1] u fun e w' => ∃ v', e = .returned (.tuple #[.agg #[v'], .int .i64 (pe l k)]) ∧ Own SK w' u.heap.size v' (pl l k 1) ∧ Below u.heap.size u w' := fun u hu => put_any v l k 1 u hu
  have C3 := fun u hu => remove_any v l k u hu
  have EQ := fun u x y h1 h2 => equal_same u x y l h1 h2
  generalize pe l k = PE at *
  generalize fe l k = FE at *
  generalize pl l k 1 = PL at *
  generalize rl l k = RL at *
  have F0 := Blk.new w #[v] 24
  have d0 := (Below.refl w.heap.size w).alloc (Nat.le_refl _) (.cells #[v] 24)
  have r0 := hr.below d0
  obtain ⟨sa, sc, rfl⟩ := hr.form
  clear hr hlen
  generalize hn : l.length = n at *
  have HN : Hid (l.length = n) := hn
  clear hn
  have c0 := F0.cell
  go_enter Try.func8, Try.ntmps8
  go_wp2_with fail
  refine (C1 _ r0).mono ?_
  rintro e w1 ⟨v1, rfl, o1, l1⟩
  have F1 := F0.below l1 F0.lt
  have d1 := d0.trans (l1.mono d0.size)
  have r1 := r0.below l1
  have q1 := Own.rd o1
  obtain ⟨sa1, sc1, rfl⟩ := q1.form
  rw [HN.out] at q1 ⊢
  clear C1 F0 d0 r0 l1 o1 c0
  have c0 := F1.cell
  go_wp2_with fail
  refine (C2 _ r1).mono ?_
  rintro e w2 ⟨v2, rfl, o2, l2⟩
  obtain ⟨ca, W2'⟩ := own_wr o2
  obtain ⟨sa2, sc2, rfl⟩ := (Own.rd o2).form
  obtain ⟨n2, hn2⟩ : ∃ n, n = PL.length := ⟨_, rfl⟩
  rw [← hn2] at W2' ⊢
  have F2' := F1.below l2 F1.lt
  have l12' := l2
  have r2' := r1.below l2
  have ltA : ∀ g, (Value.slice sa2 n2 sc2).ownBlock = some g → g < w2.heap.size := fun g hg => by
    rcases W2' with ⟨e, _⟩ | ⟨g', n', cur, e, _, _, hg', _⟩
    · rw [e] at hg; simp [Value.ownBlock] at hg
    · rw [e] at hg; simp [Value.ownBlock] at hg; subst hg; exact hg'.lt
  clear C2 l2 o2 c0 hn2
  have dA := (Below.refl w2.heap.size w2).alloc (Nat.le_refl _) (.cells Z1 24)
  go_upto_region 3 with (refine blk_store _ rfl 24 _ _ rfl w2.heap.size _ rfl rfl _ _ (Blk.new w2 Z1 24) 1 tb_info rfl rfl (tb_one _ _ _) ?_; intro w3 X3 p3)
  have l3 := p3.below dA (Nat.le_refl _)
  have F3 := F2'.below l3 F2'.lt
  have l13 := l12'.trans (l3.mono l12'.size)
  have r3 := r2'.below l3
  have W3 := W2'.below l3
  have ltA3 : ∀ g, (Value.slice sa2 n2 sc2).ownBlock = some g → g < w3.heap.size := fun g hg => Nat.lt_of_lt_of_le (ltA g hg) l3.size
  clear F2' l12' r2' W2' dA p3 l3 ltA
  have c0 := F3.cell
  go_wp2_with fail
  refine (C3 _ r3).mono ?_
  rintro e w4 ⟨v4, rfl, o4, l4⟩
  obtain ⟨cb, W4b'⟩ := own_wr o4
  obtain ⟨sa4, sc4, rfl⟩ := (Own.rd o4).form
  obtain ⟨n4, hn4⟩ : ∃ n, n = RL.length := ⟨_, rfl⟩
  rw [← hn4] at W4b' o4 ⊢
  have neAB : ∀ g, (Value.slice sa2 n2 sc2).ownBlock = some g → (Value.slice sa4 n4 sc4).ownBlock ≠ some g := fun g hg => tl.own_ne o4 (ltA3 g hg)
  have F4' := F3.below l4 F3.lt
  have l14' := l13.trans (l4.mono l13.size)
  have r4' := r3.below l4
  have W4a' := W3.below l4
  have X4' := X3.below l4 X3.lt
  have W4b'' := W4b'.mono l13.size
  clear C3 F3 l13 r3 W3 X3 l4 o4 W4b' ltA3 c0 hn4
  have dA := (Below.refl w4.heap.size w4).alloc (Nat.le_refl _) (.cells Z1 24)
  go_upto_region 4 with (refine blk_store _ rfl 24 _ _ rfl w4.heap.size _ rfl rfl _ _ (Blk.new w4 Z1 24) 1 tb_info rfl rfl (tb_one _ _ _) ?_; intro w5 Y5 p5)
  have l5 := p5.below dA (Nat.le_refl _)
  have F5 := F4'.below l5 F4'.lt
  have l15 := l14'.trans (l5.mono l14'.size)
  have r5 := r4'.below l5
  have Wa5 := W4a'.below l5
  have Wb5 := W4b''.below l5
  have X5 := X4'.below l5 X4'.lt
  have q5 := q1.below l15
  clear F4' l14' r4' W4a' W4b'' X4' dA p5 l5
  generalize w2.heap.size = x2 at *
  generalize w4.heap.size = x4 at *
  have c0 := F5.cell
  go_wp2_with fail
  refine (EQ _ _ _ r5 q5).mono ?_
  rintro e w6 ⟨rfl, l6⟩
  have l16 := l15.trans (l6.mono l15.size)
  have Wa6 := Wa5.below l6
  have Wb6 := Wb5.below l6
  have cx := (X5.below l6 X5.lt).cell
  have cy := (Y5.below l6 Y5.lt).cell
  clear F5 r5 q5 Wa5 Wb5 X5 Y5 l6 l15 c0
  have ix0 : ∀ u, (Instr.index 53 (.agg #[.slice sa2 n2 sc2, .slice sa4 n4 sc4]) (.int .i64 0)).run Try.prog u = .ok (.slice sa2 n2 sc2) u := fun u => by simp [Instr.index, run_underlying Try.underlying53, asIntOf, go_sem]
  have ix1 : ∀ u, (Instr.index 53 (.agg #[.slice sa2 n2 sc2, .slice sa4 n4 sc4]) (.int .i64 1)).run Try.prog u = .ok (.slice sa4 n4 sc4) u := fun u => by simp [Instr.index, run_underlying Try.underlying53, asIntOf, go_sem]
  go_wp2_with fail
  clear cx cy
  generalize hB1 : w1.heap.size = B1 at *
  have HB1 : Hid (w1.heap.size = B1) := hB1
  clear hB1
  go_loopw [38] (fun s38 wr => (s38 = .int .i64 0 ∧ Wr B1 wr (.slice sa2 n2 sc2) ca ∧ Wr B1 wr (.slice sa4 n4 sc4) cb ∧ Below B1 w1 wr) ∨ (s38 = .int .i64 1 ∧ Wr B1 wr (.slice sa4 n4 sc4) cb ∧ Below B1 w1 wr) ∨ (s38 = .int .i64 2 ∧ Below B1 w1 wr)) (fun i _ => 2 - (intOf i).toNat)
  case atStart => exact Or.inl ⟨rfl, Wa6, Wb6, l16⟩
  case round =>
    clear Wa6 Wb6 l16
    rcases hrel with ⟨rfl, hA, hB, bel⟩ | ⟨rfl, hB, bel⟩ | ⟨rfl, bel⟩
    · rcases hA with ⟨e, rfl⟩ | ⟨g, nr, cur, e, hnc, hgB, hg, hcs, hcm⟩
      · simp only [Value.slice.injEq] at e
        obtain ⟨rfl, rfl, rfl⟩ := e
        go_wp2_with fail
        go_loopg [47] 0 (fun g i wr => i = .int .i64 0 ∧ Wr B1 wr (.slice sa4 n4 sc4) cb ∧ Below B1 w1 wr)
        case atStart => exact ⟨rfl, hB, bel⟩
        case round =>
          obtain ⟨rfl, hB, bel⟩ := hrel
          go_wp2_with fail
          go_roundw
          case rel => exact Or.inr (Or.inl ⟨rfl, hB, bel⟩)
          case measure => simp [intOf]
      · simp only [Value.slice.injEq] at e
        obtain ⟨rfl, rfl, rfl⟩ := e
        have hcm' : sc2 ≤ 9223372036854775807 := by unfold maxLen at hcm; omega
        have neB := neAB g rfl
        go_wp2_with fail
        go_loopw [47] (fun s47 wr => ∃ (q : Nat) (cur : Array Value), s47 = .int .i64 (q : Int) ∧ q ≤ sc2 ∧ Blk wr g cur SK.e ∧ cur.size = sc2 * 3 ∧ Wr B1 wr (.slice sa4 n4 sc4) cb ∧ Below B1 w1 wr) (fun i _ => sc2 - (intOf i).toNat)
        case atStart => exact ⟨0, cur, rfl, Nat.zero_le _, hg, hcs, hB, bel⟩
        case round =>
          clear hg hcs bel hB
          obtain ⟨q, cu, rfl, hq, gk, ck, hB, bel⟩ := hrel
          by_cases hlt : q < sc2
          · have hlt' : (q : Int) < (sc2 : Int) := by omega
            go_wp2_with (refine raw_store SK _ rfl _ _ rfl g (q * 3) cu gk rfl (by rw [ck]; show q * 3 + 3 ≤ _; omega) ⟨false, 0, 99⟩ rfl ?_; intro W' cu' gk' ck' bu)
            have bel' := bu.below bel hgB
            rw [ck] at ck'
            have hB' := hB.but bu neB
            clear bel gk ck bu hB
            go_wp2_with fail
            go_roundw
            case rel => exact ⟨q + 1, cu', by go_num, by omega, gk', ck', hB', bel'⟩
            case measure => simp [intOf]; omega
          · have hlt' : ¬ (q : Int) < (sc2 : Int) := by omega
            clear gk ck
            go_wp2_with fail
            go_roundw
            case rel => exact Or.inr (Or.inl ⟨rfl, hB, bel⟩)
            case measure => simp [intOf]
    · rcases hB with ⟨e, rfl⟩ | ⟨g, nr, cur, e, hnc, hgB, hg, hcs, hcm⟩
      · simp only [Value.slice.injEq] at e
        obtain ⟨rfl, rfl, rfl⟩ := e
        go_wp2_with fail
        go_loopg [47] 0 (fun g i wr => i = .int .i64 0 ∧ Below B1 w1 wr)
        case atStart => exact ⟨rfl, bel⟩
        case round =>
          obtain ⟨rfl, bel⟩ := hrel
          go_wp2_with fail
          go_roundw
          case rel => exact Or.inr (Or.inr ⟨rfl, bel⟩)
          case measure => simp [intOf]
      · simp only [Value.slice.injEq] at e
        obtain ⟨rfl, rfl, rfl⟩ := e
        have hcm' : sc4 ≤ 9223372036854775807 := by unfold maxLen at hcm; omega
        go_wp2_with fail
        go_loopw [47] (fun s47 wr => ∃ (q : Nat) (cur : Array Value), s47 = .int .i64 (q : Int) ∧ q ≤ sc4 ∧ Blk wr g cur SK.e ∧ cur.size = sc4 * 3 ∧ Below B1 w1 wr) (fun i _ => sc4 - (intOf i).toNat)
        case atStart => exact ⟨0, cur, rfl, Nat.zero_le _, hg, hcs, bel⟩
        case round =>
          clear hg hcs bel
          obtain ⟨q, cu, rfl, hq, gk, ck, bel⟩ := hrel
          by_cases hlt : q < sc4
          · have hlt' : (q : Int) < (sc4 : Int) := by omega
            go_wp2_with (refine raw_store SK _ rfl _ _ rfl g (q * 3) cu gk rfl (by rw [ck]; show q * 3 + 3 ≤ _; omega) ⟨false, 0, 99⟩ rfl ?_; intro W' cu' gk' ck' bu)
            have bel' := bu.below bel hgB
            rw [ck] at ck'
            clear bel gk ck bu
            go_wp2_with fail
            go_roundw
            case rel => exact ⟨q + 1, cu', by go_num, by omega, gk', ck', bel'⟩
            case measure => simp [intOf]; omega
          · have hlt' : ¬ (q : Int) < (sc4 : Int) := by omega
            clear gk ck
            go_wp2_with fail
            go_roundw
            case rel => exact Or.inr (Or.inr ⟨rfl, bel⟩)
            case measure => simp [intOf]
    · have bel0 : Below w1.heap.size w1 wr := by rw [HB1.out]; exact bel
      have F7 := F1.below bel0 F1.lt
      have d7 := d1.trans (bel0.mono d1.size)
      have r7 := r1.below bel0
      have q7 := q1.below bel0
      clear bel bel0 F1 d1 r1 q1 HB1 ix0 ix1 neAB
      go_wp2_with fail
      refine (tl.lives _).mono ?_
      rintro e w8 ⟨rfl, l8⟩
      have d8 := d7.trans (l8.mono d7.size)
      have EQ8 := EQ _ _ _ (r7.below l8) (q7.below l8)
      have c8 := (F7.below l8 F7.lt).cell
      clear F7 d7 r7 q7 l8 EQ
      go_wp2_with fail
      refine EQ8.mono ?_
      rintro e w9 ⟨rfl, l9⟩
      have d9 := d8.trans (l9.mono d8.size)
      clear EQ8 c8 l9 d8
      go_wp2_with fail
      go_ret
      exact ⟨rfl, d9⟩
end Go.Proofs.Ytmnmjmbfnecmoaa.toi
