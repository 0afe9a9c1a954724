/- The walk through custkeep.AgesOwn. -/
import Derived.Test.YtehiipnafckjbaaAgLives2
import Derived.Test.YtehiipnafckjbaaRawSt
namespace Go.Proofs.Ytehiipnafckjbaa.agoi
open Go.ChangeShapes Go.WideShapes Go.ChangeAt Go.RowKit Go.BigFrame
open Go.Proofs.Ytehiipnafckjbaa Go.Proofs.Ytehiipnafckjbaa.am Go.Proofs.Ytehiipnafckjbaa.ag Go.Proofs.Ytehiipnafckjbaa.ash Go.Proofs.Ytehiipnafckjbaa.agt Go.Proofs.Ytehiipnafckjbaa.agl Go.Proofs.Ytehiipnafckjbaa.agu Go.Proofs.Ytehiipnafckjbaa.agx Go.Proofs.Ytehiipnafckjbaa.agv Go.Proofs.Ytehiipnafckjbaa.boxes Go.Proofs.Ytehiipnafckjbaa.rwr Go.Proofs.Ytehiipnafckjbaa.rawst
open Go.Proofs.Ytehiipnafckjbaa.rws (Knd Own)

/-- a row that may be written all over -/
def Wr (B : Nat) (u : World) (v : Value) (cap : Nat) : Prop := (v = .slice none 0 0 ∧ cap = 0) ∨ ∃ g n cur, v = .slice (some ⟨g, 0, none⟩) n cap ∧ n ≤ cap ∧ B ≤ g ∧ Blk u g cur SK.e ∧ cur.size = cap * 2 ∧ cap ≤ maxLen
theorem own_wr {w : World} {B : Nat} {v : Value} {l : List Sy} (h : Own SK w B v l) : ∃ sa n cap, v = .slice sa n cap ∧ Wr B w (.slice sa n cap) cap := by
  rcases h.2 with ⟨rfl, _⟩ | ⟨g, cap, cur, rfl, hB, hg, hnc, hm, hcs, _⟩
  · exact ⟨none, 0, 0, rfl, Or.inl ⟨rfl, rfl⟩⟩
  · exact ⟨_, _, cap, rfl, Or.inr ⟨g, _, cur, rfl, hnc, hB, hg, hcs, hm⟩⟩
theorem Wr.mono {B B' : Nat} {u : World} {v : Value} {cap : Nat} (h : Wr B u v cap) (hb : B' ≤ B) : Wr B' u v cap := by
  rcases h with h | ⟨g, n, cur, a, b, c, d⟩
  · exact Or.inl h
  · exact Or.inr ⟨g, n, cur, a, b, Nat.le_trans hb c, d⟩
theorem Wr.below {B : Nat} {u u' : World} {v : Value} {cap : Nat} (h : Wr B u v cap) (hb : Below u.heap.size u u') : Wr B u' v cap := by
  rcases h with h | ⟨g, n, cur, a, b, c, d, e⟩
  · exact Or.inl h
  · exact Or.inr ⟨g, n, cur, a, b, c, d.below hb d.lt, e⟩
theorem Wr.but {B g : Nat} {u u' : World} {v : Value} {cap : Nat} (h : Wr B u v cap) (hb : But g u u') (hne : v.ownBlock ≠ some g) : Wr B u' v cap := by
  rcases h with h | ⟨g', n, cur, rfl, b, c, d, e⟩
  · exact Or.inl h
  · refine Or.inr ⟨g', n, cur, rfl, b, c, hb.blk d (fun e => hne ?_), e⟩
    subst e; rfl
theorem Wr.lt {B : Nat} {u : World} {v : Value} {cap : Nat} (h : Wr B u v cap) : ∀ g, v.ownBlock = some g → B ≤ g ∧ g < u.heap.size := fun g hg => by
  rcases h with ⟨rfl, _⟩ | ⟨g', n, cur, rfl, b, c, d, e⟩
  · simp [Value.ownBlock] at hg
  · simp [Value.ownBlock] at hg
    subst hg
    exact ⟨c, d.lt⟩
theorem apart {B B' : Nat} {u u' : World} {v v' : Value} {c c' : Nat} (h : Wr B u v c) (h' : Wr B' u' v' c') (hb : u.heap.size ≤ B') : ∀ g, v.ownBlock = some g → v'.ownBlock ≠ some g := fun g hg e => by
  have := (h.lt g hg).2
  have := (h'.lt g e).1
  omega
set_option maxRecDepth 20000 in
set_option maxHeartbeats 8000000 in
theorem walk (n : Int) (v : Value) (l : List Sy) (r now : Int) (w : World) (hr : Rd SK w v l) (hlen : l.length * 16 ≤ 140737488355328) :
    Calls Try.prog 7 #[.agg (AC n v), .int .i64 r, .int .i64 now] w fun e w' => e = .returned (.bool true) ∧ Below w.heap.size w w' := by
  have C0 := fun u hu => clone_any v l u hu hlen
  have C1 := fun u hu => take_any n v l now u hu
  have C2 := fun u hu => touch_any n v l r now u hu
  have C3 := fun u hu => leave_any n v l r u hu
  have C4 := fun u hu => expire_any n v l now u hu
  have EQ := fun u x y h1 h2 => equal_same u x y l h1 h2
  generalize te n l now = E1 at *
  generalize tn n l now = N1 at *
  generalize tr n l now = T1 at *
  generalize tl n l now = L1 at *
  generalize ue n l r now = E2 at *
  generalize un n l r now = N2 at *
  generalize ul n l r now = L2 at *
  generalize le n l r = E3 at *
  generalize ln n l r = N3 at *
  generalize ll n l r = L3 at *
  generalize aerr n l = E4 at *
  generalize xn n l = N4 at *
  generalize xl n l now = L4 at *
  generalize xg n l now = G4 at *
  have F := Blk.new w (AC n v) 24
  have d := (Below.refl w.heap.size w).alloc (Nat.le_refl _) (.cells (AC n v) 24)
  have R := hr.below d
  obtain ⟨sa, sc, rfl⟩ := hr.form
  clear hr hlen
  generalize hn : l.length = m at *
  have HN : Hid (l.length = m) := hn
  clear hn
  have c0 := F.cell
  go_enter Try.func7, Try.ntmps7
  go_wp2_with fail
  refine (C0 _ R).mono ?_
  rintro e w1 ⟨v1, rfl, o1, z⟩
  have F_1 := F.below z F.lt
  have d_1 := d.trans (z.mono d.size)
  have R_1 := R.below z
  have Q_1 := Own.rd o1
  obtain ⟨sa1, sc1, rfl⟩ := Q_1.form
  rw [HN.out] at Q_1 ⊢
  clear C0 F d R z o1 c0
  have F_1x := F_1
  have d_1x := d_1
  have R_1x := R_1
  have k_1 : Below w1.heap.size w1 w1 := Below.refl _ _
  have c0 := F_1.cell
  go_wp2_with fail
  refine (C1 _ R_1).mono ?_
  rintro e w2 ⟨v2, rfl, o, z⟩
  obtain ⟨s1, q1, p1, rfl, W0⟩ := own_wr o
  have V0 := W0.mono (B' := w1.heap.size) k_1.size
  have F_2 := F_1.below z F_1.lt
  have R_2 := R_1.below z
  have d_2 := d_1.trans (z.mono d_1.size)
  have k_2 := k_1.trans (z.mono k_1.size)
  clear F_1 R_1 d_1 k_1 c0 z C1 W0 o
  have dA := (Below.refl w2.heap.size w2).alloc (Nat.le_refl _) (.cells Z2 24)
  go_upto_region 3 with (refine blk_store _ rfl 24 _ _ rfl w2.heap.size _ rfl rfl _ _ (Blk.new w2 Z2 24) 2 ag_info rfl rfl (ag_one _ _ _ _) ?_; intro w3 X p)
  have dd := p.below dA (Nat.le_refl _)
  have F_3 := F_2.below dd F_2.lt
  have R_3 := R_2.below dd
  have W1_3 := V0.below dd
  have d_3 := d_2.trans (dd.mono d_2.size)
  have k_3 := k_2.trans (dd.mono k_2.size)
  clear F_2 R_2 V0 d_2 k_2 dA p dd
  generalize w2.heap.size = x1 at *
  have c0 := F_3.cell
  go_wp2_with fail
  refine (C2 _ R_3).mono ?_
  rintro e w4 ⟨v4, rfl, o, z⟩
  obtain ⟨s2, q2, p2, rfl, W0⟩ := own_wr o
  have ap12 := apart W1_3 W0 (Nat.le_refl _)
  have V0 := W0.mono (B' := w1.heap.size) k_3.size
  have F_4 := F_3.below z F_3.lt
  have X_4 := X.below z X.lt
  have R_4 := R_3.below z
  have W1_4 := W1_3.below z
  have d_4 := d_3.trans (z.mono d_3.size)
  have k_4 := k_3.trans (z.mono k_3.size)
  clear F_3 X R_3 W1_3 d_3 k_3 c0 z C2 W0 o
  have dA := (Below.refl w4.heap.size w4).alloc (Nat.le_refl _) (.cells Z2 24)
  go_upto_region 4 with (refine blk_store _ rfl 24 _ _ rfl w4.heap.size _ rfl rfl _ _ (Blk.new w4 Z2 24) 2 ag_info rfl rfl (ag_one _ _ _ _) ?_; intro w5 Y p)
  have dd := p.below dA (Nat.le_refl _)
  have F_5 := F_4.below dd F_4.lt
  have X_5 := X_4.below dd X_4.lt
  have R_5 := R_4.below dd
  have W1_5 := W1_4.below dd
  have W2_5 := V0.below dd
  have d_5 := d_4.trans (dd.mono d_4.size)
  have k_5 := k_4.trans (dd.mono k_4.size)
  clear F_4 X_4 R_4 W1_4 V0 d_4 k_4 dA p dd
  generalize w4.heap.size = x2 at *
  have c0 := F_5.cell
  go_wp2_with fail
  refine (C3 _ R_5).mono ?_
  rintro e w6 ⟨v6, rfl, o, z⟩
  obtain ⟨s3, q3, p3, rfl, W0⟩ := own_wr o
  have ap13 := apart W1_5 W0 (Nat.le_refl _)
  have ap23 := apart W2_5 W0 (Nat.le_refl _)
  have V0 := W0.mono (B' := w1.heap.size) k_5.size
  have F_6 := F_5.below z F_5.lt
  have X_6 := X_5.below z X_5.lt
  have Y_6 := Y.below z Y.lt
  have R_6 := R_5.below z
  have W1_6 := W1_5.below z
  have W2_6 := W2_5.below z
  have d_6 := d_5.trans (z.mono d_5.size)
  have k_6 := k_5.trans (z.mono k_5.size)
  clear F_5 X_5 Y R_5 W1_5 W2_5 d_5 k_5 c0 z C3 W0 o
  have dA := (Below.refl w6.heap.size w6).alloc (Nat.le_refl _) (.cells Z2 24)
  go_upto_region 5 with (refine blk_store _ rfl 24 _ _ rfl w6.heap.size _ rfl rfl _ _ (Blk.new w6 Z2 24) 2 ag_info rfl rfl (ag_one _ _ _ _) ?_; intro w7 Z p)
  have dd := p.below dA (Nat.le_refl _)
  have F_7 := F_6.below dd F_6.lt
  have X_7 := X_6.below dd X_6.lt
  have Y_7 := Y_6.below dd Y_6.lt
  have R_7 := R_6.below dd
  have W1_7 := W1_6.below dd
  have W2_7 := W2_6.below dd
  have W3_7 := V0.below dd
  have d_7 := d_6.trans (dd.mono d_6.size)
  have k_7 := k_6.trans (dd.mono k_6.size)
  clear F_6 X_6 Y_6 R_6 W1_6 W2_6 V0 d_6 k_6 dA p dd
  generalize w6.heap.size = x3 at *
  have c0 := F_7.cell
  go_wp2_with fail
  refine (C4 _ R_7).mono ?_
  rintro e w8 ⟨v8, g8, rfl, o, og, z⟩
  obtain ⟨s4, q4, p4, rfl, W0⟩ := own_wr o
  obtain ⟨ga, gc, rfl⟩ := (Own.rd og).form
  generalize G4.length = gq at *
  have ap14 := apart W1_7 W0 (Nat.le_refl _)
  have ap24 := apart W2_7 W0 (Nat.le_refl _)
  have ap34 := apart W3_7 W0 (Nat.le_refl _)
  have V0 := W0.mono (B' := w1.heap.size) k_7.size
  have F_8 := F_7.below z F_7.lt
  have X_8 := X_7.below z X_7.lt
  have Y_8 := Y_7.below z Y_7.lt
  have Z_8 := Z.below z Z.lt
  have R_8 := R_7.below z
  have W1_8 := W1_7.below z
  have W2_8 := W2_7.below z
  have W3_8 := W3_7.below z
  have d_8 := d_7.trans (z.mono d_7.size)
  have k_8 := k_7.trans (z.mono k_7.size)
  clear F_7 X_7 Y_7 Z R_7 W1_7 W2_7 W3_7 d_7 k_7 c0 z C4 W0 o og
  have dA := (Below.refl w8.heap.size w8).alloc (Nat.le_refl _) (.cells Z2 24)
  go_upto_region 6 with (refine blk_store _ rfl 24 _ _ rfl w8.heap.size _ rfl rfl _ _ (Blk.new w8 Z2 24) 2 ag_info rfl rfl (ag_one _ _ _ _) ?_; intro w9 U p)
  have dd := p.below dA (Nat.le_refl _)
  have F_9 := F_8.below dd F_8.lt
  have X_9 := X_8.below dd X_8.lt
  have Y_9 := Y_8.below dd Y_8.lt
  have Z_9 := Z_8.below dd Z_8.lt
  have R_9 := R_8.below dd
  have W1_9 := W1_8.below dd
  have W2_9 := W2_8.below dd
  have W3_9 := W3_8.below dd
  have W4_9 := V0.below dd
  have d_9 := d_8.trans (dd.mono d_8.size)
  have k_9 := k_8.trans (dd.mono k_8.size)
  clear F_8 X_8 Y_8 Z_8 R_8 W1_8 W2_8 W3_8 V0 d_8 k_8 dA p dd
  generalize w8.heap.size = x4 at *
  have Q_2 := Q_1.below k_9
  have c0 := F_9.cell
  go_wp2_with fail
  refine (EQ _ _ _ R_9 Q_2).mono ?_
  rintro e w10 ⟨rfl, z⟩
  have F_10 := F_9.below z F_9.lt
  have X_10 := X_9.below z X_9.lt
  have Y_10 := Y_9.below z Y_9.lt
  have Z_10 := Z_9.below z Z_9.lt
  have U_10 := U.below z U.lt
  have R_10 := R_9.below z
  have W1_10 := W1_9.below z
  have W2_10 := W2_9.below z
  have W3_10 := W3_9.below z
  have W4_10 := W4_9.below z
  have d_10 := d_9.trans (z.mono d_9.size)
  have k_10 := k_9.trans (z.mono k_9.size)
  clear F_9 X_9 Y_9 Z_9 U R_9 W1_9 W2_9 W3_9 W4_9 d_9 k_9 c0 z Q_2
  have c1 := X_10.cell
  have c2 := Y_10.cell
  have c3 := Z_10.cell
  have c4 := U_10.cell
  obtain ⟨f, f0, f1, f2, f3⟩ : ∃ f : Nat → Option Addr × Nat × Nat, f 0 = (s1, q1, p1) ∧ f 1 = (s2, q2, p2) ∧ f 2 = (s3, q3, p3) ∧ f 3 = (s4, q4, p4) := ⟨fun k => match k with | 0 => (s1, q1, p1) | 1 => (s2, q2, p2) | 2 => (s3, q3, p3) | _ => (s4, q4, p4), rfl, rfl, rfl, rfl⟩
  have four : ∀ k, k < 4 → k = 0 ∨ k = 1 ∨ k = 2 ∨ k = 3 := fun k hk => by omega
  have HW : Hid (∀ k, k < 4 → Wr w1.heap.size w10 (.slice (f k).1 (f k).2.1 (f k).2.2) (f k).2.2) := fun k hk => by
    rcases four k hk with rfl | rfl | rfl | rfl
    · rw [f0]; exact W1_10
    · rw [f1]; exact W2_10
    · rw [f2]; exact W3_10
    · rw [f3]; exact W4_10
  have HNe : Hid (∀ j k, j < k → k < 4 → ∀ g, (Value.slice (f j).1 (f j).2.1 (f j).2.2).ownBlock = some g → (Value.slice (f k).1 (f k).2.1 (f k).2.2).ownBlock ≠ some g) := fun j k hjk hk => by
    have : (j = 0 ∧ k = 1) ∨ (j = 0 ∧ k = 2) ∨ (j = 0 ∧ k = 3) ∨ (j = 1 ∧ k = 2) ∨ (j = 1 ∧ k = 3) ∨ (j = 2 ∧ k = 3) := by omega
    rcases this with ⟨rfl, rfl⟩ | ⟨rfl, rfl⟩ | ⟨rfl, rfl⟩ | ⟨rfl, rfl⟩ | ⟨rfl, rfl⟩ | ⟨rfl, rfl⟩
    · rw [f0, f1]; exact ap12
    · rw [f0, f2]; exact ap13
    · rw [f0, f3]; exact ap14
    · rw [f1, f2]; exact ap23
    · rw [f1, f3]; exact ap24
    · rw [f2, f3]; exact ap34
  have HIx : Hid (∀ k : Nat, k < 4 → ∀ u, (Instr.index 51 (.agg #[.slice s1 q1 p1, .slice s2 q2 p2, .slice s3 q3 p3, .slice s4 q4 p4]) (.int .i64 (k : Int))).run Try.prog u = .ok (.slice (f k).1 (f k).2.1 (f k).2.2) u) := fun k hk u => by
    rcases four k hk with rfl | rfl | rfl | rfl
    · rw [f0]; simp [Instr.index, run_underlying Try.underlying51, asIntOf, go_sem]
    · rw [f1]; simp [Instr.index, run_underlying Try.underlying51, asIntOf, go_sem]
    · rw [f2]; simp [Instr.index, run_underlying Try.underlying51, asIntOf, go_sem]
    · rw [f3]; simp [Instr.index, run_underlying Try.underlying51, asIntOf, go_sem]
  clear f0 f1 f2 f3 four ap12 ap13 ap14 ap23 ap24 ap34 W1_10 W2_10 W3_10 W4_10
  clear F_10 R_10 d_10
  go_wp2_with fail
  clear c1 c2 c3 c4
  generalize hB1 : w1.heap.size = B1 at *
  have HB1 : Hid (w1.heap.size = B1) := hB1
  clear hB1
  go_loopw [65] (fun s65 wr => ∃ j : Nat, s65 = .int .i64 (j : Int) ∧ j ≤ 4 ∧ Hid (∀ k, j ≤ k → k < 4 → Wr B1 wr (.slice (f k).1 (f k).2.1 (f k).2.2) (f k).2.2) ∧ Below B1 w1 wr) (fun i _ => 4 - (intOf i).toNat)
  case atStart => exact ⟨0, rfl, by omega, fun k _ hk => HW.out k hk, k_10⟩
  case round =>
    clear HW k_10
    obtain ⟨j, rfl, hj, HW, bel⟩ := hrel
    by_cases hj4 : j < 4
    · have hj4' : (j : Int) < 4 := by omega
      have hI := HIx.out j hj4
      have hW := HW.out j (Nat.le_refl _) hj4
      have HN2 : Hid (∀ k, j < k → k < 4 → ∀ g, (Value.slice (f j).1 (f j).2.1 (f j).2.2).ownBlock = some g → (Value.slice (f k).1 (f k).2.1 (f k).2.2).ownBlock ≠ some g) := fun k h1 h2 => HNe.out j k h1 h2
      have HW2 : Hid (∀ k, j + 1 ≤ k → k < 4 → Wr B1 wr (.slice (f k).1 (f k).2.1 (f k).2.2) (f k).2.2) := fun k h1 h2 => HW.out k (by omega) h2
      obtain ⟨⟨fa, fn, fc⟩, hf⟩ : ∃ x, x = f j := ⟨_, rfl⟩
      rw [← hf] at hI hW HN2
      simp only at hI hW HN2
      clear hf HW HNe HIx
      rcases hW with ⟨e, e2⟩ | ⟨g, nr, cur, e, hnc, hgB, hg, hcs, hcm⟩
      · simp only [Value.slice.injEq] at e
        obtain ⟨rfl, rfl, rfl⟩ := e
        clear e2 HN2
        go_wp2_with fail
        go_loopg [74] 0 (fun g i wr => i = .int .i64 0 ∧ Hid (∀ k, j + 1 ≤ k → k < 4 → Wr B1 wr (.slice (f k).1 (f k).2.1 (f k).2.2) (f k).2.2) ∧ Below B1 w1 wr)
        case atStart => exact ⟨rfl, HW2, bel⟩
        case round =>
          clear HW2 bel
          obtain ⟨rfl, HW2, bel⟩ := hrel
          go_wp2_with fail
          go_roundw
          case rel => exact ⟨j + 1, by go_num, by omega, HW2, bel⟩
          case measure => simp [intOf]; omega
      · simp only [Value.slice.injEq] at e
        obtain ⟨rfl, rfl, _⟩ := e
        have hcm' : fc ≤ 9223372036854775807 := by unfold maxLen at hcm; omega
        have HN3 : Hid (∀ k, j < k → k < 4 → (Value.slice (f k).1 (f k).2.1 (f k).2.2).ownBlock ≠ some g) := fun k h1 h2 => HN2.out k h1 h2 g rfl
        clear HN2
        go_wp2_with fail
        go_loopw [74] (fun s74 wr => ∃ (q : Nat) (cur : Array Value), s74 = .int .i64 (q : Int) ∧ q ≤ fc ∧ Blk wr g cur SK.e ∧ cur.size = fc * 2 ∧ Hid (∀ k, j + 1 ≤ k → k < 4 → Wr B1 wr (.slice (f k).1 (f k).2.1 (f k).2.2) (f k).2.2) ∧ Below B1 w1 wr) (fun i _ => fc - (intOf i).toNat)
        case atStart => exact ⟨0, cur, rfl, Nat.zero_le _, hg, hcs, HW2, bel⟩
        case round =>
          clear hg hcs bel HW2
          obtain ⟨q, cu, rfl, hq, gk, ck, HW2, bel⟩ := hrel
          by_cases hlt : q < fc
          · have hlt' : (q : Int) < (fc : Int) := by omega
            go_wp2_with (refine raw_store SK _ rfl _ _ rfl g (q * 2) cu gk rfl (by rw [ck]; show q * 2 + 2 ≤ _; omega) ⟨99, 0⟩ rfl ?_; intro W' cu' gk' ck' bu)
            have bel' := bu.below bel hgB
            rw [ck] at ck'
            have HW3 : Hid (∀ k, j + 1 ≤ k → k < 4 → Wr B1 W' (.slice (f k).1 (f k).2.1 (f k).2.2) (f k).2.2) := fun k h1 h2 => (HW2.out k h1 h2).but bu (HN3.out k h1 h2)
            clear bel gk ck bu HW2
            go_wp2_with fail
            go_roundw
            case rel => exact ⟨q + 1, cu', by go_num, by omega, gk', ck', HW3, bel'⟩
            case measure => simp [intOf]; omega
          · have hlt' : ¬ (q : Int) < (fc : Int) := by omega
            clear gk ck HN3
            go_wp2_with fail
            go_roundw
            case rel => exact ⟨j + 1, by go_num, by omega, HW2, bel⟩
            case measure => simp [intOf]; omega
    · have hj4' : ¬ (j : Int) < 4 := by omega
      have bel0 : Below w1.heap.size w1 wr := by rw [HB1.out]; exact bel
      have F7 := F_1x.below bel0 F_1x.lt
      have d7 := d_1x.trans (bel0.mono d_1x.size)
      have r7 := R_1x.below bel0
      have q7 := Q_1.below bel0
      clear bel bel0 F_1x d_1x R_1x Q_1 HB1 HIx HNe HW
      go_wp2_with fail
      refine (agv.lives _).mono ?_
      rintro e w11 ⟨rfl, z⟩
      have d8 := d7.trans (z.mono d7.size)
      have EQ8 := EQ _ _ _ (r7.below z) (q7.below z)
      have c8 := (F7.below z F7.lt).cell
      clear F7 d7 r7 q7 z EQ
      go_wp2_with fail
      refine EQ8.mono ?_
      rintro e w12 ⟨rfl, z⟩
      have d9 := d8.trans (z.mono d8.size)
      clear EQ8 c8 z d8
      go_wp2_with fail
      go_ret
      exact ⟨rfl, d9⟩
end Go.Proofs.Ytehiipnafckjbaa.agoi
