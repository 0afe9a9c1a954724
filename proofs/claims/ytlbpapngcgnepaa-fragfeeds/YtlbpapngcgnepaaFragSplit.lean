/- What frag.Split answers, and that it changes nothing that was there. -/
import Derived.Test.YtlbpapngcgnepaaJoinA
import Derived.Test.YtlbpapngcgnepaaIpRead
namespace Go.Proofs.Ytlbpapngcgnepaa.frs
open Go.ChangeShapes Go.WideShapes Go.ChangeAt Go.RowKit Go.BigFrame
open Go.Proofs.Ytlbpapngcgnepaa Go.Proofs.Ytlbpapngcgnepaa.EM Go.Proofs.Ytlbpapngcgnepaa.ethb Go.Proofs.Ytlbpapngcgnepaa.SM Go.Proofs.Ytlbpapngcgnepaa.ipb Go.Proofs.Ytlbpapngcgnepaa.boxes Go.Proofs.Ytlbpapngcgnepaa.ipw Go.Proofs.Ytlbpapngcgnepaa.ipr Go.Proofs.Ytlbpapngcgnepaa.frb
open Go.Proofs.Ytlbpapngcgnepaa.rws (Own Knd app_one app_own)

theorem write_any (p : Pk) (w : World) (h : 20 + p.o.size + p.d.size ≤ 9223372036854775807) (ha : p.Adr) :
    Calls Try.prog 18 #[.agg p.cells] w fun e w' => e = .returned (.tuple #[.string p.out, .int .i64 p.err]) ∧ Below w.heap.size w w' := by
  by_cases he : p.err = 0
  · rw [show p.out = ⟨p.txt.toArray⟩ by unfold Pk.out; rw [if_pos he], he]
    exact ipw.write_ok p w (Pk.ok he) ha
  · rw [show p.out = ⟨#[]⟩ by unfold Pk.out; rw [if_neg he]]
    exact ipw.write_bad p w h he
theorem far_any (a : Int) (d : ByteArray) (w : World) (hd : d.size ≤ 9223372036854775807) :
    Calls Try.prog 20 #[.int .i64 a, .string d] w fun e w' => e = .returned (.bool (decide (65515 < a + d.size))) ∧ w' = w := by
  by_cases h : 65515 < a + d.size
  · have h' : 65515 - (d.size : Int) < a := by omega
    rw [show decide (65515 < a + (d.size : Int)) = true from decide_eq_true h]
    go_enter Try.func20, Try.ntmps20
    go_wp2
    go_ret
    trivial
  · have h' : ¬ 65515 - (d.size : Int) < a := by omega
    rw [show decide (65515 < a + (d.size : Int)) = false from decide_eq_false h]
    go_enter Try.func20, Try.ntmps20
    go_wp2
    go_ret
    trivial
set_option maxRecDepth 20000 in
set_option maxHeartbeats 2000000 in
theorem pieces_any (p : Pk) (z : Nat) (w : World) (hz : 0 < z) (hz2 : z ≤ 65535) (hn : p.d.size ≤ 65535) (h0 : 0 ≤ p.st) (h1 : p.st ≤ 8191) :
    Calls Try.prog 21 #[.agg p.cells, .int .i64 z] w fun e w' => ∃ v, e = .returned v ∧ Own PK w' w.heap.size v (pcs p z) ∧ Below w.heap.size w w' := by
  obtain ⟨tos, id, wh, mo, st, li, pr, fr, tt, o, d⟩ := p
  simp only at hn h0 h1
  have F0 := Blk.new w (Pk.cells ⟨tos, id, wh, mo, st, li, pr, fr, tt, o, d⟩) 24
  have b0 := (Below.refl w.heap.size w).alloc (Nat.le_refl _) (.cells (Pk.cells ⟨tos, id, wh, mo, st, li, pr, fr, tt, o, d⟩) 24)
  go_enter Try.func21, Try.ntmps21
  go_wp2_with fail
  generalize hp : (⟨tos, id, wh, mo, st, li, pr, fr, tt, o, d⟩ : Pk) = P at *
  go_loopw [5, 6] (fun v at_ wr => ∃ k : Nat, at_ = .int .i64 ((k * z : Nat) : Int) ∧ k ≤ npc z d.size ∧ Own PK wr (w.heap.size + 1) v ((List.range k).map (pc P z)) ∧ Blk wr w.heap.size P.cells 24 ∧ Below w.heap.size w wr) (fun _ a _ => 200000 - (intOf a).toNat)
  case atStart => exact ⟨0, by simp, Nat.zero_le _, Own.nil _ _ _, F0, b0⟩
  case round =>
    clear F0 b0
    obtain ⟨k, rfl, hk, O, F, b⟩ := hrel
    have c := F.cell
    have lt := F.lt
    subst hp
    by_cases h : k * z < d.size
    · have hk1 := (npc_lt (n := d.size) hz).2 h
      have hA : ((k * z : Nat) : Int) < d.size := by omega
      have hl : ((List.range k).map (pc ⟨tos, id, wh, mo, st, li, pr, fr, tt, o, d⟩ z)).length ≤ 65535 := by
        have : k ≤ k * z := Nat.le_mul_of_pos_right k hz
        simp; omega
      have hpc : pc ⟨tos, id, wh, mo, st, li, pr, fr, tt, o, d⟩ z k = ⟨tos, id, wh, mo || decide (k * z + z < d.size), st + (k * z / 8 : Nat), li, pr, fr, tt, o, d.extract (k * z) (min (k * z + z) d.size)⟩ := rfl
      have hI : ∀ v W, Own PK W (w.heap.size + 1) v ((List.range k).map (pc ⟨tos, id, wh, mo, st, li, pr, fr, tt, o, d⟩ z) ++ [pc ⟨tos, id, wh, mo, st, li, pr, fr, tt, o, d⟩ z k]) → Own PK W (w.heap.size + 1) v ((List.range (k + 1)).map (pc ⟨tos, id, wh, mo, st, li, pr, fr, tt, o, d⟩ z)) := fun v W hh => by rw [range_succ_map] at hh; exact hh
      have hkz' : Hid ((k + 1) * z = k * z + z) := by show (k + 1) * z = k * z + z; rw [Nat.add_mul]; omega
      rw [hpc] at hI
      generalize (List.range k).map (pc ⟨tos, id, wh, mo, st, li, pr, fr, tt, o, d⟩ z) = L at O hI hl
      have hq : ((k * z : Nat) : Int) / 8 = ((k * z / 8 : Nat) : Int) := by omega
      have hsel : (k * z + z = min (k * z + z) d.size ∧ ¬ d.size < k * z + z) ∨ (d.size = min (k * z + z) d.size ∧ d.size < k * z + z) := by omega
      generalize min (k * z + z) d.size = E at hsel hI
      generalize hkz : k * z = A at *
      have hq2 : (A / 8 : Nat) ≤ 65535 := by omega
      generalize (A / 8 : Nat) = A8 at hq hI hq2
      have hne : u5.ownBlock ≠ some wr.heap.size := fun e => by have := (World.ownsRow.lt O _ e).2; omega
      have hB := b.size
      rcases hsel with ⟨rfl, he⟩ | ⟨rfl, he⟩
      · have hE : ¬ (d.size : Int) < (A : Int) + z := by omega
        have hx : A ≤ A + z := by omega
        have hx2 : (A : Int) ≤ (A : Int) + (z : Int) := by omega
        have hx3 : A + z ≤ d.size := by omega
        have hD : decide ((A : Int) + z < d.size) = decide (A + z < d.size) := by rw [decide_eq_decide]; omega
        generalize decide (A + z < d.size) = D at hD hI
        clear he h hkz hpc hk
        go_wp2_with (first | (refine blk_load _ rfl 24 _ rfl w.heap.size rfl _ _ F _ Try.underlying24 rfl 11 pk_info rfl ?_) | (refine blk_store _ rfl 24 _ _ rfl wr.heap.size _ rfl rfl _ 24 (Blk.new _ _ _) 11 pk_info rfl rfl (pk_one ⟨tos, id, wh, mo, st, li, pr, fr, tt, o, d⟩) ?_))
        intro W1 B1 u1
        have F1 := u1.blk (F.alloc _) (by omega)
        have c1 := F1.cell
        have f1 := B1.free
        have l1 := F1.lt
        have l2 := B1.lt
        have c2 := B1.cell
        have O1 : Own PK W1 (w.heap.size + 1) u5 L := (O.alloc _).but u1 hne
        have O2 : ∀ x y q X, Own PK ((((W1.setCell ⟨wr.heap.size, 10, none⟩ x).setCell ⟨wr.heap.size, 4, none⟩ y).setCell ⟨wr.heap.size, 3, none⟩ q).alloc X) (w.heap.size + 1) u5 L := fun x y q X => (((O1.setCell hne).setCell hne).setCell hne).alloc X
        have F2 : ∀ x y q X, Blk ((((W1.setCell ⟨wr.heap.size, 10, none⟩ x).setCell ⟨wr.heap.size, 4, none⟩ y).setCell ⟨wr.heap.size, 3, none⟩ q).alloc X) w.heap.size (Pk.cells ⟨tos, id, wh, mo, st, li, pr, fr, tt, o, d⟩) 24 := fun x y q X => ((but_setCell _ _ _ _).blk ((but_setCell _ _ _ _).blk ((but_setCell _ _ _ _).blk F1 (by omega)) (by omega)) (by omega)).alloc X
        have b2 : ∀ x y q X, Below w.heap.size w ((((W1.setCell ⟨wr.heap.size, 10, none⟩ x).setCell ⟨wr.heap.size, 4, none⟩ y).setCell ⟨wr.heap.size, 3, none⟩ q).alloc X) := fun x y q X => by
          have g1 := u1.below (b.alloc hB _) hB
          have g2 := (but_setCell W1 wr.heap.size 10 x).below g1 hB
          have g3 := (but_setCell _ wr.heap.size 4 y).below g2 hB
          have g4 := (but_setCell _ wr.heap.size 3 q).below g3 hB
          exact g4.alloc g4.size _
        clear c F O O1 u1 b
        cases mo
        · go_wp2_with (at_builtin; refine app_one PK _ rfl _ _ rfl (w.heap.size + 1) _ L rfl (O2 _ _ _ _) _ 1 ⟨tos, id, wh, D, st + A8, li, pr, fr, tt, o, d.extract A (A + z)⟩ 24 rfl (Blk.newAt _ _ _ (by simp)) (by unfold maxLen; omega) (by show (L.length + 1) * 88 ≤ 140737488355328; omega) (F2 _ _ _ _).lt ?_)
          intro v' W2 O3 b3 _
          have F3 := (F2 _ _ _ _).below b3 (by omega)
          have b4 := (b2 _ _ _ _).trans (b3.mono (by omega))
          clear O2 F2 b2 F1 B1 c1 f1 c2
          go_wp2_with fail
          go_roundw
          case rel => exact ⟨k + 1, by rw [hkz'.out]; simp, hk1, hI _ _ O3, F3, b4⟩
          case measure => simp [intOf]; omega
        · go_wp2_with (at_builtin; refine app_one PK _ rfl _ _ rfl (w.heap.size + 1) _ L rfl (O2 _ _ _ _) _ 1 ⟨tos, id, wh, true, st + A8, li, pr, fr, tt, o, d.extract A (A + z)⟩ 24 rfl (Blk.newAt _ _ _ (by simp)) (by unfold maxLen; omega) (by show (L.length + 1) * 88 ≤ 140737488355328; omega) (F2 _ _ _ _).lt ?_)
          intro v' W2 O3 b3 _
          have F3 := (F2 _ _ _ _).below b3 (by omega)
          have b4 := (b2 _ _ _ _).trans (b3.mono (by omega))
          clear O2 F2 b2 F1 B1 c1 f1 c2
          go_wp2_with fail
          go_roundw
          case rel => exact ⟨k + 1, by rw [hkz'.out]; simp, hk1, hI _ _ O3, F3, b4⟩
          case measure => simp [intOf]; omega
      · have hE : (d.size : Int) < (A : Int) + z := by omega
        have hx : A ≤ d.size := by omega
        have hx2 : (A : Int) ≤ (d.size : Int) := by omega
        rw [decide_eq_false (show ¬ A + z < d.size by omega)] at hI
        clear he h hkz hpc hk
        go_wp2_with (first | (refine blk_load _ rfl 24 _ rfl w.heap.size rfl _ _ F _ Try.underlying24 rfl 11 pk_info rfl ?_) | (refine blk_store _ rfl 24 _ _ rfl wr.heap.size _ rfl rfl _ 24 (Blk.new _ _ _) 11 pk_info rfl rfl (pk_one ⟨tos, id, wh, mo, st, li, pr, fr, tt, o, d⟩) ?_))
        intro W1 B1 u1
        have F1 := u1.blk (F.alloc _) (by omega)
        have c1 := F1.cell
        have f1 := B1.free
        have l1 := F1.lt
        have l2 := B1.lt
        have c2 := B1.cell
        have O1 : Own PK W1 (w.heap.size + 1) u5 L := (O.alloc _).but u1 hne
        have O2 : ∀ x y q X, Own PK ((((W1.setCell ⟨wr.heap.size, 10, none⟩ x).setCell ⟨wr.heap.size, 4, none⟩ y).setCell ⟨wr.heap.size, 3, none⟩ q).alloc X) (w.heap.size + 1) u5 L := fun x y q X => (((O1.setCell hne).setCell hne).setCell hne).alloc X
        have F2 : ∀ x y q X, Blk ((((W1.setCell ⟨wr.heap.size, 10, none⟩ x).setCell ⟨wr.heap.size, 4, none⟩ y).setCell ⟨wr.heap.size, 3, none⟩ q).alloc X) w.heap.size (Pk.cells ⟨tos, id, wh, mo, st, li, pr, fr, tt, o, d⟩) 24 := fun x y q X => ((but_setCell _ _ _ _).blk ((but_setCell _ _ _ _).blk ((but_setCell _ _ _ _).blk F1 (by omega)) (by omega)) (by omega)).alloc X
        have b2 : ∀ x y q X, Below w.heap.size w ((((W1.setCell ⟨wr.heap.size, 10, none⟩ x).setCell ⟨wr.heap.size, 4, none⟩ y).setCell ⟨wr.heap.size, 3, none⟩ q).alloc X) := fun x y q X => by
          have g1 := u1.below (b.alloc hB _) hB
          have g2 := (but_setCell W1 wr.heap.size 10 x).below g1 hB
          have g3 := (but_setCell _ wr.heap.size 4 y).below g2 hB
          have g4 := (but_setCell _ wr.heap.size 3 q).below g3 hB
          exact g4.alloc g4.size _
        clear c F O O1 u1 b
        cases mo
        · go_wp2_with (at_builtin; refine app_one PK _ rfl _ _ rfl (w.heap.size + 1) _ L rfl (O2 _ _ _ _) _ 1 ⟨tos, id, wh, false, st + A8, li, pr, fr, tt, o, d.extract A d.size⟩ 24 rfl (Blk.newAt _ _ _ (by simp)) (by unfold maxLen; omega) (by show (L.length + 1) * 88 ≤ 140737488355328; omega) (F2 _ _ _ _).lt ?_)
          intro v' W2 O3 b3 _
          have F3 := (F2 _ _ _ _).below b3 (by omega)
          have b4 := (b2 _ _ _ _).trans (b3.mono (by omega))
          clear O2 F2 b2 F1 B1 c1 f1 c2
          go_wp2_with fail
          go_roundw
          case rel => exact ⟨k + 1, by rw [hkz'.out]; simp, hk1, hI _ _ O3, F3, b4⟩
          case measure => simp [intOf]; omega
        · go_wp2_with (at_builtin; refine app_one PK _ rfl _ _ rfl (w.heap.size + 1) _ L rfl (O2 _ _ _ _) _ 1 ⟨tos, id, wh, true, st + A8, li, pr, fr, tt, o, d.extract A d.size⟩ 24 rfl (Blk.newAt _ _ _ (by simp)) (by unfold maxLen; omega) (by show (L.length + 1) * 88 ≤ 140737488355328; omega) (F2 _ _ _ _).lt ?_)
          intro v' W2 O3 b3 _
          have F3 := (F2 _ _ _ _).below b3 (by omega)
          have b4 := (b2 _ _ _ _).trans (b3.mono (by omega))
          clear O2 F2 b2 F1 B1 c1 f1 c2
          go_wp2_with fail
          go_roundw
          case rel => exact ⟨k + 1, by rw [hkz'.out]; simp, hk1, hI _ _ O3, F3, b4⟩
          case measure => simp [intOf]; omega
    · have hkn : k = npc z d.size := by
        have := (npc_lt (n := d.size) (k := k) hz); omega
      have hA : ¬ ((k * z : Nat) : Int) < d.size := by omega
      have hI : Own PK wr (w.heap.size + 1) u5 (pcs ⟨tos, id, wh, mo, st, li, pr, fr, tt, o, d⟩ z) := by unfold pcs; rw [hkn] at O; exact O
      generalize hkz : k * z = A at *
      clear O hk hkn hkz h
      go_wp2_with fail
      go_ret
      exact ⟨_, rfl, hI.mono (by omega), b⟩
theorem txt_size (p : Pk) : (⟨p.txt.toArray⟩ : ByteArray).size = Pk.sz p := by
  show p.txt.toArray.size = _
  rw [List.size_toArray]
  simp [Pk.txt, Pk.h1, Pk.h2, adr, Pk.sz]
  omega
set_option maxHeartbeats 2000000 in
theorem split_any (p : Pk) (m : Int) (w : World) (h : 20 + p.o.size + p.d.size ≤ 9223372036854775807) (ha : p.Adr) :
    Calls Try.prog 9 #[.agg p.cells, .int .i64 m] w fun e w' => ∃ v, e = .returned (.tuple #[v, .int .i64 (spe p m)]) ∧ Own PK w' w.heap.size v (spl p m) ∧ Below w.heap.size w w' := by
  have CW := fun u => write_any p u h ha
  have F0 := Blk.new w p.cells 24
  have b0 := (Below.refl w.heap.size w).alloc (Nat.le_refl _) (.cells p.cells 24)
  by_cases he : p.err = 0
  · have hok := Pk.ok he
    have ht : p.out.size = Pk.sz p := by rw [show p.out = ⟨p.txt.toArray⟩ by unfold Pk.out; rw [if_pos he], txt_size]
    rw [he] at CW
    generalize p.out = T at CW ht
    by_cases hm : m < 68 ∨ 65535 < m
    · have e1 : spe p m = 1 := by unfold spe; rw [if_neg (by omega), if_pos hm]
      have e2 : spl p m = [] := by unfold spl; rw [e1, if_pos (by decide)]
      rw [e1, e2]
      clear ht hok he e1 e2
      go_enter Try.func9, Try.ntmps9
      go_wp2_with (refine blk_load _ rfl 24 _ rfl w.heap.size rfl _ _ F0 _ Try.underlying24 rfl 11 pk_info rfl ?_)
      refine (CW _).mono ?_
      rintro r w1 ⟨rfl, hb1⟩
      have b1 := b0.trans (hb1.mono b0.size)
      clear CW F0
      by_cases hm1 : m < 68
      · go_wp2_with fail
        go_ret2
        exact ⟨_, rfl, Own.nil _ _ _, b1⟩
      · have hm2 : 65535 < m := by omega
        go_wp2_with fail
        go_ret2
        exact ⟨_, rfl, Own.nil _ _ _, b1⟩
    · have hm1 : ¬ m < 68 := by omega
      have hm2 : ¬ 65535 < m := by omega
      by_cases hs : (Pk.sz p : Int) ≤ m
      · have e1 : spe p m = 0 := by unfold spe; rw [if_neg (by omega), if_neg hm, if_pos hs]
        have e2 : spl p m = [p] := by unfold spl; rw [e1, if_neg (by decide), if_pos hs]
        rw [e1, e2]
        have hs' : (T.size : Int) ≤ m := by omega
        clear ht hok he e1 e2 hs hm
        go_enter Try.func9, Try.ntmps9
        go_wp2_with (refine blk_load _ rfl 24 _ rfl w.heap.size rfl _ _ F0 _ Try.underlying24 rfl 11 pk_info rfl ?_)
        refine (CW _).mono ?_
        rintro r w1 ⟨rfl, hb1⟩
        have b1 := b0.trans (hb1.mono b0.size)
        have F1 := F0.below hb1 F0.lt
        clear CW F0
        go_wp2_with (refine blk_load _ rfl 24 _ rfl w.heap.size rfl _ _ F1 _ Try.underlying24 rfl 11 pk_info rfl ?_)
        go_ret2
        exact ⟨_, rfl, rws.Own.lit PK w1 w.heap.size b1.size [p] (by show 1 ≤ maxLen; decide) _ (by simp [Knd.cs, PK]), b1.alloc b1.size _⟩
      · have hs' : ¬ (T.size : Int) ≤ m := by omega
        by_cases hw : p.wh = true
        · have e1 : spe p m = 9 := by unfold spe; rw [if_neg (by omega), if_neg hm, if_neg hs, if_pos hw]
          have e2 : spl p m = [] := by unfold spl; rw [e1, if_pos (by decide)]
          rw [e1, e2]
          clear ht hok he e1 e2 hs hm
          go_enter Try.func9, Try.ntmps9
          go_wp2_with (refine blk_load _ rfl 24 _ rfl w.heap.size rfl _ _ F0 _ Try.underlying24 rfl 11 pk_info rfl ?_)
          refine (CW _).mono ?_
          rintro r w1 ⟨rfl, hb1⟩
          have b1 := b0.trans (hb1.mono b0.size)
          have F1 := F0.below hb1 F0.lt
          have c1 := F1.cell
          have l1 := F1.lt
          clear CW F0
          go_wp2_with fail
          go_ret2
          exact ⟨_, rfl, Own.nil _ _ _, b1⟩
        · have hw' : p.wh = false := by simpa using hw
          have st0 := hok.st0
          have st1 := hok.st1
          have CE := fun u => far_any (8 * p.st) p.d u (by omega)
          by_cases hf : 65515 < 8 * p.st + p.d.size
          · have e1 : spe p m = 2 := by unfold spe; rw [if_neg (by omega), if_neg hm, if_neg hs, if_neg hw, if_pos hf]
            have e2 : spl p m = [] := by unfold spl; rw [e1, if_pos (by decide)]
            rw [e1, e2]
            rw [decide_eq_true hf] at CE
            clear ht hok he e1 e2 hs hm
            go_enter Try.func9, Try.ntmps9
            go_wp2_with (refine blk_load _ rfl 24 _ rfl w.heap.size rfl _ _ F0 _ Try.underlying24 rfl 11 pk_info rfl ?_)
            refine (CW _).mono ?_
            rintro r w1 ⟨rfl, hb1⟩
            have b1 := b0.trans (hb1.mono b0.size)
            have F1 := F0.below hb1 F0.lt
            have c1 := F1.cell
            have l1 := F1.lt
            clear CW F0
            go_wp2_with fail
            refine (CE _).mono ?_
            rintro r w2 ⟨rfl, rfl⟩
            go_wp2_with fail
            go_ret2
            exact ⟨_, rfl, Own.nil _ _ _, b1⟩
          · have e1 : spe p m = 0 := by unfold spe; rw [if_neg (by omega), if_neg hm, if_neg hs, if_neg hw, if_neg hf]
            have e2 : spl p m = pcs p (each p m) := by unfold spl; rw [e1, if_neg (by decide), if_neg hs]
            rw [e1, e2]
            rw [decide_eq_false hf] at CE
            have o1 := hok.o1
            have hz : (m - (20 + p.o.size : Nat)) / 8 * 8 = (each p m : Int) := by unfold each; omega
            have hz1 : 0 < each p m := by unfold each; omega
            have hz2 : each p m ≤ 65535 := by unfold each; omega
            have CP := fun u => pieces_any p (each p m) u hz1 hz2 (by omega) st0 st1
            have hh : (T.size : Int) - (p.d.size : Int) = ((20 + p.o.size : Nat) : Int) := by rw [ht]; unfold Pk.sz; omega
            have hd : p.d.size ≤ 65535 := by omega
            have hT : T.size ≤ 65535 := by have := hok.all; rw [ht]; exact this
            generalize each p m = Z at CP hz hz1 hz2 ⊢
            generalize pcs p Z = L at CP ⊢
            have hH : 20 + p.o.size ≤ 60 := by omega
            generalize 20 + p.o.size = H at hz hh hH
            have hx := CE
            clear ht hok he e1 e2 hs hm hx
            go_enter Try.func9, Try.ntmps9
            go_wp2_with (refine blk_load _ rfl 24 _ rfl w.heap.size rfl _ _ F0 _ Try.underlying24 rfl 11 pk_info rfl ?_)
            refine (CW _).mono ?_
            rintro r w1 ⟨rfl, hb1⟩
            have b1 := b0.trans (hb1.mono b0.size)
            have F1 := F0.below hb1 F0.lt
            have c1 := F1.cell
            have l1 := F1.lt
            clear CW F0
            go_wp2_with fail
            refine (CE _).mono ?_
            rintro r w2 ⟨rfl, rfl⟩
            clear CE
            go_wp2_with (refine blk_load _ rfl 24 _ rfl w.heap.size rfl _ _ F1 _ Try.underlying24 rfl 11 pk_info rfl ?_)
            refine (CP _).mono ?_
            rintro r w3 ⟨v, rfl, O3, b3⟩
            have b4 := b1.trans (b3.mono b1.size)
            go_wp2_with fail
            go_ret2
            exact ⟨_, rfl, O3.mono b1.size, b4⟩
  · have e1 : spe p m = p.err := by unfold spe; rw [if_pos he]
    have e2 : spl p m = [] := by unfold spl; rw [e1, if_pos he]
    rw [e1, e2]
    generalize p.out = T at CW
    generalize p.err = er at CW he ⊢
    have he' : (er != 0) = true := by simpa using he
    clear e1 e2
    go_enter Try.func9, Try.ntmps9
    go_wp2_with (refine blk_load _ rfl 24 _ rfl w.heap.size rfl _ _ F0 _ Try.underlying24 rfl 11 pk_info rfl ?_)
    refine (CW _).mono ?_
    rintro r w1 ⟨rfl, hb1⟩
    have b1 := b0.trans (hb1.mono b0.size)
    go_wp2_with fail
    go_ret2
    exact ⟨_, rfl, Own.nil _ _ _, b1⟩
end Go.Proofs.Ytlbpapngcgnepaa.frs
