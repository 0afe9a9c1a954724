/- What custref.SplitOf answers, and that it changes nothing that was there. -/
import Derived.Test.YtlbpapngcgnepaaFragSplit
import Derived.Test.YtlbpapngcgnepaaIpText2
namespace Go.Proofs.Ytlbpapngcgnepaa.frso
open Go.ChangeShapes Go.WideShapes Go.ChangeAt Go.RowKit Go.BigFrame
open Go.Proofs.Ytlbpapngcgnepaa Go.Proofs.Ytlbpapngcgnepaa.EM Go.Proofs.Ytlbpapngcgnepaa.ethb Go.Proofs.Ytlbpapngcgnepaa.SM Go.Proofs.Ytlbpapngcgnepaa.ipb Go.Proofs.Ytlbpapngcgnepaa.boxes Go.Proofs.Ytlbpapngcgnepaa.ipw Go.Proofs.Ytlbpapngcgnepaa.ipr Go.Proofs.Ytlbpapngcgnepaa.frb Go.Proofs.Ytlbpapngcgnepaa.frs
open Go.Proofs.Ytlbpapngcgnepaa.rws (Own Knd app_one app_own)
open Go.Proofs.Ytlbpapngcgnepaa.ipm (bytes_ext ext_list)

theorem extract_two (d : ByteArray) (a z : Nat) (h : a + z ≤ d.size) : (d.extract a d.size).extract 0 z = d.extract a (a + z) := by
  apply bytes_ext
  rw [ext_list, ext_list, ext_list]
  rw [List.drop_zero, List.take_drop, List.take_take, Nat.min_eq_left h]
set_option maxRecDepth 20000 in
set_option maxHeartbeats 4000000 in
/-- the loop -/
theorem split_of (p : Pk) (m : Int) (w : World) (h : 20 + p.o.size + p.d.size ≤ 9223372036854775807) (ha : p.Adr) :
    Calls Try.prog 10 #[.agg p.cells, .int .i64 m] w fun e w' => ∃ v, e = .returned (.tuple #[v, .int .i64 (spe p m)]) ∧ Own PK w' w.heap.size v (spl p m) ∧ Below w.heap.size w w' := by
  have CW := fun u => ipt.pt_any p u h ha
  have F0 := Blk.new w p.cells 24
  have b0 := (Below.refl w.heap.size w).alloc (Nat.le_refl _) (.cells p.cells 24)
  by_cases he : p.err = 0
  · have hok := Pk.ok he
    have ht : p.out.size = Pk.sz p := by rw [show p.out = ⟨p.txt.toArray⟩ by unfold Pk.out; rw [if_pos he], txt_size]
    have CB := fun u => refb.between_any m 68 65535 u
    rw [he] at CW
    generalize p.out = T at CW ht
    by_cases hm : m < 68 ∨ 65535 < m
    · have e1 : spe p m = 1 := by unfold spe; rw [if_neg (by omega), if_pos hm]
      have e2 : spl p m = [] := by unfold spl; rw [e1, if_pos (by decide)]
      rw [e1, e2]
      rw [decide_eq_false (show ¬ (68 ≤ m ∧ m ≤ 65535) by omega)] at CB
      clear ht hok he e1 e2 hm
      go_enter Try.func10, Try.ntmps10
      go_wp2_with (refine blk_load _ rfl 24 _ rfl w.heap.size rfl _ _ F0 _ Try.underlying24 rfl 11 pk_info rfl ?_)
      refine (CW _).mono ?_
      rintro r w1 ⟨rfl, hb1⟩
      have b1 := b0.trans (hb1.mono b0.size)
      have F1 := F0.below hb1 F0.lt
      clear CW F0
      go_wp2_with fail
      refine (CB _).mono ?_
      rintro r w2 ⟨rfl, rfl⟩
      go_wp2_with fail
      go_ret2
      exact ⟨_, rfl, Own.nil _ _ _, b1⟩
    · rw [decide_eq_true (show (68 ≤ m ∧ m ≤ 65535) by omega)] at CB
      by_cases hs : (Pk.sz p : Int) ≤ m
      · have e1 : spe p m = 0 := by unfold spe; rw [if_neg (by omega), if_neg hm, if_pos hs]
        have e2 : spl p m = [p] := by unfold spl; rw [e1, if_neg (by decide), if_pos hs]
        rw [e1, e2]
        have hs' : (T.size : Int) ≤ m := by omega
        clear ht hok he e1 e2 hs hm
        go_enter Try.func10, Try.ntmps10
        go_wp2_with (refine blk_load _ rfl 24 _ rfl w.heap.size rfl _ _ F0 _ Try.underlying24 rfl 11 pk_info rfl ?_)
        refine (CW _).mono ?_
        rintro r w1 ⟨rfl, hb1⟩
        have b1 := b0.trans (hb1.mono b0.size)
        have F1 := F0.below hb1 F0.lt
        clear CW F0
        go_wp2_with fail
        refine (CB _).mono ?_
        rintro r w2 ⟨rfl, rfl⟩
        go_wp2_with (refine blk_load _ rfl 24 _ rfl w.heap.size rfl _ _ F1 _ Try.underlying24 rfl 11 pk_info rfl ?_)
        go_ret2
        exact ⟨_, rfl, rws.Own.lit PK _ w.heap.size b1.size [p] (by show 1 ≤ maxLen; decide) _ (by simp [Knd.cs, PK]), b1.alloc b1.size _⟩
      · have hs' : ¬ (T.size : Int) ≤ m := by omega
        by_cases hw : p.wh = true
        · have e1 : spe p m = 9 := by unfold spe; rw [if_neg (by omega), if_neg hm, if_neg hs, if_pos hw]
          have e2 : spl p m = [] := by unfold spl; rw [e1, if_pos (by decide)]
          rw [e1, e2]
          clear ht hok he e1 e2 hs hm
          go_enter Try.func10, Try.ntmps10
          go_wp2_with (refine blk_load _ rfl 24 _ rfl w.heap.size rfl _ _ F0 _ Try.underlying24 rfl 11 pk_info rfl ?_)
          refine (CW _).mono ?_
          rintro r w1 ⟨rfl, hb1⟩
          have b1 := b0.trans (hb1.mono b0.size)
          have F1 := F0.below hb1 F0.lt
          clear CW F0
          go_wp2_with fail
          refine (CB _).mono ?_
          rintro r w2 ⟨rfl, rfl⟩
          have c1 := F1.cell
          have l1 := F1.lt
          go_wp2_with fail
          go_ret2
          exact ⟨_, rfl, Own.nil _ _ _, b1⟩
        · have hw' : p.wh = false := by simpa using hw
          have st0 := hok.st0
          have st1 := hok.st1
          by_cases hf : 65515 < 8 * p.st + p.d.size
          · have e1 : spe p m = 2 := by unfold spe; rw [if_neg (by omega), if_neg hm, if_neg hs, if_neg hw, if_pos hf]
            have e2 : spl p m = [] := by unfold spl; rw [e1, if_pos (by decide)]
            rw [e1, e2]
            have hd : p.d.size ≤ 65535 := by have := hok.all; omega
            clear ht hok he e1 e2 hs hm
            go_enter Try.func10, Try.ntmps10
            go_wp2_with (refine blk_load _ rfl 24 _ rfl w.heap.size rfl _ _ F0 _ Try.underlying24 rfl 11 pk_info rfl ?_)
            refine (CW _).mono ?_
            rintro r w1 ⟨rfl, hb1⟩
            have b1 := b0.trans (hb1.mono b0.size)
            have F1 := F0.below hb1 F0.lt
            clear CW F0
            go_wp2_with fail
            refine (CB _).mono ?_
            rintro r w2 ⟨rfl, rfl⟩
            have c1 := F1.cell
            have l1 := F1.lt
            go_wp2_with fail
            go_ret2
            exact ⟨_, rfl, Own.nil _ _ _, b1⟩
          · have e1 : spe p m = 0 := by unfold spe; rw [if_neg (by omega), if_neg hm, if_neg hs, if_neg hw, if_neg hf]
            have e2 : spl p m = pcs p (each p m) := by unfold spl; rw [e1, if_neg (by decide), if_neg hs]
            rw [e1, e2]
            have o1 := hok.o1
            have hd : p.d.size ≤ 65535 := by have := hok.all; omega
            obtain ⟨E, hE⟩ : ∃ E : Nat, E = ((m - (20 + p.o.size : Nat)) / 8).toNat := ⟨_, rfl⟩
            have hz : each p m = 8 * E := by unfold each; rw [hE]
            have hz1 : (m - 20 - (p.o.size : Int)) / 8 = (E : Int) := by omega
            have hz2 : 0 < E := by omega
            have hz3 : E ≤ 8191 := by omega
            have hz4 : 0 ≤ m - 20 - (p.o.size : Int) := by omega
            rw [hz]
            obtain ⟨tos, id, wh, mo, st, li, pr, fr, tt, o, d⟩ := p
            simp only at *
            subst hw'
            clear hE hz
            clear ht hok he e1 e2 hs hm hw
            go_enter Try.func10, Try.ntmps10
            go_wp2_with (refine blk_load _ rfl 24 _ rfl w.heap.size rfl _ _ F0 _ Try.underlying24 rfl 11 pk_info rfl ?_)
            refine (CW _).mono ?_
            rintro r w1 ⟨rfl, hb1⟩
            have b1 := b0.trans (hb1.mono b0.size)
            have F1 := F0.below hb1 F0.lt
            clear CW F0
            go_wp2_with fail
            refine (CB _).mono ?_
            rintro r w2 ⟨rfl, rfl⟩
            have c1 := F1.cell
            have l1 := F1.lt
            go_wp2_with fail
            have I0 : ∃ k : Nat, (.int .i64 0 : Value) = .int .i64 (k : Int) ∧ k ≤ npc (8 * E) d.size ∧ Own PK w2 (w.heap.size + 1) (.slice none 0 0) ((List.range k).map (pc ⟨tos, id, false, mo, st, li, pr, fr, tt, o, d⟩ (8 * E))) ∧ Blk w2 w.heap.size (Pk.cells ⟨tos, id, false, mo, st, li, pr, fr, tt, o, d⟩) 24 ∧ Below w.heap.size w w2 := ⟨0, rfl, Nat.zero_le _, Own.nil _ _ _, F1, b1⟩
            clear F1 b1 c1 hb1 hs' CB
            rw [hz1]
            clear hz1 hz4 hf
            go_loopw [9, 10] (fun v k_ wr => ∃ k : Nat, k_ = .int .i64 (k : Int) ∧ k ≤ npc (8 * E) d.size ∧ Own PK wr (w.heap.size + 1) v ((List.range k).map (pc ⟨tos, id, false, mo, st, li, pr, fr, tt, o, d⟩ (8 * E))) ∧ Blk wr w.heap.size (Pk.cells ⟨tos, id, false, mo, st, li, pr, fr, tt, o, d⟩) 24 ∧ Below w.heap.size w wr) (fun _ k_ _ => 200000 - (intOf k_).toNat)
            case atStart => exact I0
            case round =>
              clear I0
              obtain ⟨k, rfl, hk, O, F, b⟩ := hrel
              have c := F.cell
              have lt := F.lt
              have hz : 0 < 8 * E := by omega
              have hB := b.size
              by_cases h : k * (8 * E) < d.size
              · have hk1 := (npc_lt (n := d.size) hz).2 h
                have hkE : k ≤ k * (8 * E) := Nat.le_mul_of_pos_right k hz
                have hl : ((List.range k).map (pc ⟨tos, id, false, mo, st, li, pr, fr, tt, o, d⟩ (8 * E))).length ≤ 65535 := by simp; omega
                have hI : ∀ v W, Own PK W (w.heap.size + 1) v ((List.range k).map (pc ⟨tos, id, false, mo, st, li, pr, fr, tt, o, d⟩ (8 * E)) ++ [pc ⟨tos, id, false, mo, st, li, pr, fr, tt, o, d⟩ (8 * E) k]) → Own PK W (w.heap.size + 1) v ((List.range (k + 1)).map (pc ⟨tos, id, false, mo, st, li, pr, fr, tt, o, d⟩ (8 * E))) := fun v W hh => by rw [range_succ_map] at hh; exact hh
                have hpc : pc ⟨tos, id, false, mo, st, li, pr, fr, tt, o, d⟩ (8 * E) k = ⟨tos, id, false, mo || decide (k * (8 * E) + 8 * E < d.size), st + (k * (8 * E) / 8 : Nat), li, pr, fr, tt, o, d.extract (k * (8 * E)) (min (k * (8 * E) + 8 * E) d.size)⟩ := rfl
                rw [hpc] at hI
                generalize (List.range k).map (pc ⟨tos, id, false, mo, st, li, pr, fr, tt, o, d⟩ (8 * E)) = L at O hI hl
                have hm8 : k * (8 * E) = 8 * (k * E) := by rw [Nat.mul_left_comm]
                have hA8 : k * (8 * E) / 8 = k * E := by rw [hm8]; omega
                rw [hA8] at hI
                have hi1 : (k : Int) * 8 * (E : Int) = ((k * (8 * E) : Nat) : Int) := by rw [Int.natCast_mul, Int.natCast_mul, ← Int.mul_assoc]; rfl
                have hi2 : (k : Int) * (E : Int) = ((k * E : Nat) : Int) := by rw [Int.natCast_mul]
                have hA9 : k * E ≤ 65535 := by omega
                generalize hkz : k * (8 * E) = A at *
                generalize k * E = A8 at hI hi2 hA9 hm8
                have hA : (A : Int) < d.size := by omega
                have hk9 : (k : Int) ≤ 65535 := by omega
                have hne : u9.ownBlock ≠ some wr.heap.size := fun e => by have := (World.ownsRow.lt O _ e).2; omega
                clear hkz hpc hk hm8 hA8 hkE
                by_cases he : A + 8 * E < d.size
                · have x2 := extract_two d A (8 * E) (by omega)
                  have xs : (d.extract A d.size).size = d.size - A := by simp
                  rw [decide_eq_true he, Nat.min_eq_left (by omega), Bool.or_true] at hI
                  have he' : 8 * (E : Int) < ((d.extract A d.size).size : Int) := by rw [xs]; omega
                  clear he
                  go_wp2_with (first | (refine blk_load _ rfl 24 _ rfl w.heap.size rfl _ _ F _ Try.underlying24 rfl 11 pk_info rfl ?_) | (refine blk_store _ rfl 24 _ _ rfl wr.heap.size _ rfl rfl _ 24 (Blk.new _ _ _) 11 pk_info rfl rfl (pk_one ⟨tos, id, false, mo, st, li, pr, fr, tt, o, d⟩) ?_))
                  intro W1 B1 u1
                  have F1 := u1.blk (F.alloc _) (by omega)
                  have c1 := F1.cell
                  have f1 := B1.free
                  have l1 := F1.lt
                  have l2 := B1.lt
                  have c2 := B1.cell
                  have O1 : Own PK W1 (w.heap.size + 1) u9 L := (O.alloc _).but u1 hne
                  have O2 : ∀ x y q r X, Own PK (((((W1.setCell ⟨wr.heap.size, 4, none⟩ x).setCell ⟨wr.heap.size, 10, none⟩ y).setCell ⟨wr.heap.size, 10, none⟩ q).setCell ⟨wr.heap.size, 3, none⟩ r).alloc X) (w.heap.size + 1) u9 L := fun x y q r X => ((((O1.setCell hne).setCell hne).setCell hne).setCell hne).alloc X
                  have F2 : ∀ x y q r X, Blk (((((W1.setCell ⟨wr.heap.size, 4, none⟩ x).setCell ⟨wr.heap.size, 10, none⟩ y).setCell ⟨wr.heap.size, 10, none⟩ q).setCell ⟨wr.heap.size, 3, none⟩ r).alloc X) w.heap.size (Pk.cells ⟨tos, id, false, mo, st, li, pr, fr, tt, o, d⟩) 24 := fun x y q r X => ((but_setCell _ _ _ _).blk ((but_setCell _ _ _ _).blk ((but_setCell _ _ _ _).blk ((but_setCell _ _ _ _).blk F1 (by omega)) (by omega)) (by omega)) (by omega)).alloc X
                  have b2 : ∀ x y q r X, Below w.heap.size w (((((W1.setCell ⟨wr.heap.size, 4, none⟩ x).setCell ⟨wr.heap.size, 10, none⟩ y).setCell ⟨wr.heap.size, 10, none⟩ q).setCell ⟨wr.heap.size, 3, none⟩ r).alloc X) := fun x y q r X => by
                    have g1 := u1.below (b.alloc hB _) hB
                    have g2 := (but_setCell W1 wr.heap.size 4 x).below g1 hB
                    have g3 := (but_setCell _ wr.heap.size 10 y).below g2 hB
                    have g4 := (but_setCell _ wr.heap.size 10 q).below g3 hB
                    have g5 := (but_setCell _ wr.heap.size 3 r).below g4 hB
                    exact g5.alloc g5.size _
                  have G2 : ((((W1.setCell ⟨wr.heap.size, 4, none⟩ (.int .i64 (st + A8))).setCell ⟨wr.heap.size, 10, none⟩ (.string (d.extract A d.size))).setCell ⟨wr.heap.size, 10, none⟩ (.string (d.extract A (A + 8 * E)))).setCell ⟨wr.heap.size, 3, none⟩ (.bool true)).cell? ⟨wr.heap.size, 10, none⟩ = some (.string (d.extract A (A + 8 * E))) := ((((B1.setCell 4 _).setCell 10 _).setCell 10 _).setCell 3 _).cell 10
                  have G3 : (((W1.setCell ⟨wr.heap.size, 4, none⟩ (.int .i64 (st + A8))).setCell ⟨wr.heap.size, 10, none⟩ (.string (d.extract A d.size))).setCell ⟨wr.heap.size, 10, none⟩ (.string (d.extract A (A + 8 * E)))).cell? ⟨wr.heap.size, 10, none⟩ = some (.string (d.extract A (A + 8 * E))) := (((B1.setCell 4 _).setCell 10 _).setCell 10 _).cell 10
                  clear c F O O1 u1 b
                  go_wp2_with (first | (at_builtin; refine app_one PK _ rfl _ _ rfl (w.heap.size + 1) _ L rfl (O2 _ _ _ _ _) _ 1 ⟨tos, id, false, true, st + A8, li, pr, fr, tt, o, d.extract A (A + 8 * E)⟩ 24 rfl (Blk.newAt _ _ _ (by simp)) (by unfold maxLen; omega) (by show (L.length + 1) * 88 ≤ 140737488355328; omega) (F2 _ _ _ _ _).lt ?_))
                  intro v' W2 O3 b3 _
                  have F3 := (F2 _ _ _ _ _).below b3 (by omega)
                  have b4 := (b2 _ _ _ _ _).trans (b3.mono (by omega))
                  clear O2 F2 b2 F1 B1 c1 f1 c2 G2 G3
                  go_wp2_with fail
                  go_roundw
                  case rel => exact ⟨k + 1, by simp, hk1, hI _ _ O3, F3, b4⟩
                  case measure => simp [intOf]; omega
                · have xs : (d.extract A d.size).size = d.size - A := by simp
                  rw [decide_eq_false he, Nat.min_eq_right (by omega), Bool.or_false] at hI
                  have he' : ¬ 8 * (E : Int) < ((d.extract A d.size).size : Int) := by rw [xs]; omega
                  clear he
                  go_wp2_with (first | (refine blk_load _ rfl 24 _ rfl w.heap.size rfl _ _ F _ Try.underlying24 rfl 11 pk_info rfl ?_) | (refine blk_store _ rfl 24 _ _ rfl wr.heap.size _ rfl rfl _ 24 (Blk.new _ _ _) 11 pk_info rfl rfl (pk_one ⟨tos, id, false, mo, st, li, pr, fr, tt, o, d⟩) ?_))
                  intro W1 B1 u1
                  have F1 := u1.blk (F.alloc _) (by omega)
                  have c1 := F1.cell
                  have f1 := B1.free
                  have l1 := F1.lt
                  have l2 := B1.lt
                  have c2 := B1.cell
                  have O1 : Own PK W1 (w.heap.size + 1) u9 L := (O.alloc _).but u1 hne
                  have O2 : ∀ x y X, Own PK (((W1.setCell ⟨wr.heap.size, 4, none⟩ x).setCell ⟨wr.heap.size, 10, none⟩ y).alloc X) (w.heap.size + 1) u9 L := fun x y X => ((O1.setCell hne).setCell hne).alloc X
                  have F2 : ∀ x y X, Blk (((W1.setCell ⟨wr.heap.size, 4, none⟩ x).setCell ⟨wr.heap.size, 10, none⟩ y).alloc X) w.heap.size (Pk.cells ⟨tos, id, false, mo, st, li, pr, fr, tt, o, d⟩) 24 := fun x y X => ((but_setCell _ _ _ _).blk ((but_setCell _ _ _ _).blk F1 (by omega)) (by omega)).alloc X
                  have b2 : ∀ x y X, Below w.heap.size w (((W1.setCell ⟨wr.heap.size, 4, none⟩ x).setCell ⟨wr.heap.size, 10, none⟩ y).alloc X) := fun x y X => by
                    have g1 := u1.below (b.alloc hB _) hB
                    have g2 := (but_setCell W1 wr.heap.size 4 x).below g1 hB
                    have g3 := (but_setCell _ wr.heap.size 10 y).below g2 hB
                    exact g3.alloc g3.size _
                  clear c F O O1 u1 b
                  go_wp2_with (first | (at_builtin; refine app_one PK _ rfl _ _ rfl (w.heap.size + 1) _ L rfl (O2 _ _ _) _ 1 ⟨tos, id, false, mo, st + A8, li, pr, fr, tt, o, d.extract A d.size⟩ 24 rfl (Blk.newAt _ _ _ (by simp)) (by unfold maxLen; omega) (by show (L.length + 1) * 88 ≤ 140737488355328; omega) (F2 _ _ _).lt ?_))
                  intro v' W2 O3 b3 _
                  have F3 := (F2 _ _ _).below b3 (by omega)
                  have b4 := (b2 _ _ _).trans (b3.mono (by omega))
                  clear O2 F2 b2 F1 B1 c1 f1 c2
                  go_wp2_with fail
                  go_roundw
                  case rel => exact ⟨k + 1, by simp, hk1, hI _ _ O3, F3, b4⟩
                  case measure => simp [intOf]; omega
              · have hkn : k = npc (8 * E) d.size := by
                  have := (npc_lt (n := d.size) (k := k) hz); omega
                have hA : ¬ ((k * (8 * E) : Nat) : Int) < d.size := by omega
                have hi1 : (k : Int) * 8 * (E : Int) = ((k * (8 * E) : Nat) : Int) := by rw [Int.natCast_mul, Int.natCast_mul, ← Int.mul_assoc]; rfl
                have hI : Own PK wr (w.heap.size + 1) u9 (pcs ⟨tos, id, false, mo, st, li, pr, fr, tt, o, d⟩ (8 * E)) := by unfold pcs; rw [hkn] at O; exact O
                have hkb : npc (8 * E) d.size * (8 * E) ≤ d.size + 8 * E := by
                  have := Nat.div_mul_le_self (d.size + 8 * E - 1) (8 * E)
                  unfold npc; omega
                rw [← hkn] at hkb
                have hk9 : k ≤ k * (8 * E) := Nat.le_mul_of_pos_right k hz
                generalize hkz : k * (8 * E) = A at *
                have hk10 : (k : Int) ≤ 200000 := by omega
                have hA2 : (A : Int) ≤ 200000 := by omega
                clear O hk hkn hkz h hkb hk9
                go_wp2_with fail
                go_ret2
                exact ⟨_, rfl, hI.mono (by omega), b⟩
  · have e1 : spe p m = p.err := by unfold spe; rw [if_pos he]
    have e2 : spl p m = [] := by unfold spl; rw [e1, if_pos he]
    rw [e1, e2]
    generalize p.out = T at CW
    generalize p.err = er at CW he ⊢
    have he' : (er != 0) = true := by simpa using he
    clear e1 e2
    go_enter Try.func10, Try.ntmps10
    go_wp2_with (refine blk_load _ rfl 24 _ rfl w.heap.size rfl _ _ F0 _ Try.underlying24 rfl 11 pk_info rfl ?_)
    refine (CW _).mono ?_
    rintro r w1 ⟨rfl, hb1⟩
    have b1 := b0.trans (hb1.mono b0.size)
    have F1 := F0.below hb1 F0.lt
    clear CW F0
    go_wp2_with fail
    go_ret2
    exact ⟨_, rfl, Own.nil _ _ _, b1⟩
end Go.Proofs.Ytlbpapngcgnepaa.frso
