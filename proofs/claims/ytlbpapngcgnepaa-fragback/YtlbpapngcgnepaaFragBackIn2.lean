/- The walk through custkeep.FragBack, where there are pieces. -/
import Derived.Test.YtlbpapngcgnepaaFragBackIn
namespace Go.Proofs.Ytlbpapngcgnepaa.frbi
open Go.ChangeShapes Go.WideShapes Go.ChangeAt Go.RowKit Go.BigFrame
open Go.Proofs.Ytlbpapngcgnepaa Go.Proofs.Ytlbpapngcgnepaa.ipb Go.Proofs.Ytlbpapngcgnepaa.boxes Go.Proofs.Ytlbpapngcgnepaa.ipr Go.Proofs.Ytlbpapngcgnepaa.frb Go.Proofs.Ytlbpapngcgnepaa.frp Go.Proofs.Ytlbpapngcgnepaa.pl Go.Proofs.Ytlbpapngcgnepaa.frt Go.Proofs.Ytlbpapngcgnepaa.frfe Go.Proofs.Ytlbpapngcgnepaa.frm Go.Proofs.Ytlbpapngcgnepaa.frl Go.Proofs.Ytlbpapngcgnepaa.frbm
open Go.Proofs.Ytlbpapngcgnepaa.rws (Own Knd elem_load)

/-- a slice of whatever row -/
theorem prd_form {w : World} {v : Value} {L : List Hp} (h : PRd w v L) : ∃ sa sc, v = .slice sa L.length sc := by
  obtain ⟨X, hr, hl, _⟩ := h
  obtain ⟨sa, sc, rfl⟩ := hr.form
  exact ⟨sa, sc, by rw [hl]⟩
theorem pcs_at (p : Pk) (z k : Nat) (hk : k < npc z p.d.size) : (pcs p z)[k]? = some (pc p z k) := by
  unfold pcs
  rw [List.getElem?_map, List.getElem?_range hk]; rfl
/-- a piece that is not the last one -/
theorem step1 {p : Pk} {z : Nat} (h : Env p z) {I : List Nat} (hI : Ix p z I) {k N : Nat} (hN : npc z p.d.size = N) (hl : N - 1 ∉ I) (hk : k < N - 1) :
    ∃ J, Ix p z J ∧ N - 1 ∉ J ∧ feed (pool p z I) (pc p z k) = ⟨pool p z J, zeroP, false, 0⟩ := by
  have hkN : k < npc z p.d.size := by omega
  have := feed_piece h hI hkN
  by_cases hm : k ∈ I
  · rw [if_pos hm] at this
    exact ⟨I, hI, hl, this⟩
  · rw [if_neg hm, if_neg] at this
    · refine ⟨insI k I, hI.ins hkN hm, fun e => ?_, this⟩
      rcases (ins_mem k I _).1 e with e | e
      · omega
      · exact hl e
    · intro e
      have : N - 1 ∈ insI k I := by rw [e, List.mem_range]; omega
      rcases (ins_mem k I _).1 this with e | e
      · omega
      · exact hl e
/-- a piece, the last ones being there -/
theorem step2 {p : Pk} {z : Nat} (h : Env p z) {I : List Nat} (hI : Ix p z I) {j N : Nat} (hN : npc z p.d.size = N) (hne : I ≠ List.range N) (hj : j < N) (hin : ∀ x, x < N → N ≤ x + j → x ∈ I) :
    feed (pool p z I) (pc p z (N - 1 - j)) = ⟨[], p, true, 0⟩ ∨
    ∃ J, Ix p z J ∧ J ≠ List.range N ∧ (∀ x, x < N → N ≤ x + (j + 1) → x ∈ J) ∧ feed (pool p z I) (pc p z (N - 1 - j)) = ⟨pool p z J, zeroP, false, 0⟩ := by
  have hkN : N - 1 - j < npc z p.d.size := by omega
  have := feed_piece h hI hkN
  rw [hN] at this
  by_cases hm : N - 1 - j ∈ I
  · rw [if_pos hm] at this
    refine Or.inr ⟨I, hI, hne, fun x hx hxj => ?_, this⟩
    by_cases e : x = N - 1 - j
    · rw [e]; exact hm
    · exact hin x hx (by omega)
  · rw [if_neg hm] at this
    by_cases hr : insI (N - 1 - j) I = List.range N
    · rw [if_pos hr] at this
      exact Or.inl this
    · rw [if_neg hr] at this
      refine Or.inr ⟨_, hI.ins hkN hm, hr, fun x hx hxj => ?_, this⟩
      by_cases e : x = N - 1 - j
      · rw [e]; exact (ins_mem _ _ _).2 (Or.inl rfl)
      · exact (ins_mem _ _ _).2 (Or.inr (hin x hx (by omega)))
set_option maxRecDepth 20000 in
set_option maxHeartbeats 8000000 in
theorem good (p0 p : Pk) (m : Int) (vo : Value) (no : Nat) (w : World) (h : 20 + p0.o.size + p0.d.size ≤ 9223372036854775807) (ha : p0.Adr) (ep : p = { p0 with mo := false, st := 0, wh := false }) (hro : Ro w vo no)
    (he : spe p m = 0) (h2 : 2 ≤ (spl p m).length) (h64 : (spl p m).length ≤ 64) :
    Calls Try.prog 5 #[.agg p0.cells, .int .i64 m, vo] w fun e w' => e = .returned (.bool true) ∧ Below w.heap.size w w' := by
  have hap : p.Adr := by rw [ep]; exact ⟨ha.f0, ha.f1, ha.t0, ha.t1⟩
  have CS := fun u => frs.split_any p m u (by rw [ep]; exact h) hap
  obtain ⟨E, esp⟩ := env_of he (by rw [ep]) (by rw [ep]) (by rw [ep]) h2 h64
  rw [esp] at CS
  rw [he] at CS
  generalize each p m = z at E CS
  have F0 : Blk (w.alloc (.cells p.cells 24)) w.heap.size p.cells 24 := Blk.new _ _ _
  have b0 := (Below.refl w.heap.size w).alloc (Nat.le_refl _) (.cells p.cells 24)
  have Ep : Hid (p = { p0 with mo := false, st := 0, wh := false }) := ep
  have hN2 := E.N2
  have hN64 := E.N64
  clear he h2 h64 esp h
  obtain ⟨N, hN⟩ : ∃ N, N = npc z p.d.size := ⟨_, rfl⟩
  have HN : Hid (npc z p.d.size = N) := hN.symm
  rw [← hN] at hN2 hN64
  clear hN
  have hlen : (pcs p z).length = N := by rw [← HN.out]; simp [pcs]
  obtain ⟨sa, oc, rfl, hnm, hoc⟩ := hro
  have hnm' : no ≤ 9223372036854775807 := by unfold maxLen at hnm; omega
  have F0' : Blk (w.alloc (.cells (Pk.cells { p0 with mo := false, st := 0, wh := false }) 24)) w.heap.size p.cells 24 := by rw [← Ep.out]; exact F0
  have CS' := CS (w.alloc (.cells (Pk.cells { p0 with mo := false, st := 0, wh := false }) 24))
  have b0' : Below w.heap.size w (w.alloc (.cells (Pk.cells { p0 with mo := false, st := 0, wh := false }) 24)) := (Below.refl w.heap.size w).alloc (Nat.le_refl _) _
  clear ep F0 b0 CS
  go_enter Try.func5, Try.ntmps5
  go_wp2_with (refine blk_load _ rfl 24 _ rfl w.heap.size rfl _ _ F0' _ Try.underlying24 rfl 11 pk_info rfl ?_)
  refine CS'.mono ?_
  rintro r w1 ⟨v1, rfl, O1, hb1⟩
  have b1 := b0'.trans (hb1.mono b0'.size)
  have F1 := F0'.below hb1 F0'.lt
  obtain ⟨g, cap, rfl, g0, g1, _, _, _⟩ := O1.form (by omega)
  rw [hlen] at O1
  rw [hlen]
  clear CS' F0' hb1 b0'
  go_wp2_with fail
  refine (lives _).mono ?_
  rintro r w2 ⟨rfl, hb2⟩
  have b2 := b1.trans (hb2.mono b1.size)
  have F2 := F1.below hb2 F1.lt
  have O2 := O1.kept hb2
  have g2 : g < w2.heap.size := Nat.lt_of_lt_of_le g1 hb2.size
  clear hb2 b1 F1 O1 g1 hlen
  have n64 : decide (64 < (N : Int)) = false := by simp; omega
  have n2 : decide ((N : Int) < 2) = false := by simp; omega
  go_wp2_with fail
  go_loopw [8, 9, 11, 12, 44] (fun s8 s9 s11 s12 s44 wr => ∃ (i : Nat) (I : List Nat), s8 = .int .i64 0 ∧ s44 = .int .i64 (i : Int) ∧ i ≤ no ∧ Ix p z I ∧ (N - 1) ∉ I ∧ PRd wr s9 (pool p z I) ∧ Below w2.heap.size w2 wr) (fun _ _ _ _ i _ => no - (intOf i).toNat)
  case atStart => exact ⟨0, [], rfl, rfl, Nat.zero_le _, ⟨List.Pairwise.nil, fun x hx => by simp at hx⟩, by simp, prd_nil _, Below.refl _ _⟩
  case round =>
    obtain ⟨i, I, rfl, rfl, hi, hI, hlast, hP, bel⟩ := hrel
    have belw := b2.trans (bel.mono b2.size)
    have O3 := O2.kept bel
    have F3 := F2.below bel F2.lt
    by_cases hlt : i < no
    · obtain ⟨ob, ooff, rfl, hob, hcell⟩ := hoc (by omega)
      obtain ⟨x, hx⟩ := hcell i hlt
      have hx3 : wr.cell? ⟨ob, ooff + i, none⟩ = some (.int .i64 x) := (belw.cell (p := ⟨ob, ooff + i, none⟩) hob).trans hx
      have hob3 : ob < wr.heap.size := Nat.lt_of_lt_of_le hob belw.size
      have hlt' : (i : Int) < (no : Int) := by omega
      have HI : Hid (Ix p z I ∧ N - 1 ∉ I) := ⟨hI, hlast⟩
      clear hI hlast hcell hx
      by_cases xn : x < 0
      · have xn' : decide (x < 0) = true := by simpa using xn
        go_wp2_with fail
        go_roundw
        case rel => exact ⟨i + 1, I, rfl, by simp, by omega, HI.out.1, HI.out.2, hP, bel⟩
        case measure => simp [intOf]; omega
      have xn' : decide (x < 0) = false := by simpa using xn
      by_cases xg : (N : Int) - 1 ≤ x
      · have xg' : decide ((N : Int) - 1 ≤ x) = true := by simpa using xg
        go_wp2_with fail
        go_roundw
        case rel => exact ⟨i + 1, I, rfl, by simp, by omega, HI.out.1, HI.out.2, hP, bel⟩
        case measure => simp [intOf]; omega
      have xg' : decide ((N : Int) - 1 ≤ x) = false := by simpa using xg
      obtain ⟨k, ek⟩ : ∃ k : Nat, x = (k : Int) := ⟨x.toNat, by omega⟩
      subst ek
      have hkN : k < N - 1 := by omega
      have hk' : (k : Int) < (N : Int) := by omega
      have hkn : k < npc z p.d.size := by rw [HN.out]; omega
      have hq := pcs_at p z k hkn
      obtain ⟨J, hJ, hJl, hf⟩ := step1 E HI.out.1 HN.out HI.out.2 hkN
      have CF := feed_call E hap HI.out.1 hkn u9 wr hP
      rw [hf] at CF
      have HJ : Hid (Ix p z J ∧ N - 1 ∉ J) := ⟨hJ, hJl⟩
      clear hf hJ hJl HI hkn xn xg hkN
      generalize pc p z k = q at hq CF
      go_wp2_with (refine elem_load PK _ rfl _ rfl _ g N cap (pcs p z) O3 k _ rfl rfl q hq q.cells rfl _ Try.underlying24 rfl ?_)
      refine CF.mono ?_
      rintro r w5 ⟨v5, Q5, rfl, P5, hQ5, hb5⟩
      have hP5 := pool_prd P5
      rw [hQ5] at hP5
      have bel5 := bel.trans (hb5.mono bel.size)
      clear CF P5 hQ5 hP O3 F3 hb5
      go_wp2_with fail
      go_roundw
      case rel => exact ⟨i + 1, J, rfl, by simp, by omega, HJ.out.1, HJ.out.2, hP5, bel5⟩
      case measure => simp [intOf]; omega
    · have hlt' : ¬ (i : Int) < (no : Int) := by omega
      have hlt'' : decide ((i : Int) < (no : Int)) = false := by simp; omega
      have hne : I ≠ List.range N := fun e => hlast (by rw [e, List.mem_range]; omega)
      have HI : Hid (Ix p z I ∧ I ≠ List.range N) := ⟨hI, hne⟩
      clear hoc hI hlast hne
      go_wp2_with fail
      generalize wr = V at *
      go_loopw [8, 9, 13, 14, 15, 76] (fun s8 s9 s13 s14 s15 s76 wr => ∃ (j : Nat) (I : List Nat), s8 = .int .i64 0 ∧ s76 = .int .i64 (j : Int) ∧ j ≤ N ∧ Hid (Ix p z I ∧ I ≠ List.range N ∧ ∀ x, x < N → N ≤ x + j → x ∈ I) ∧ PRd wr s9 (pool p z I) ∧ Below V.heap.size V wr) (fun _ _ _ _ _ i _ => N - (intOf i).toNat)
      case atStart => exact ⟨0, I, rfl, rfl, Nat.zero_le _, ⟨HI.out.1, HI.out.2, fun x hx hxj => absurd hx (by omega)⟩, hP, Below.refl _ _⟩
      case round =>
        obtain ⟨j, I2, rfl, rfl, hj, HJ, hP2, bel2⟩ := hrel
        have belV := belw.trans (bel2.mono belw.size)
        have O4 := O3.kept bel2
        have F4 := F3.below bel2 F3.lt
        by_cases hjn : j < N
        · obtain ⟨a1, a2, a3⟩ := HJ.out
          have hjn' : (j : Int) < (N : Int) := by omega
          have hst := step2 E a1 HN.out a2 hjn a3
          have hkn : N - 1 - j < npc z p.d.size := by rw [HN.out]; omega
          have hq := pcs_at p z (N - 1 - j) hkn
          have Zq := Blk.new wr zeroP.cells 24
          have balloc := (Below.refl wr.heap.size wr).alloc (Nat.le_refl _) (.cells zeroP.cells 24)
          have CF := feed_call E hap a1 hkn u9 (wr.alloc (.cells zeroP.cells 24)) (hP2.below balloc)
          obtain ⟨k, ek⟩ : ∃ k : Nat, k = N - 1 - j := ⟨_, rfl⟩
          rw [← ek] at hst hq CF
          have ek' : (N : Int) - 1 - (j : Int) = (k : Int) := by omega
          have hkN : (k : Int) < (N : Int) := by omega
          have O5 := O4.kept balloc
          have F5 := F4.below balloc F4.lt
          have bel3 := bel2.trans (balloc.mono bel2.size)
          have lq : wr.heap.size < (wr.alloc (.cells zeroP.cells 24)).heap.size := Zq.lt
          clear a1 a2 a3 HJ hkn ek hP2 balloc O4 F4
          rcases hst with hf | ⟨J, hJ, hJn, hJi, hf⟩
          · rw [hf] at CF
            clear hf
            generalize pc p z k = q at hq CF
            go_wp2_with (refine elem_load PK _ rfl _ rfl _ g N cap (pcs p z) O5 k _ rfl rfl q hq q.cells rfl _ Try.underlying24 rfl ?_)
            refine CF.mono ?_
            rintro r w5 ⟨v5, Q5, rfl, P5, hQ5, hb5⟩
            have hP5 := pool_prd P5
            rw [hQ5] at hP5
            obtain ⟨sa5, sc5, rfl⟩ := prd_form hP5
            have Z5 := Zq.below hb5 Zq.lt
            have F6 := F5.below hb5 F5.lt
            have bel5 := bel3.trans (hb5.mono bel3.size)
            have bw5 := belw.trans (bel5.mono belw.size)
            have wlt : w.heap.size < wr.heap.size := Nat.lt_of_lt_of_le F3.lt bel2.size
            clear CF P5 hQ5 hP5 O5 F5 hb5 bel3 bel5 Zq
            go_wp2_with (refine blk_store _ rfl 24 _ _ rfl wr.heap.size p.cells rfl rfl _ _ Z5 11 pk_info rfl rfl (pk_one p) ?_)
            intro W6 k6 u6
            have F7 := u6.blk F6 (by omega)
            have bw6 := u6.below bw5 (by omega)
            clear u6 F6 bw5 Z5
            go_wp2_with (first | (refine blk_load _ rfl 24 _ rfl wr.heap.size rfl _ _ k6 _ Try.underlying24 rfl 11 pk_info rfl ?_) | (refine blk_load _ rfl 24 _ rfl w.heap.size rfl _ _ F7 _ Try.underlying24 rfl 11 pk_info rfl ?_))
            go_ret
            exact ⟨rfl, bw6⟩
          · rw [hf] at CF
            have HJ2 : Hid (Ix p z J ∧ J ≠ List.range N ∧ ∀ x, x < N → N ≤ x + (j + 1) → x ∈ J) := ⟨hJ, hJn, hJi⟩
            clear hf hJ hJn hJi
            generalize pc p z k = q at hq CF
            go_wp2_with (refine elem_load PK _ rfl _ rfl _ g N cap (pcs p z) O5 k _ rfl rfl q hq q.cells rfl _ Try.underlying24 rfl ?_)
            refine CF.mono ?_
            rintro r w5 ⟨v5, Q5, rfl, P5, hQ5, hb5⟩
            have Z5 := Zq.below hb5 Zq.lt
            have bel5 := bel3.trans (hb5.mono bel3.size)
            have sz5 := hb5.size
            have szr := bel2.size
            clear CF O5 F5 hb5 bel3 Zq
            go_wp2_with (refine blk_store _ rfl 24 _ _ rfl wr.heap.size zeroP.cells rfl rfl _ _ Z5 11 pk_info rfl rfl (pk_one zeroP) ?_)
            intro W6 k6 u6
            have P6 := frt.Pool.but P5 Z5 u6
            have hP6 := pool_prd P6
            rw [hQ5] at hP6
            have bel6 := u6.below bel5 (by omega)
            clear u6 Z5 P5 P6 bel5 k6 hQ5
            go_wp2_with fail
            go_roundw
            case rel => exact ⟨j + 1, J, rfl, by simp, by omega, HJ2, hP6, bel6⟩
            case measure => simp [intOf]; omega
        · exfalso
          obtain ⟨a1, a2, a3⟩ := HJ.out
          apply a2
          have := all_range N I2 0 a1.s (fun x hx => ⟨Nat.zero_le _, by have := a1.b x hx; rw [HN.out] at this; exact this⟩) (fun x _ hx => a3 x hx (by omega))
          rw [this, Nat.sub_zero, List.range_eq_range']
end Go.Proofs.Ytlbpapngcgnepaa.frbi
