/- The walk through custlaw.TablePuts. -/
import Derived.Test.YtmnmjmbfnecmoaaTabRef5
import Derived.Test.YtmnmjmbfnecmoaaTabKeep
namespace Go.Proofs.Ytmnmjmbfnecmoaa.tpi
open Go.ChangeShapes Go.WideShapes Go.ChangeAt Go.RowKit Go.BigFrame
open Go.Proofs.Ytmnmjmbfnecmoaa Go.Proofs.Ytmnmjmbfnecmoaa.tm Go.Proofs.Ytmnmjmbfnecmoaa.tb Go.Proofs.Ytmnmjmbfnecmoaa.tsh Go.Proofs.Ytmnmjmbfnecmoaa.tg Go.Proofs.Ytmnmjmbfnecmoaa.tp Go.Proofs.Ytmnmjmbfnecmoaa.tr Go.Proofs.Ytmnmjmbfnecmoaa.tk Go.Proofs.Ytmnmjmbfnecmoaa.boxes Go.Proofs.Ytmnmjmbfnecmoaa.rwr
open Go.Proofs.Ytmnmjmbfnecmoaa.rws (Knd Own)

/-- what the law's own loop has found -/
def Seen (l : List St) (k : Nat) (i : Nat) (a b : Int) : Prop := ((∃ j, j < i ∧ (ax l j).u = true ∧ (ax l j).k = k) → a = gv l k ∧ b = 0) ∧ ((¬ ∃ j, j < i ∧ (ax l j).u = true ∧ (ax l j).k = k) → a = 0 ∧ b = 7)
theorem seen_zero (l : List St) (k : Nat) : Seen l k 0 0 7 := ⟨fun ⟨j, hj, _⟩ => absurd hj (by omega), fun _ => ⟨rfl, rfl⟩⟩
theorem seen_no {l : List St} {k i : Nat} {a b : Int} (h : Seen l k i a b) (hn : ¬ ((ax l i).u = true ∧ (ax l i).k = k)) : Seen l k (i + 1) a b := by
  have : (∃ j, j < i + 1 ∧ (ax l j).u = true ∧ (ax l j).k = k) ↔ ∃ j, j < i ∧ (ax l j).u = true ∧ (ax l j).k = k := by
    constructor
    · rintro ⟨j, hj, hu⟩
      by_cases e : j = i
      · subst e; exact absurd hu hn
      · exact ⟨j, by omega, hu⟩
    · rintro ⟨j, hj, hu⟩; exact ⟨j, by omega, hu⟩
  unfold Seen
  rw [this]; exact h
theorem seen_yes {l : List St} {k i : Nat} (ht : terr l = 0) (hi : i < l.length) (hu : (ax l i).u = true) (hk : (ax l i).k = k) : Seen l k (i + 1) (ax l i).v 0 := by
  refine ⟨fun _ => ⟨?_, rfl⟩, fun h => absurd ⟨i, by omega, hu, hk⟩ h⟩
  exact (fe_yes ht ⟨i, hi, st_eta _ hu hk⟩).2.symm
theorem seen_end {l : List St} {k : Nat} {a b : Int} (ht : terr l = 0) (h : Seen l k l.length a b) : a = gv l k ∧ b = fe l k := by
  rcases fe_val ht k with ⟨e, j, hj, ev⟩ | ⟨e, e2, hn⟩
  · obtain ⟨h1, h2⟩ := h.1 ⟨j, hj, by rw [ev], by rw [ev]⟩
    exact ⟨h1, by rw [h2, e]⟩
  · obtain ⟨h1, h2⟩ := h.2 fun ⟨j, hj, hu, hk⟩ => hn _ ⟨j, hj, st_eta _ hu hk⟩
    exact ⟨by rw [h1, e2], by rw [h2, e]⟩
theorem rd_get {w : World} {sa : Option Addr} {n sc : Nat} {l : List St} (h : Rd SK w (.slice sa n sc) l) (hn : 0 < n) : ∃ b off, sa = some ⟨b, off, none⟩ ∧ b < w.heap.size ∧ ∀ j x, l[j]? = some x → ∀ i, i < SK.k → w.cell? ⟨b, off + j * SK.k + i, none⟩ = (SK.enc x)[i]? := by
  obtain ⟨sa', sc', e, _, _, hc⟩ := h
  simp only [Value.slice.injEq] at e
  obtain ⟨rfl, e2, _⟩ := e
  exact hc (by omega)
set_option maxRecDepth 20000 in
set_option maxHeartbeats 8000000 in
theorem walk (v : Value) (l : List St) (k : Nat) (y : Int) (w : World) (hr : Rd SK w v l) (hk : Ky l) (hkk : k < 18446744073709551616) :
    Calls Try.prog 4 #[.agg #[v], .int .u64 (k : Int), .int .i64 y] w fun e w' => e = .returned (.bool true) ∧ Below w.heap.size w w' := by
  have C1 := fun u hu => put_any v l k y u hu
  have C2 := fun u hu => rp.rput_any v l k y u hu hk hkk
  have C3 := fun u hu => remove_any v l k u hu
  have C4 := fun u hu => rq.rremove_any v l k u hu hk
  have C5 := fun u hu => get_any v l k u hu
  have C6 := fun u hu => rr.right_any v l u hu hk
  have S1 := fun u a b => same_any a b (pl l k y) u
  have S2 := fun u a b => same_any a b (rl l k) u
  have HT : Hid (terr l ≠ 0 → fe l k = terr l ∧ gv l k = 0) := fun h => by
    rcases fe_cases l k with ⟨a, _, _, b⟩ | ⟨_, a, _⟩ | ⟨_, a, _⟩
    · exact ⟨a, b⟩
    · exact absurd a h
    · exact absurd a h
  have HG : Hid (∀ i, i < l.length → l[i]? = some (ax l i)) := fun i hi => ax_get hi
  have HS0 : Hid (Seen l k 0 0 7) := seen_zero l k
  have HSn : Hid (∀ i a b, Seen l k i a b → ¬ ((ax l i).u = true ∧ (ax l i).k = k) → Seen l k (i + 1) a b) := fun i a b => seen_no
  have HSy : Hid (terr l = 0 → ∀ i, i < l.length → (ax l i).u = true → (ax l i).k = k → Seen l k (i + 1) (ax l i).v 0) := fun ht i => seen_yes ht
  have HSe : Hid (terr l = 0 → ∀ a b, Seen l k l.length a b → a = gv l k ∧ b = fe l k) := fun ht a b => seen_end ht
  generalize pe l k = PE at *
  generalize pl l k y = PL at *
  generalize fe l k = FE at *
  generalize rl l k = RL at *
  generalize gv l k = GV at *
  have F0 := Blk.new w #[v] 24
  have d0 := (Below.refl w.heap.size w).alloc (Nat.le_refl _) (.cells #[v] 24)
  have r0 := hr.below d0
  have hnm : l.length ≤ 9223372036854775807 := by
    obtain ⟨_, _, _, hm, _⟩ := hr
    unfold maxLen at hm; omega
  obtain ⟨sa, sc, rfl⟩ := hr.form
  generalize hn : l.length = n at *
  clear hn hr hk hkk
  have c0 := F0.cell
  have dw0 : w.heap.size ≤ w.heap.size := Nat.le_refl _
  go_enter Try.func4, Try.ntmps4
  go_wp2_with fail
  refine (C1 _ r0).mono ?_
  rintro e w1 ⟨v1, rfl, o1, l1⟩
  have F1' := F0.below l1 F0.lt
  have d1' := d0.trans (l1.mono d0.size)
  have r1' := r0.below l1
  have a1' := Own.rd o1
  obtain ⟨sa1, sc1, rfl⟩ := a1'.form
  obtain ⟨n1, hn1⟩ : ∃ n, n = PL.length := ⟨_, rfl⟩
  rw [← hn1] at a1' ⊢
  clear C1 F0 d0 r0 l1 o1 c0 hn1 dw0
  have dA := (Below.refl w1.heap.size w1).alloc (Nat.le_refl _) (.cells Z1 24)
  go_upto_region 2 with (refine blk_store _ rfl 24 _ _ rfl w1.heap.size _ rfl rfl _ _ (Blk.new w1 Z1 24) 1 tb_info rfl rfl (tb_one _ _ _) ?_; intro W1 X1_1 p1)
  have l1 := p1.below dA (Nat.le_refl _)
  have F1 := F1'.below l1 F1'.lt
  have d1 := d1'.trans (l1.mono d1'.size)
  have r1 := r1'.below l1
  have a1_1 := a1'.below l1
  have c0 := F1.cell
  clear F1' d1' r1' a1' dA p1 l1
  generalize w1.heap.size = x1 at *
  go_wp2_with fail
  refine (C2 _ r1).mono ?_
  rintro e w2 ⟨v2, rfl, o2, l2⟩
  have F2' := F1.below l2 F1.lt
  have d2' := d1.trans (l2.mono d1.size)
  have r2' := r1.below l2
  have a2' := Own.rd o2
  have a1_2' := a1_1.below l2
  have X1_2' := X1_1.below l2 X1_1.lt
  obtain ⟨sa2, sc2, rfl⟩ := a2'.form
  obtain ⟨n2, hn2⟩ : ∃ n, n = PL.length := ⟨_, rfl⟩
  rw [← hn2] at a2' ⊢
  clear C2 F1 d1 r1 l2 o2 c0 hn2 a1_1 X1_1
  have dA := (Below.refl w2.heap.size w2).alloc (Nat.le_refl _) (.cells Z1 24)
  go_upto_region 3 with (refine blk_store _ rfl 24 _ _ rfl w2.heap.size _ rfl rfl _ _ (Blk.new w2 Z1 24) 1 tb_info rfl rfl (tb_one _ _ _) ?_; intro W2 X2_2 p2)
  have l2 := p2.below dA (Nat.le_refl _)
  have F2 := F2'.below l2 F2'.lt
  have d2 := d2'.trans (l2.mono d2'.size)
  have r2 := r2'.below l2
  have a2_2 := a2'.below l2
  have c0 := F2.cell
  have a1_2 := a1_2'.below l2
  have X1_2 := X1_2'.below l2 X1_2'.lt
  clear F2' d2' r2' a2' dA p2 l2 a1_2' X1_2'
  generalize w2.heap.size = x2 at *
  go_wp2_with fail
  refine (C3 _ r2).mono ?_
  rintro e w3 ⟨v3, rfl, o3, l3⟩
  have F3' := F2.below l3 F2.lt
  have d3' := d2.trans (l3.mono d2.size)
  have r3' := r2.below l3
  have a3' := Own.rd o3
  have a1_3' := a1_2.below l3
  have X1_3' := X1_2.below l3 X1_2.lt
  have a2_3' := a2_2.below l3
  have X2_3' := X2_2.below l3 X2_2.lt
  obtain ⟨sa3, sc3, rfl⟩ := a3'.form
  obtain ⟨n3, hn3⟩ : ∃ n, n = RL.length := ⟨_, rfl⟩
  rw [← hn3] at a3' ⊢
  clear C3 F2 d2 r2 l3 o3 c0 hn3 a1_2 X1_2 a2_2 X2_2
  have dA := (Below.refl w3.heap.size w3).alloc (Nat.le_refl _) (.cells Z1 24)
  go_upto_region 4 with (refine blk_store _ rfl 24 _ _ rfl w3.heap.size _ rfl rfl _ _ (Blk.new w3 Z1 24) 1 tb_info rfl rfl (tb_one _ _ _) ?_; intro W3 X3_3 p3)
  have l3 := p3.below dA (Nat.le_refl _)
  have F3 := F3'.below l3 F3'.lt
  have d3 := d3'.trans (l3.mono d3'.size)
  have r3 := r3'.below l3
  have a3_3 := a3'.below l3
  have c0 := F3.cell
  have a1_3 := a1_3'.below l3
  have X1_3 := X1_3'.below l3 X1_3'.lt
  have a2_3 := a2_3'.below l3
  have X2_3 := X2_3'.below l3 X2_3'.lt
  clear F3' d3' r3' a3' dA p3 l3 a1_3' X1_3' a2_3' X2_3'
  generalize w3.heap.size = x3 at *
  go_wp2_with fail
  refine (C4 _ r3).mono ?_
  rintro e w4 ⟨v4, rfl, o4, l4⟩
  have F4' := F3.below l4 F3.lt
  have d4' := d3.trans (l4.mono d3.size)
  have r4' := r3.below l4
  have a4' := Own.rd o4
  have a1_4' := a1_3.below l4
  have X1_4' := X1_3.below l4 X1_3.lt
  have a2_4' := a2_3.below l4
  have X2_4' := X2_3.below l4 X2_3.lt
  have a3_4' := a3_3.below l4
  have X3_4' := X3_3.below l4 X3_3.lt
  obtain ⟨sa4, sc4, rfl⟩ := a4'.form
  obtain ⟨n4, hn4⟩ : ∃ n, n = RL.length := ⟨_, rfl⟩
  rw [← hn4] at a4' ⊢
  clear C4 F3 d3 r3 l4 o4 c0 hn4 a1_3 X1_3 a2_3 X2_3 a3_3 X3_3
  have dA := (Below.refl w4.heap.size w4).alloc (Nat.le_refl _) (.cells Z1 24)
  go_upto_region 5 with (refine blk_store _ rfl 24 _ _ rfl w4.heap.size _ rfl rfl _ _ (Blk.new w4 Z1 24) 1 tb_info rfl rfl (tb_one _ _ _) ?_; intro W4 X4_4 p4)
  have l4 := p4.below dA (Nat.le_refl _)
  have F4 := F4'.below l4 F4'.lt
  have d4 := d4'.trans (l4.mono d4'.size)
  have r4 := r4'.below l4
  have a4_4 := a4'.below l4
  have c0 := F4.cell
  have a1_4 := a1_4'.below l4
  have X1_4 := X1_4'.below l4 X1_4'.lt
  have a2_4 := a2_4'.below l4
  have X2_4 := X2_4'.below l4 X2_4'.lt
  have a3_4 := a3_4'.below l4
  have X3_4 := X3_4'.below l4 X3_4'.lt
  clear F4' d4' r4' a4' dA p4 l4 a1_4' X1_4' a2_4' X2_4' a3_4' X3_4'
  generalize w4.heap.size = x4 at *
  go_wp2_with fail
  refine (C5 _ r4).mono ?_
  rintro e w5 ⟨rfl, l5⟩
  have F5 := F4.below l5 F4.lt
  have d5 := d4.trans (l5.mono d4.size)
  have r5 := r4.below l5
  have a1_5 := a1_4.below l5
  have X1_5 := X1_4.below l5 X1_4.lt
  have a2_5 := a2_4.below l5
  have X2_5 := X2_4.below l5 X2_4.lt
  have a3_5 := a3_4.below l5
  have X3_5 := X3_4.below l5 X3_4.lt
  have a4_5 := a4_4.below l5
  have X4_5 := X4_4.below l5 X4_4.lt
  clear C5 F4 d4 r4 l5 c0 a1_4 X1_4 a2_4 X2_4 a3_4 X3_4 a4_4 X4_4
  have c0 := F5.cell
  go_wp2_with fail
  refine (C6 _ r5).mono ?_
  rintro e w6 ⟨rfl, l6⟩
  have F6 := F5.below l6 F5.lt
  have d6 := d5.trans (l6.mono d5.size)
  have r6 := r5.below l6
  have a1_6 := a1_5.below l6
  have X1_6 := X1_5.below l6 X1_5.lt
  have a2_6 := a2_5.below l6
  have X2_6 := X2_5.below l6 X2_5.lt
  have a3_6 := a3_5.below l6
  have X3_6 := X3_5.below l6 X3_5.lt
  have a4_6 := a4_5.below l6
  have X4_6 := X4_5.below l6 X4_5.lt
  clear C6 F5 d5 r5 l6 c0 a1_5 X1_5 a2_5 X2_5 a3_5 X3_5 a4_5 X4_5
  by_cases ht : terr l = 0
  · have HSy' := HSy.out ht
    have HSe' := HSe.out ht
    have HY : Hid (∀ i, i < n → (ax l i).u = true → (ax l i).k = k → Seen l k (i + 1) (ax l i).v 0) := HSy'
    have HE : Hid (∀ a b, Seen l k n a b → a = GV ∧ b = FE) := HSe'
    rw [ht]
    clear HSy HSe HSy' HSe' HT ht
    have c0 := F6.cell
    go_wp2_with fail
    have hc := fun h => rd_get r6 h
    clear r6
    go_loopw [17, 18, 60] (fun s17 s18 s60 wr => ∃ (i : Nat) (a b : Int), s60 = .int .i64 (i : Int) ∧ i ≤ n ∧ s17 = .int .i64 a ∧ s18 = .int .i64 b ∧ Hid (Seen l k i a b) ∧ Below w6.heap.size w6 wr) (fun _ _ i _ => n - (intOf i).toNat)
    case atStart => exact ⟨0, 0, 7, rfl, Nat.zero_le _, rfl, rfl, HS0, Below.refl _ _⟩
    case round =>
      obtain ⟨i, qa, qb, rfl, hi, rfl, rfl, HS, bel⟩ := hrel
      by_cases hlt : i < n
      · have hlt' : (i : Int) < (n : Int) := by omega
        obtain ⟨b, off, rfl, hb, hx⟩ := hc (by omega)
        have z : ∀ (j : Nat) x, l[j]? = some x → ∀ i, i < SK.k → wr.cell? ⟨b, off + j * SK.k + i, none⟩ = (SK.enc x)[i]? := fun j y hj i hi => (bel.cell (p := ⟨b, off + j * SK.k + i, none⟩) hb).trans (hx j y hj i hi)
        have gi := HG.out i hlt
        have HN : Hid (¬ ((ax l i).u = true ∧ (ax l i).k = k) → Seen l k (i + 1) qa qb) := fun h => HSn.out _ _ _ HS.out h
        have HYi : Hid ((ax l i).u = true → (ax l i).k = k → Seen l k (i + 1) (ax l i).v 0) := HY.out i hlt
        generalize ax l i = s at *
        obtain ⟨su, sk, sv⟩ := s
        have bel1 := bel.trans (((Below.refl wr.heap.size wr).alloc (Nat.le_refl _) (.cells #[.bool su, .int .u64 (sk : Int), .int .i64 sv] 40)).mono bel.size)
        clear hx hc HG HSn HY HE HS bel X1_6 X2_6 X3_6 X4_6 a1_6 a2_6 a3_6 a4_6 S1 S2 d6 F6
        cases su
        · have HS' : Hid (Seen l k (i + 1) qa qb) := HN.out fun h => by cases h.1
          clear HN HYi
          go_upto_region 12 with (refine rd_load SK _ rfl _ rfl b off l z i _ rfl rfl _ gi #[.bool false, .int .u64 (sk : Int), .int .i64 sv] rfl _ Try.underlying40 rfl ?_)
          go_wp2_with fail
          go_roundw
          case rel => exact ⟨i + 1, _, _, by go_num, by omega, rfl, rfl, HS', bel1⟩
          case measure => simp [intOf]; omega
        · by_cases hk : sk = k
          · have HS' : Hid (Seen l k (i + 1) sv 0) := HYi.out rfl hk
            subst hk
            clear HN HYi
            go_upto_region 12 with (refine rd_load SK _ rfl _ rfl b off l z i _ rfl rfl _ gi #[.bool true, .int .u64 (sk : Int), .int .i64 sv] rfl _ Try.underlying40 rfl ?_)
            go_wp2_with fail
            go_roundw
            case rel => exact ⟨i + 1, _, _, by go_num, by omega, rfl, rfl, HS', bel1⟩
            case measure => simp [intOf]; omega
          · have HS' : Hid (Seen l k (i + 1) qa qb) := HN.out fun h => hk h.2
            have hk' : ((sk : Int) == (k : Int)) = false := by simp; omega
            clear HN HYi hk
            go_upto_region 12 with (refine rd_load SK _ rfl _ rfl b off l z i _ rfl rfl _ gi #[.bool true, .int .u64 (sk : Int), .int .i64 sv] rfl _ Try.underlying40 rfl ?_)
            go_wp2_with fail
            go_roundw
            case rel => exact ⟨i + 1, _, _, by go_num, by omega, rfl, rfl, HS', bel1⟩
            case measure => simp [intOf]; omega
      · have hlt' : ¬ (i : Int) < (n : Int) := by omega
        have e : i = n := by omega
        subst e
        obtain ⟨rfl, rfl⟩ := HE.out _ _ HS.out
        have d9 := d6.trans (bel.mono d6.size)
        have S1' := S1 _ _ _ (a1_6.below bel) (a2_6.below bel)
        have X1_7 := X1_6.below bel X1_6.lt
        have X2_7 := X2_6.below bel X2_6.lt
        have X3_7 := X3_6.below bel X3_6.lt
        have X4_7 := X4_6.below bel X4_6.lt
        have a3_7 := a3_6.below bel
        have a4_7 := a4_6.below bel
        clear HY HE HS HSn HG S1 X1_6 X2_6 X3_6 X4_6 a1_6 a2_6 a3_6 a4_6 d6 bel hc c0
        have y1 := X1_7.cell
        have y2 := X2_7.cell
        go_wp2_with fail
        refine S1'.mono ?_
        rintro e w7 ⟨rfl, l7⟩
        have y3 := (X3_7.below l7 X3_7.lt).cell
        have y4 := (X4_7.below l7 X4_7.lt).cell
        have d7 := d9.trans (l7.mono d9.size)
        have S2' := S2 _ _ _ (a3_7.below l7) (a4_7.below l7)
        clear y1 y2 l7 a3_7 a4_7 X1_7 X2_7 X3_7 X4_7 S2 d9 S1'
        go_wp2_with fail
        refine S2'.mono ?_
        rintro e w8 ⟨rfl, l8⟩
        have d8 := d7.trans (l8.mono d7.size)
        clear y3 y4 l8 d7 S2'
        go_wp2_with fail
        go_ret
        exact ⟨rfl, d8⟩
  · obtain ⟨rfl, rfl⟩ := HT.out ht
    have ht' : (terr l == 0) = false := by simpa using ht
    clear HS0 HSn HSy HSe HT HG ht F6 r6
    generalize terr l = E at *
    have y1 := X1_6.cell
    have y2 := X2_6.cell
    go_wp2_with fail
    refine (S1 _ _ _ a1_6 a2_6).mono ?_
    rintro e w7 ⟨rfl, l7⟩
    have y3 := (X3_6.below l7 X3_6.lt).cell
    have y4 := (X4_6.below l7 X4_6.lt).cell
    have d7 := d6.trans (l7.mono d6.size)
    have S2' := S2 _ _ _ (a3_6.below l7) (a4_6.below l7)
    clear y1 y2 l7 a1_6 a2_6 a3_6 a4_6 X1_6 X2_6 X3_6 X4_6 S1 S2 d6
    go_wp2_with fail
    refine S2'.mono ?_
    rintro e w8 ⟨rfl, l8⟩
    have d8 := d7.trans (l8.mono d7.size)
    clear y3 y4 l8 d7 S2'
    go_wp2_with fail
    go_ret
    exact ⟨rfl, d8⟩
end Go.Proofs.Ytmnmjmbfnecmoaa.tpi
