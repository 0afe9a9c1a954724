/- The walk of custkeep.BucketBounds. -/
import Derived.Test.YtfigjgefnmkkiaaBkLives
import Derived.Test.YtfigjgefnmkkiaaBkMath2
namespace Go.Proofs.Ytfigjgefnmkkiaa.bkt
open Go.ChangeShapes Go.WideShapes Go.ChangeAt Go.RowKit Go.BigFrame
open Go.Proofs.Ytfigjgefnmkkiaa Go.Proofs.Ytfigjgefnmkkiaa.boxes Go.Proofs.Ytfigjgefnmkkiaa.rwr
open Go.Proofs.Ytfigjgefnmkkiaa.rws (Knd Own)

theorem drop_cells {w : World} {l : List Dp} {sa : Option Addr} {n sc : Nat} (h : Rd DK w (.slice sa n sc) l) (hp : 0 < l.length) : ∃ b off, sa = some ⟨b, off, none⟩ ∧ b < w.heap.size ∧ ∀ (j : Nat) x, l[j]? = some x → w.cell? ⟨b, off + j * 2, none⟩ = some (.int .i64 x.a) ∧ w.cell? ⟨b, off + j * 2 + 1, none⟩ = some (.int .i64 x.n) := by
  obtain ⟨b, off, e, hb, hx⟩ := rd_spot h hp
  refine ⟨b, off, e, hb, fun j x hj => ⟨?_, ?_⟩⟩
  · have := hx j x hj 0 (by decide)
    simpa [DK] using this
  · have := hx j x hj 1 (by decide)
    simpa [DK] using this
set_option maxRecDepth 20000 in
set_option maxHeartbeats 8000000 in
theorem bounds_walk (b : Bu) (v : Value) (l : List Dp) (w : World) (hr : Rd DK w v l) : Calls Try.prog 4 #[.agg (Bu.cells b), v] w fun e w' => e = .returned (.bool true) ∧ Below w.heap.size w w' := by
  have CR : ∀ W, Rd DK W v l → _ := fun W h => run_any b v l W h
  have CV := lives
  have HN : Hid (rerr b l ≠ 0 → rtd b l = []) := fun h => if_neg h
  have HY : Hid (rerr b l = 0 → (rtd b l).length = l.length ∧ l.length ≤ 500) := fun h => ⟨rtd_len h, (rerr_zero.1 h).2.1⟩
  have HP : Hid (rerr b l = 0 → ∀ i k, i ≤ k → k ≤ l.length → P b l i ≤ P b l k ∧ 0 ≤ P b l i ∧ P b l k ≤ 1000000000 * 500) := fun h _ _ h1 h2 => P_facts h h1 h2
  have HO : Hid (rerr b l = 0 → ∀ k dk, l[k]? = some dk → ∃ p, (rtd b l)[k]? = some p ∧ P b l (k + 1) = P b l k + (if p then dk.n else 0) ∧ 0 ≤ dk.n ∧ dk.n ≤ 1000000000) := fun h _ _ h1 => by
    obtain ⟨p, e1, e2, e3, e4, _⟩ := one_facts h h1
    exact ⟨p, e1, e2, e3, e4⟩
  have HI : Hid (rerr b l = 0 → ∀ i k di dk, i ≤ k → l[i]? = some di → l[k]? = some dk → P b l (k + 1) - P b l i ≤ b.m + b.r * (dk.a - di.a) ∧ (i = 0 → P b l (k + 1) - P b l i ≤ b.h + b.r * (dk.a - b.a)) ∧ 0 ≤ dk.a - di.a ∧ dk.a - di.a ≤ 1099511627776 ∧ 0 ≤ b.r * (dk.a - di.a) ∧ b.r * (dk.a - di.a) ≤ 1099511627776000000 ∧ 0 ≤ dk.a - b.a ∧ dk.a - b.a ≤ 1099511627776 ∧ 0 ≤ b.r * (dk.a - b.a) ∧ b.r * (dk.a - b.a) ≤ 1099511627776000000) := fun h _ _ _ _ h1 h2 h3 => pair_facts h h1 h2 h3
  have HB : Hid (rerr b l = 0 → 1 ≤ b.m ∧ b.m ≤ 1000000000 ∧ 0 ≤ b.h ∧ b.h ≤ 1000000000) := fun h => by
    obtain ⟨c1, c2, c3, c4⟩ := chk_zero.1 (rerr_zero.1 h).1
    exact ⟨by omega, by omega, by omega, by omega⟩
  have H0 : Hid (P b l 0 = 0) := rfl
  have HG : Hid (∀ i, i < l.length → ∃ d, l[i]? = some d) := fun i hi => ⟨_, List.getElem?_eq_getElem hi⟩
  have hml := rd_len hr
  have b0 := (Below.refl w.heap.size w).alloc (Nat.le_refl _) (.cells (Bu.cells b) 23)
  have G := Blk.new w (Bu.cells b) 23
  have rd := hr.below b0
  obtain ⟨r, m, h, a⟩ := b
  have G : Blk (w.alloc (.cells (BC r m h a) 23)) w.heap.size (BC r m h a) 23 := G
  generalize hPf : P ⟨r, m, h, a⟩ l = Pf at *
  clear hPf
  generalize rst _ _ = R at *
  generalize rtd _ _ = D at *
  generalize rerr _ _ = E at *
  dsimp only [Bu.cells] at CR b0 rd HI HB
  clear hr
  obtain ⟨R0, R1, R2, R3⟩ := R
  dsimp only at CR
  go_enter Try.func4, Try.ntmps4
  go_upto_region 1 with fail
  generalize hW : w.alloc (Obj.cells (BC r m h a) 23) = W at *
  clear hW
  go_wp2_with (refine blk_load _ rfl 23 _ rfl w.heap.size rfl _ _ G _ Try.underlying23 rfl 4 bu_info rfl ?_)
  refine (CR _ rd).mono ?_
  rintro e w3 ⟨v3, rfl, O3, z⟩
  replace G := G.below z G.lt
  replace rd := rd.below z
  replace b0 := b0.trans (z.mono b0.size)
  clear z
  have d3 := Own.rd O3
  clear O3 CR
  obtain ⟨f3, g3, e_v3⟩ := d3.form
  subst e_v3
  obtain ⟨sa, sc, e_v⟩ := rd.form
  subst e_v
  have dA := (Below.refl w3.heap.size w3).alloc (Nat.le_refl _) (.cells #[.int .i64 0, .int .i64 0, .int .i64 0, .int .i64 0] 23)
  go_upto_region 2 with (refine blk_store _ rfl 23 _ _ rfl w3.heap.size (BC R0 R1 R2 R3) rfl rfl _ _ (Blk.new w3 #[.int .i64 0, .int .i64 0, .int .i64 0, .int .i64 0] 23) 4 bu_info rfl rfl (bu_one ⟨R0, R1, R2, R3⟩) ?_; intro W3 C p)
  have zz := p.below dA (Nat.le_refl _)
  clear dA p
  replace G := G.below zz G.lt
  replace rd := rd.below zz
  replace d3 := d3.below zz
  replace b0 := b0.trans (zz.mono b0.size)
  clear zz
  generalize w3.heap.size = xC at *
  clear C
  go_wp2_with fail
  refine (CV _).mono ?_
  rintro e w4 ⟨rfl, z⟩
  replace G := G.below z G.lt
  replace rd := rd.below z
  replace d3 := d3.below z
  replace b0 := b0.trans (z.mono b0.size)
  clear z
  by_cases hE : E = 0
  rotate_left
  · have hEb : (E != 0) = true := by simpa using hE
    have hD : D.length = 0 := by rw [HN.out hE]; rfl
    rw [hD]
    clear hD HN HY HP HO HI HB H0 HG
    generalize l.length = n at *
    go_wp2_with fail
    refine (CV _).mono ?_
    rintro e w5 ⟨rfl, z⟩
    go_wp2_with fail
    go_ret
    exact ⟨rfl, b0.trans (z.mono b0.size)⟩
  subst hE
  obtain ⟨hDl, hl5⟩ := HY.out rfl
  rw [hDl]
  by_cases hl2 : 200 < l.length
  · clear HN HY HP HO HI HB H0 HG hDl
    generalize l.length = n at *
    have hl2' : (200 : Int) < (n : Int) := by omega
    have hn0 : ((n : Int) == 0) = false := by have : ¬ (n : Int) = 0 := by omega
                                              simpa using this
    go_wp2_with fail
    refine (CV _).mono ?_
    rintro e w5 ⟨rfl, z⟩
    go_wp2_with fail
    go_ret
    exact ⟨rfl, b0.trans (z.mono b0.size)⟩
  replace HP := show Hid _ from HP.out rfl
  replace HO := show Hid _ from HO.out rfl
  replace HI := show Hid _ from HI.out rfl
  obtain ⟨k1, k2, k3, k4⟩ := HB.out rfl
  have HX : Hid (0 < l.length → ∃ b off, sa = some ⟨b, off, none⟩ ∧ b < w4.heap.size ∧ ∀ (j : Nat) x, l[j]? = some x → w4.cell? ⟨b, off + j * 2, none⟩ = some (.int .i64 x.a) ∧ w4.cell? ⟨b, off + j * 2 + 1, none⟩ = some (.int .i64 x.n)) := fun hp => drop_cells rd hp
  have HT : Hid (0 < l.length → ∃ b off, f3 = some ⟨b, off, none⟩ ∧ b < w4.heap.size ∧ ∀ (j : Nat) x, D[j]? = some x → w4.cell? ⟨b, off + j, none⟩ = some (.bool x)) := fun hp => bool_cells d3 (by omega)
  clear HN HY HB rd d3 hDl CV
  generalize l.length = n at *
  have hl2' : ¬ (200 : Int) < (n : Int) := by omega
  have hBW := b0.size
  generalize hV : w4 = V at *
  clear hV
  go_wp2_with fail
  go_loopw [49] (fun s49 wr => ∃ i : Nat, s49 = .int .i64 (i : Int) ∧ i ≤ n ∧ Below V.heap.size V wr) (fun s _ => n - (intOf s).toNat)
  case atStart => exact ⟨0, rfl, Nat.zero_le _, Below.refl _ _⟩
  case round =>
    obtain ⟨i, rfl, hi, bel⟩ := hrel
    by_cases hlt : i < n
    rotate_left
    · have hlt' : ¬ (i : Int) < (n : Int) := by omega
      clear HP HO HI H0 HG HX HT
      go_wp2_with fail
      go_ret
      exact ⟨rfl, b0.trans (bel.mono hBW)⟩
    have hlt' : (i : Int) < (n : Int) := by omega
    obtain ⟨di, hdi⟩ := HG.out i hlt
    obtain ⟨W, hW⟩ : ∃ W, W = wr := ⟨_, rfl⟩
    subst hW
    go_wp2_with fail
    go_loopw [9, 10] (fun s9 s10 wr => ∃ (k : Nat) (S : Int), s9 = .int .i64 S ∧ s10 = .int .i64 (k : Int) ∧ i ≤ k ∧ k ≤ n ∧ Hid (S = Pf k - Pf i) ∧ Below V.heap.size V wr) (fun _ s _ => n - (intOf s).toNat)
    case atStart => exact ⟨i, 0, rfl, rfl, Nat.le_refl _, hi, by show (0 : Int) = Pf i - Pf i; omega, bel⟩
    case round =>
      obtain ⟨k, S, rfl, rfl, hik, hk, HS, bel2⟩ := hrel
      by_cases hkn : k < n
      rotate_left
      · have hkn' : ¬ (k : Int) < (n : Int) := by omega
        clear HP HO HI H0 HG HX HT
        go_wp2_with fail
        go_roundw
        case rel => exact ⟨i + 1, by go_num, by omega, bel2⟩
        case measure => simp [intOf]; omega
      have hkn' : (k : Int) < (n : Int) := by omega
      obtain ⟨dk, hdk⟩ := HG.out k hkn
      obtain ⟨p, hp, hP1, n0, n1⟩ := HO.out k dk hdk
      obtain ⟨i1, i2, i3, i4, i5, i6, i7, i8, i9, i10⟩ := HI.out i k di dk hik hdi hdk
      obtain ⟨p1, p2, p3⟩ := HP.out i k hik (by omega)
      obtain ⟨p4, _, p5⟩ := HP.out i (k + 1) (by omega) (by omega)
      obtain ⟨b1, o1, rfl, hb1, hx⟩ := HX.out (by omega)
      obtain ⟨b2, o2, rfl, hb2, ht⟩ := HT.out (by omega)
      have ck := hx k dk hdk
      have ci := hx i di hdi
      have ct := ht k p hp
      have lt1 : b1 < wr.heap.size := Nat.lt_of_lt_of_le hb1 bel2.size
      have lt2 : b2 < wr.heap.size := Nat.lt_of_lt_of_le hb2 bel2.size
      have c1 := (bel2.cell (p := ⟨b1, o1 + k * 2, none⟩) hb1).trans ck.1
      have c2 := (bel2.cell (p := ⟨b1, o1 + k * 2 + 1, none⟩) hb1).trans ck.2
      have c3 := (bel2.cell (p := ⟨b1, o1 + i * 2, none⟩) hb1).trans ci.1
      have c4 := (bel2.cell (p := ⟨b2, o2 + k, none⟩) hb2).trans ct
      have Gr := G.below bel2 G.lt
      have hS := HS.out
      have HPk : Hid (Pf (k + 1) = Pf k + if p then dk.n else 0) := hP1
      generalize hPi : Pf i = Pi at *
      clear HP HO HI H0 HG HX HT hx ht ck ci ct HS hdi hdk hp hP1
      obtain ⟨da, dn⟩ := dk
      obtain ⟨ea, en⟩ := di
      dsimp only at *
      obtain ⟨S1, hS1⟩ : ∃ S1, S1 = Pf (k + 1) - Pi := ⟨_, rfl⟩
      have hS2 : S1 = S + if p then dn else 0 := by rw [hS1, HPk.out, hS]; omega
      rw [← hS1] at i1 i2
      have s1 : 0 ≤ S := by omega
      have s2 : S ≤ 500000000000 := by omega
      have HS1 : Hid (S1 = Pf (k + 1) - Pi) := hS1
      clear hS hS1 HPk p1 p2 p3 p4 p5 hPi
      have t1 : 0 ≤ S1 := by rw [hS2]; split <;> omega
      have t2 : S1 ≤ 501000000000 := by rw [hS2]; split <;> omega
      have hj : Hid (S1 = S + if p then dn else 0) := hS2
      clear hS2
      cases p with
      | true =>
        have hj1 : S + dn = S1 := by have := hj.out; simp at this; omega
        have hw : wrap64 (S + dn) = S1 := by unfold wrap64; omega
        clear hj
        go_upto_region 13 with fail
        have nn := ab.ne wr
        have a1 := ab.cell c1 lt1
        have a3 := ab.cell c3 lt1
        have aG := ab.cells Gr
        have q1 : IntKind.i64.wrap (da - ea) = da - ea := by rw [IntKind.wrap_i64]; omega
        have q2 : IntKind.i64.wrap (r * (da - ea)) = r * (da - ea) := by rw [IntKind.wrap_i64]; omega
        have q3 : IntKind.i64.wrap (m + r * (da - ea)) = m + r * (da - ea) := by rw [IntKind.wrap_i64]; omega
        have q4 : IntKind.i64.wrap (da - a) = da - a := by rw [IntKind.wrap_i64]; omega
        have q5 : IntKind.i64.wrap (r * (da - a)) = r * (da - a) := by rw [IntKind.wrap_i64]; omega
        have q6 : IntKind.i64.wrap (h + r * (da - a)) = h + r * (da - a) := by rw [IntKind.wrap_i64]; omega
        have q7 : ¬ m + r * (da - ea) < S1 := by omega
        by_cases hi0 : i = 0
        · have i2' := i2 hi0
          have q8 : ¬ h + r * (da - a) < S1 := by omega
          have q9 : ((i : Int) == 0) = true := by simpa using hi0
          clear hi0 i2
          refine ab.region (by kernel_rfl) (by kernel_rfl) ?_
          repeat (go_big_quiet_step (fail))
          refine wpQuiet_nil ?_
          intro _ hx
          obtain ⟨u, rfl⟩ := hx
          have bel3 := bel2.trans (Below.mono u.h bel2.size)
          go_wp2_with fail
          go_roundw
          case rel => exact ⟨k + 1, S1, by go_num, by go_num, by omega, by omega, HS1, bel3⟩
          case measure => simp [intOf]; omega
        · have q10 : ((i : Int) == 0) = false := by simpa using hi0
          clear i2
          refine ab.region (by kernel_rfl) (by kernel_rfl) ?_
          repeat (go_big_quiet_step (fail))
          refine wpQuiet_nil ?_
          intro _ hx
          obtain ⟨u, rfl⟩ := hx
          have bel3 := bel2.trans (Below.mono u.h bel2.size)
          go_wp2_with fail
          go_roundw
          case rel => exact ⟨k + 1, S1, by go_num, by go_num, by omega, by omega, HS1, bel3⟩
          case measure => simp [intOf]; omega
      | false =>
        have hj1 : S = S1 := by have := hj.out; simp at this; omega
        subst hj1
        clear hj
        go_upto_region 13 with fail
        have nn := ab.ne wr
        have a1 := ab.cell c1 lt1
        have a3 := ab.cell c3 lt1
        have aG := ab.cells Gr
        have q1 : IntKind.i64.wrap (da - ea) = da - ea := by rw [IntKind.wrap_i64]; omega
        have q2 : IntKind.i64.wrap (r * (da - ea)) = r * (da - ea) := by rw [IntKind.wrap_i64]; omega
        have q3 : IntKind.i64.wrap (m + r * (da - ea)) = m + r * (da - ea) := by rw [IntKind.wrap_i64]; omega
        have q4 : IntKind.i64.wrap (da - a) = da - a := by rw [IntKind.wrap_i64]; omega
        have q5 : IntKind.i64.wrap (r * (da - a)) = r * (da - a) := by rw [IntKind.wrap_i64]; omega
        have q6 : IntKind.i64.wrap (h + r * (da - a)) = h + r * (da - a) := by rw [IntKind.wrap_i64]; omega
        have q7 : ¬ m + r * (da - ea) < S := by omega
        by_cases hi0 : i = 0
        · have i2' := i2 hi0
          have q8 : ¬ h + r * (da - a) < S := by omega
          have q9 : ((i : Int) == 0) = true := by simpa using hi0
          clear hi0 i2
          refine ab.region (by kernel_rfl) (by kernel_rfl) ?_
          repeat (go_big_quiet_step (fail))
          refine wpQuiet_nil ?_
          intro _ hx
          obtain ⟨u, rfl⟩ := hx
          have bel3 := bel2.trans (Below.mono u.h bel2.size)
          go_wp2_with fail
          go_roundw
          case rel => exact ⟨k + 1, S, by go_num, by go_num, by omega, by omega, HS1, bel3⟩
          case measure => simp [intOf]; omega
        · have q10 : ((i : Int) == 0) = false := by simpa using hi0
          clear i2
          refine ab.region (by kernel_rfl) (by kernel_rfl) ?_
          repeat (go_big_quiet_step (fail))
          refine wpQuiet_nil ?_
          intro _ hx
          obtain ⟨u, rfl⟩ := hx
          have bel3 := bel2.trans (Below.mono u.h bel2.size)
          go_wp2_with fail
          go_roundw
          case rel => exact ⟨k + 1, S, by go_num, by go_num, by omega, by omega, HS1, bel3⟩
          case measure => simp [intOf]; omega
end Go.Proofs.Ytfigjgefnmkkiaa.bkt
