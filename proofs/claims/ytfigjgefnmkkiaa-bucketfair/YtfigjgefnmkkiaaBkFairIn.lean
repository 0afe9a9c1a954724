/- The walk of custkeep.BucketFair. -/
import Derived.Test.YtfigjgefnmkkiaaBkBoundsIn
namespace Go.Proofs.Ytfigjgefnmkkiaa.bkt
open Go.ChangeShapes Go.WideShapes Go.ChangeAt Go.RowKit Go.BigFrame
open Go.Proofs.Ytfigjgefnmkkiaa Go.Proofs.Ytfigjgefnmkkiaa.boxes Go.Proofs.Ytfigjgefnmkkiaa.rwr
open Go.Proofs.Ytfigjgefnmkkiaa.rws (Knd Own)

set_option maxRecDepth 20000 in
set_option maxHeartbeats 8000000 in
theorem fair_walk (b : Bu) (v : Value) (l : List Dp) (w : World) (hr : Rd DK w v l) : Calls Try.prog 5 #[.agg (Bu.cells b), v] w fun e w' => e = .returned (.bool true) ∧ Below w.heap.size w w' := by
  have CR : ∀ W, Rd DK W v l → _ := fun W h => run_any b v l W h
  have CV := lives
  have HN : Hid (rerr b l ≠ 0 → rtd b l = []) := fun h => if_neg h
  have HY : Hid (rerr b l = 0 → (rtd b l).length = l.length ∧ l.length ≤ 500) := fun h => ⟨rtd_len h, (rerr_zero.1 h).2.1⟩
  have HP : Hid (rerr b l = 0 → ∀ i k, i ≤ k → k ≤ l.length → P b l i ≤ P b l k ∧ 0 ≤ P b l i ∧ P b l k ≤ 1000000000 * 500) := fun h _ _ h1 h2 => P_facts h h1 h2
  have HO : Hid (rerr b l = 0 → ∀ k dk, l[k]? = some dk → ∃ p, (rtd b l)[k]? = some p ∧ P b l (k + 1) = P b l k + (if p then dk.n else 0) ∧ 0 ≤ dk.n ∧ dk.n ≤ 1000000000 ∧ (p = false → dk.n > b.m ∨ (∃ i di, i < k ∧ l[i]? = some di ∧ dk.n + (P b l k - P b l i) > b.m + b.r * (dk.a - di.a)) ∨ dk.n + P b l k > b.h + b.r * (dk.a - b.a))) := fun h _ _ h1 => one_facts h h1
  have HI : Hid (rerr b l = 0 → ∀ i k di dk, i ≤ k → l[i]? = some di → l[k]? = some dk → P b l (k + 1) - P b l i ≤ b.m + b.r * (dk.a - di.a) ∧ (i = 0 → P b l (k + 1) - P b l i ≤ b.h + b.r * (dk.a - b.a)) ∧ 0 ≤ dk.a - di.a ∧ dk.a - di.a ≤ 1099511627776 ∧ 0 ≤ b.r * (dk.a - di.a) ∧ b.r * (dk.a - di.a) ≤ 1099511627776000000 ∧ 0 ≤ dk.a - b.a ∧ dk.a - b.a ≤ 1099511627776 ∧ 0 ≤ b.r * (dk.a - b.a) ∧ b.r * (dk.a - b.a) ≤ 1099511627776000000) := fun h _ _ _ _ h1 h2 h3 => pair_facts h h1 h2 h3
  have HB : Hid (rerr b l = 0 → 1 ≤ b.m ∧ b.m ≤ 1000000000 ∧ 0 ≤ b.h ∧ b.h ≤ 1000000000) := fun h => by
    obtain ⟨c1, c2, c3, c4⟩ := chk_zero.1 (rerr_zero.1 h).1
    exact ⟨by omega, by omega, by omega, by omega⟩
  have H0 : Hid (P b l 0 = 0) := rfl
  have HG : Hid (∀ i, i < l.length → ∃ d, l[i]? = some d) := fun i hi => ⟨_, List.getElem?_eq_getElem hi⟩
  have hml := rd_len hr
  have b0 := (Below.refl w.heap.size w).alloc (Nat.le_refl _) (.cells (Bu.cells b) 23)
  have G := Blk.new w (Bu.cells b) 23
  have rd := hr.below b0
  obtain ⟨r, m, h, a⟩ := b
  have G : Blk (w.alloc (.cells (BC r m h a) 23)) w.heap.size (BC r m h a) 23 := G
  generalize hPf : P ⟨r, m, h, a⟩ l = Pf at *
  clear hPf
  generalize rst _ _ = R at *
  generalize rtd _ _ = D at *
  generalize rerr _ _ = E at *
  dsimp only [Bu.cells] at CR b0 rd HI HB
  clear hr
  obtain ⟨R0, R1, R2, R3⟩ := R
  dsimp only at CR
  go_enter Try.func5, Try.ntmps5
  go_upto_region 1 with fail
  generalize hW : w.alloc (Obj.cells (BC r m h a) 23) = W at *
  clear hW
  go_wp2_with (refine blk_load _ rfl 23 _ rfl w.heap.size rfl _ _ G _ Try.underlying23 rfl 4 bu_info rfl ?_)
  refine (CR _ rd).mono ?_
  rintro e w3 ⟨v3, rfl, O3, z⟩
  replace G := G.below z G.lt
  replace rd := rd.below z
  replace b0 := b0.trans (z.mono b0.size)
  clear z
  have d3 := Own.rd O3
  clear O3 CR
  obtain ⟨f3, g3, e_v3⟩ := d3.form
  subst e_v3
  obtain ⟨sa, sc, e_v⟩ := rd.form
  subst e_v
  have dA := (Below.refl w3.heap.size w3).alloc (Nat.le_refl _) (.cells #[.int .i64 0, .int .i64 0, .int .i64 0, .int .i64 0] 23)
  go_upto_region 2 with (refine blk_store _ rfl 23 _ _ rfl w3.heap.size (BC R0 R1 R2 R3) rfl rfl _ _ (Blk.new w3 #[.int .i64 0, .int .i64 0, .int .i64 0, .int .i64 0] 23) 4 bu_info rfl rfl (bu_one ⟨R0, R1, R2, R3⟩) ?_; intro W3 C p)
  have zz := p.below dA (Nat.le_refl _)
  clear dA p
  replace G := G.below zz G.lt
  replace rd := rd.below zz
  replace d3 := d3.below zz
  replace b0 := b0.trans (zz.mono b0.size)
  clear zz
  generalize w3.heap.size = xC at *
  clear C
  go_wp2_with fail
  refine (CV _).mono ?_
  rintro e w4 ⟨rfl, z⟩
  replace G := G.below z G.lt
  replace rd := rd.below z
  replace d3 := d3.below z
  replace b0 := b0.trans (z.mono b0.size)
  clear z
  by_cases hE : E = 0
  rotate_left
  · have hEb : (E != 0) = true := by simpa using hE
    have hD : D.length = 0 := by rw [HN.out hE]; rfl
    rw [hD]
    clear hD HN HY HP HO HI HB H0 HG
    generalize l.length = n at *
    go_wp2_with fail
    refine (CV _).mono ?_
    rintro e w5 ⟨rfl, z⟩
    go_wp2_with fail
    go_ret
    exact ⟨rfl, b0.trans (z.mono b0.size)⟩
  subst hE
  obtain ⟨hDl, hl5⟩ := HY.out rfl
  rw [hDl]
  by_cases hl2 : 200 < l.length
  · clear HN HY HP HO HI HB H0 HG hDl
    generalize l.length = n at *
    have hl2' : (200 : Int) < (n : Int) := by omega
    have hn0 : ((n : Int) == 0) = false := by have : ¬ (n : Int) = 0 := by omega
                                              simpa using this
    go_wp2_with fail
    refine (CV _).mono ?_
    rintro e w5 ⟨rfl, z⟩
    go_wp2_with fail
    go_ret
    exact ⟨rfl, b0.trans (z.mono b0.size)⟩
  replace HP := show Hid _ from HP.out rfl
  replace HO := show Hid _ from HO.out rfl
  replace HI := show Hid _ from HI.out rfl
  obtain ⟨k1, k2, k3, k4⟩ := HB.out rfl
  have HX : Hid (∀ u, Below w4.heap.size w4 u → 0 < l.length → ∃ b off, sa = some ⟨b, off, none⟩ ∧ b < u.heap.size ∧ (∀ j x, l[j]? = some x → ∀ i, i < DK.k → u.cell? ⟨b, off + j * DK.k + i, none⟩ = (DK.enc x)[i]?) ∧ ∀ (j : Nat) x, l[j]? = some x → u.cell? ⟨b, off + j * 2, none⟩ = some (.int .i64 x.a) ∧ u.cell? ⟨b, off + j * 2 + 1, none⟩ = some (.int .i64 x.n)) := fun u hu hp => by
    obtain ⟨b1, o1, e1, h1, h2⟩ := rd_spot (rd.below hu) hp
    refine ⟨b1, o1, e1, h1, h2, fun j x hj => ⟨?_, ?_⟩⟩
    · have := h2 j x hj 0 (by decide)
      simpa [DK] using this
    · have := h2 j x hj 1 (by decide)
      simpa [DK] using this
  have HT : Hid (∀ u, Below w4.heap.size w4 u → 0 < l.length → ∃ b off, f3 = some ⟨b, off, none⟩ ∧ b < u.heap.size ∧ ∀ (j : Nat) x, D[j]? = some x → u.cell? ⟨b, off + j, none⟩ = some (.bool x)) := fun u hu hp => bool_cells (d3.below hu) (by omega)
  clear HN HY HB rd d3 hDl CV
  generalize l.length = n at *
  have hl2' : ¬ (200 : Int) < (n : Int) := by omega
  have hBW := b0.size
  generalize hV : w4 = V at *
  clear hV
  go_wp2_with fail
  go_loopw [51] (fun s51 wr => ∃ k : Nat, s51 = .int .i64 (k : Int) ∧ k ≤ n ∧ Below V.heap.size V wr) (fun s _ => n - (intOf s).toNat)
  case atStart => exact ⟨0, rfl, Nat.zero_le _, Below.refl _ _⟩
  case round =>
    obtain ⟨k, rfl, hk, bel⟩ := hrel
    by_cases hlt : k < n
    rotate_left
    · have hlt' : ¬ (k : Int) < (n : Int) := by omega
      clear HP HO HI H0 HG HX HT
      go_wp2_with fail
      go_ret
      exact ⟨rfl, b0.trans (bel.mono hBW)⟩
    have hlt' : (k : Int) < (n : Int) := by omega
    obtain ⟨dk, hdk⟩ := HG.out k hlt
    obtain ⟨b1, o1, rfl, hb1, hx0, hx⟩ := HX.out wr bel (by omega)
    obtain ⟨p, hp, hP1, n0, n1, hfair⟩ := HO.out k dk hdk
    have HF := show Hid _ from hfair
    have hbs := bel.size
    clear hfair hx hP1
    obtain ⟨W, hW⟩ : ∃ W, W = wr := ⟨_, rfl⟩
    subst hW
    have Z0 := Blk.new W #[.int .i64 0, .int .i64 0] 40
    have dA := (Below.refl W.heap.size W).alloc (Nat.le_refl _) (.cells #[.int .i64 0, .int .i64 0] 40)
    obtain ⟨da, dn⟩ := dk
    go_upto_region 7 with (first
      | (refine rd_load DK _ rfl _ rfl b1 o1 l hx0 k _ rfl rfl _ hdk (Dp.cells ⟨da, dn⟩) rfl _ Try.underlying40 rfl ?_)
      | (refine blk_store _ rfl 40 _ _ rfl W.heap.size (Dp.cells ⟨da, dn⟩) rfl rfl _ _ Z0 2 dp_info rfl rfl (dp_one ⟨da, dn⟩) ?_; intro W3 k3 p3))
    have d3 := p3.below dA (Nat.le_refl _)
    have bel3 := bel.trans (d3.mono hbs)
    have hbs3 := bel3.size
    dsimp only at n0 n1 HF
    obtain ⟨b2, o2, rfl, hb2, ht⟩ := HT.out W3 bel3 (by omega)
    have ct := ht k p hp
    clear Z0 dA p3 hx0 ht hp d3
    cases p with
    | true =>
      clear HP HO HI H0 HG HX HT HF
      go_wp2_with fail
      go_roundw
      case rel => exact ⟨k + 1, by go_num, by omega, bel3⟩
      case measure => simp [intOf]; omega
    | false =>
      have HF2 := show Hid _ from HF.out rfl
      clear HF
      have Gr := G.below bel3 G.lt
      have k3' : Blk W3 W.heap.size #[.int .i64 da, .int .i64 dn] 40 := k3
      have cd := k3'.cell
      have cG := Gr.cell
      have wk : wrap64 ((k : Int) - 1) = (k : Int) - 1 := by unfold wrap64; omega
      go_wp2_with fail
      go_loopw [10, 11, 12] (fun s10 s11 s12 wr => ∃ (j : Nat) (y S : Int) (f : Bool), s10 = .int .i64 S ∧ s11 = .bool f ∧ s12 = .int .i64 y ∧ y = (j : Int) - 1 ∧ j ≤ k ∧ Hid (S = dn + (Pf k - Pf j)) ∧ Hid (f = false → ¬ m < dn ∧ ∀ i di, j ≤ i → i < k → l[i]? = some di → ¬ dn + (Pf k - Pf i) > m + r * (da - di.a)) ∧ Below W3.heap.size W3 wr) (fun _ _ s _ => (intOf s + 1).toNat)
      case atStart => exact ⟨k, (k : Int) - 1, dn, decide (m < dn), rfl, rfl, rfl, rfl, Nat.le_refl _, by show dn = dn + (Pf k - Pf k); omega, fun hf => ⟨by simpa using hf, fun i di h1 h2 => absurd h2 (by omega)⟩, Below.refl _ _⟩
      case round =>
        obtain ⟨j, y, S, f, rfl, rfl, rfl, hy, hj, HS, HFf, bel4⟩ := hrel
        have Gw := Gr.below bel4 Gr.lt
        have k4 := k3'.below bel4 k3'.lt
        obtain ⟨p1, p2, p3⟩ := HP.out j k hj (by omega)
        have hS := HS.out
        have s1 : 0 ≤ S := by omega
        have s2 : S ≤ 501000000000 := by omega
        clear cd cG p1 p2 p3
        cases j with
        | zero =>
          have hy1 : y = -1 := by simpa using hy
          subst hy1
          obtain ⟨q1, q2, q3, q4, q5, q6, q7, q8, q9, q10⟩ := HI.out k k _ _ (Nat.le_refl _) hdk hdk
          dsimp only at q7 q8 q9 q10
          have cd := k4.cell
          have cG := Gw.cell
          have w1 : wrap64 (da - a) = da - a := by unfold wrap64; omega
          have w2 : wrap64 (r * (da - a)) = r * (da - a) := by unfold wrap64; omega
          have w3 : wrap64 (h + r * (da - a)) = h + r * (da - a) := by unfold wrap64; omega
          have HC : Hid (f = false → ¬ S ≤ h + r * (da - a)) := fun hf => by
            obtain ⟨u1, u2⟩ := HFf.out hf
            rw [H0.out] at hS
            rcases HF2.out with e | ⟨i, di, e1, e2, e3⟩ | e
            · omega
            · exact absurd e3 (u2 i di (Nat.zero_le _) e1 e2)
            · omega
          have bel5 := bel3.trans (bel4.mono hbs3)
          clear HP HO HI H0 HG HX HT HF2 HFf HS hS hdk q1 q2 q3 q4 q5 q6 hy
          cases f with
          | true =>
            go_wp2_with fail
            go_roundw
            case rel => exact ⟨k + 1, by go_num, by omega, bel5⟩
            case measure => simp [intOf]; omega
          | false =>
            have hc := HC.out rfl
            go_wp2_with fail
            go_roundw
            case rel => exact ⟨k + 1, by go_num, by omega, bel5⟩
            case measure => simp [intOf]; omega
        | succ i =>
          have hy1 : y = (i : Int) := by omega
          subst hy1
          obtain ⟨di, hdi⟩ := HG.out i (by omega)
          obtain ⟨p, hp, hP1, m0, m1, _⟩ := HO.out i di hdi
          obtain ⟨i1, i2, i3, i4, i5, i6, i7, i8, i9, i10⟩ := HI.out i k _ _ (by omega) hdi hdk
          have bel5 := bel3.trans (bel4.mono hbs3)
          obtain ⟨b5, o5, e5, hb5, _, hx5⟩ := HX.out wr bel5 (by omega)
          simp only [Option.some.injEq, Addr.mk.injEq, and_true] at e5
          obtain ⟨rfl, rfl⟩ := e5
          obtain ⟨b6, o6, e6, hb6, ht6⟩ := HT.out wr bel5 (by omega)
          simp only [Option.some.injEq, Addr.mk.injEq, and_true] at e6
          obtain ⟨rfl, rfl⟩ := e6
          have c1 := (hx5 i di hdi).1
          have c2 := (hx5 i di hdi).2
          have c3 := ht6 i p hp
          obtain ⟨S1, hS1⟩ : ∃ S1, S1 = dn + (Pf k - Pf i) := ⟨_, rfl⟩
          have hS2 : S1 = S + if p then di.n else 0 := by rw [hS1, hS, hP1]; omega
          have HS1 : Hid (S1 = dn + (Pf k - Pf i)) := hS1
          have HY1 : Hid (¬ m + r * (da - di.a) < S1 → f = false → ¬ m < dn ∧ ∀ i' di', i ≤ i' → i' < k → l[i']? = some di' → ¬ dn + (Pf k - Pf i') > m + r * (da - di'.a)) := fun hn hf => by
            obtain ⟨u1, u2⟩ := HFf.out hf
            refine ⟨u1, fun i' di' h1 h2 h3 => ?_⟩
            by_cases e : i' = i
            · subst e
              rw [hdi] at h3
              obtain rfl := Option.some.inj h3
              rw [hS1] at hn
              omega
            · exact u2 i' di' (by omega) h2 h3
          obtain ⟨ea, en⟩ := di
          dsimp only at *
          clear HP HO HI H0 HG HX HT HF2 HFf HS hS hdk hdi hP1 hx5 ht6 hp i1 i2 i7 i8 i9 i10 hS1 hy
          have t1 : 0 ≤ S1 := by rw [hS2]; split <;> omega
          have t2 : S1 ≤ 502000000000 := by rw [hS2]; split <;> omega
          have HJ : Hid (S1 = S + if p then en else 0) := hS2
          clear hS2
          have wi : wrap64 ((i : Int) - 1) = (i : Int) - 1 := by unfold wrap64; omega
          have hi0 : (0 : Int) ≤ (i : Int) := by omega
          cases p with
          | true =>
            have hj1 : S + en = S1 := by have := HJ.out; simp at this; omega
            have hw : wrap64 (S + en) = S1 := by unfold wrap64; omega
            clear HJ
            go_upto_region 15 with fail
            have nn := ab.ne wr
            have a1 := ab.cell c1 hb5
            have ad := ab.cells k4
            have aG := ab.cells Gw
            have q1 : IntKind.i64.wrap (da - ea) = da - ea := by rw [IntKind.wrap_i64]; omega
            have q2 : IntKind.i64.wrap (r * (da - ea)) = r * (da - ea) := by rw [IntKind.wrap_i64]; omega
            have q3 : IntKind.i64.wrap (m + r * (da - ea)) = m + r * (da - ea) := by rw [IntKind.wrap_i64]; omega
            cases f with
            | true =>
              refine ab.region (by kernel_rfl) (by kernel_rfl) ?_
              repeat (go_big_quiet_step (fail))
              refine wpQuiet_nil ?_
              intro _ hx
              obtain ⟨u, rfl⟩ := hx
              have bel6 := bel4.trans (Below.mono u.h bel4.size)
              go_wp2_with fail
              go_roundw
              case rel => exact ⟨i, (i : Int) - 1, S1, true, by go_num, rfl, rfl, rfl, by omega, HS1, fun hf => absurd hf (by decide), bel6⟩
              case measure => simp [intOf]
            | false =>
              by_cases q7 : m + r * (da - ea) < S1
              · refine ab.region (by kernel_rfl) (by kernel_rfl) ?_
                repeat (go_big_quiet_step (fail))
                refine wpQuiet_nil ?_
                intro _ hx
                obtain ⟨u, rfl⟩ := hx
                have bel6 := bel4.trans (Below.mono u.h bel4.size)
                go_wp2_with fail
                go_roundw
                case rel => exact ⟨i, (i : Int) - 1, S1, true, by go_num, rfl, rfl, rfl, by omega, HS1, fun hf => absurd hf (by decide), bel6⟩
                case measure => simp [intOf]
              · have HZ := show Hid _ from HY1.out q7 rfl
                refine ab.region (by kernel_rfl) (by kernel_rfl) ?_
                repeat (go_big_quiet_step (fail))
                refine wpQuiet_nil ?_
                intro _ hx
                obtain ⟨u, rfl⟩ := hx
                have bel6 := bel4.trans (Below.mono u.h bel4.size)
                go_wp2_with fail
                go_roundw
                case rel => exact ⟨i, (i : Int) - 1, S1, false, by go_num, rfl, rfl, rfl, by omega, HS1, fun _ => HZ.out, bel6⟩
                case measure => simp [intOf]
          | false =>
            have hj1 : S = S1 := by have := HJ.out; simp at this; omega
            subst hj1
            clear HJ
            go_upto_region 15 with fail
            have nn := ab.ne wr
            have a1 := ab.cell c1 hb5
            have ad := ab.cells k4
            have aG := ab.cells Gw
            have q1 : IntKind.i64.wrap (da - ea) = da - ea := by rw [IntKind.wrap_i64]; omega
            have q2 : IntKind.i64.wrap (r * (da - ea)) = r * (da - ea) := by rw [IntKind.wrap_i64]; omega
            have q3 : IntKind.i64.wrap (m + r * (da - ea)) = m + r * (da - ea) := by rw [IntKind.wrap_i64]; omega
            cases f with
            | true =>
              refine ab.region (by kernel_rfl) (by kernel_rfl) ?_
              repeat (go_big_quiet_step (fail))
              refine wpQuiet_nil ?_
              intro _ hx
              obtain ⟨u, rfl⟩ := hx
              have bel6 := bel4.trans (Below.mono u.h bel4.size)
              go_wp2_with fail
              go_roundw
              case rel => exact ⟨i, (i : Int) - 1, S, true, by go_num, rfl, rfl, rfl, by omega, HS1, fun hf => absurd hf (by decide), bel6⟩
              case measure => simp [intOf]
            | false =>
              by_cases q7 : m + r * (da - ea) < S
              · refine ab.region (by kernel_rfl) (by kernel_rfl) ?_
                repeat (go_big_quiet_step (fail))
                refine wpQuiet_nil ?_
                intro _ hx
                obtain ⟨u, rfl⟩ := hx
                have bel6 := bel4.trans (Below.mono u.h bel4.size)
                go_wp2_with fail
                go_roundw
                case rel => exact ⟨i, (i : Int) - 1, S, true, by go_num, rfl, rfl, rfl, by omega, HS1, fun hf => absurd hf (by decide), bel6⟩
                case measure => simp [intOf]
              · have HZ := show Hid _ from HY1.out q7 rfl
                refine ab.region (by kernel_rfl) (by kernel_rfl) ?_
                repeat (go_big_quiet_step (fail))
                refine wpQuiet_nil ?_
                intro _ hx
                obtain ⟨u, rfl⟩ := hx
                have bel6 := bel4.trans (Below.mono u.h bel4.size)
                go_wp2_with fail
                go_roundw
                case rel => exact ⟨i, (i : Int) - 1, S, false, by go_num, rfl, rfl, rfl, by omega, HS1, fun _ => HZ.out, bel6⟩
                case measure => simp [intOf]
end Go.Proofs.Ytfigjgefnmkkiaa.bkt
