/- The walk through custkeep.PrefixLongest. -/
import Derived.Test.YtiddpkppfpdfhaaPfOrderIn
namespace Go.Proofs.Ytiddpkppfpdfhaa.pf
open Go.ChangeShapes Go.WideShapes Go.ChangeAt Go.RowKit Go.BigFrame
open Go.Proofs.Ytiddpkppfpdfhaa Go.Proofs.Ytiddpkppfpdfhaa.pm Go.Proofs.Ytiddpkppfpdfhaa.boxes Go.Proofs.Ytiddpkppfpdfhaa.rwr Go.Proofs.Ytiddpkppfpdfhaa.rwat
open Go.Proofs.Ytiddpkppfpdfhaa.rws (Knd Own)

theorem div_xor (a b k : Nat) : (a ^^^ b) / 2 ^ k = (a / 2 ^ k) ^^^ (b / 2 ^ k) := by
  rw [← Nat.shiftRight_eq_div_pow, ← Nat.shiftRight_eq_div_pow, ← Nat.shiftRight_eq_div_pow, Nat.shiftRight_xor_distrib]
theorem xor_zero (x y : Nat) : x ^^^ y = 0 ↔ x = y := by
  constructor
  · intro h
    refine Nat.eq_of_testBit_eq fun i => ?_
    have e := congrArg (fun z => z.testBit i) h
    simp only [Nat.testBit_xor, Nat.zero_testBit] at e
    cases h1 : x.testBit i <;> cases h2 : y.testBit i <;> simp_all
  · intro h; subst h; exact Nat.xor_self x
theorem in_net {p : Pth} (hp : p.length ≤ 32) {c : Nat} (hc : c < 4294967296) : (c ^^^ ad 32 p) / 2 ^ (32 - p.length) = 0 ↔ bts 32 c p.length = p := by
  rw [bts_iff rfl hp hc, div_xor, xor_zero]
  obtain ⟨q, hq⟩ := ad_dvd 32 p hp
  rw [hq, Nat.mul_div_cancel_left _ (Nat.two_pow_pos _)]
  constructor
  · intro h; rw [h, Nat.mul_comm]
  · intro h
    have : c / 2 ^ (32 - p.length) * 2 ^ (32 - p.length) = q * 2 ^ (32 - p.length) := by rw [h, Nat.mul_comm]
    exact Nat.eq_of_mul_eq_mul_right (Nat.two_pow_pos _) this
set_option maxRecDepth 20000 in
theorem inNet_any (p : Pth) (c : Nat) (w : World) (hp : p.length ≤ 32) (hc : c < 4294967296) : Calls Try.prog 24 #[.agg (NC (ad 32 p) p.length), .int .u32 (c : Int)] w fun e w' => e = .returned (.bool (decide (bts 32 c p.length = p))) ∧ Below w.heap.size w w' := by
  have b1 := (Below.refl w.heap.size w).alloc (Nat.le_refl _) (.cells (NC (ad 32 p) p.length) 27)
  by_cases h0 : p.length = 0
  · have e : decide (bts 32 c p.length = p) = true := by
      have : p = [] := List.eq_nil_of_length_eq_zero h0
      subst this
      rfl
    rw [e]
    have hz : (p.length : Int) = 0 := by omega
    clear e
    generalize ad 32 p = a at *
    generalize (p.length : Int) = l at *
    subst hz
    go_enter Try.func24, Try.ntmps24
    go_wp2_with fail
    go_ret
    exact ⟨rfl, b1⟩
  · have hx := in_net hp hc
    have ha := ad_lt 32 p
    have hX : bits BinOp.xor IntKind.u32 (c : Int) (ad 32 p : Int) = ((c ^^^ ad 32 p : Nat) : Int) := u32_xor_nat c (ad 32 p) hc ha
    have hlt : c ^^^ ad 32 p < 4294967296 := Nat.xor_lt_two_pow (n := 32) hc ha
    have e : decide (bts 32 c p.length = p) = decide ((c ^^^ ad 32 p) / 2 ^ (32 - p.length) = 0) := decide_eq_decide.2 hx.symm
    rw [e]
    clear hx e
    generalize c ^^^ ad 32 p = X at *
    generalize ad 32 p = a at *
    generalize p.length = l at *
    go_enter Try.func24, Try.ntmps24
    have h0' : ((l : Int) == 0) = false := by simp; omega
    have HQ : Hid (((X : Int) / (2 : Int) ^ (32 - l) == 0) = decide (X / 2 ^ (32 - l) = 0)) := by
      show _ = _
      rw [show (X : Int) / (2 : Int) ^ (32 - l) = ((X / 2 ^ (32 - l) : Nat) : Int) by simp]
      generalize X / 2 ^ (32 - l) = Q
      by_cases h : Q = 0
      · subst h; rfl
      · rw [decide_eq_false h]; simp; omega
    go_wp2_with fail
    go_ret
    exact ⟨ret_bool HQ.out, b1⟩
/-- the best one so far -/
def Best (c : Nat) (rs : List Rw) (i : Nat) (B : Int) : Prop := (B = -1 ∧ fnd c (rs.take i) = none) ∨ ∃ (j : Nat) (x : Rw), B = (j : Int) ∧ j < i ∧ rs[j]? = some x ∧ bts 32 c x.1.length = x.1 ∧ fnd c (rs.take i) = some x
theorem best_step {c : Nat} {rs : List Rw} {i : Nat} {B : Int} {y : Rw} (h : Best c rs i B) (hy : rs[i]? = some y) : Best c rs (i + 1) (if bts 32 c y.1.length = y.1 then (i : Int) else B) := by
  unfold Best
  rw [take_succ rs i y hy, fnd_snoc]
  by_cases hh : bts 32 c y.1.length = y.1
  · rw [if_pos hh, if_pos hh]
    exact Or.inr ⟨i, y, rfl, by omega, hy, hh, rfl⟩
  · rw [if_neg hh, if_neg hh]
    rcases h with ⟨h1, h2⟩ | ⟨j, x, h1, h2, h3, h4, h5⟩
    · exact Or.inl ⟨h1, h2⟩
    · exact Or.inr ⟨j, x, h1, by omega, h3, h4, h5⟩
set_option maxRecDepth 20000 in
set_option maxHeartbeats 8000000 in
theorem long_walk (v : Value) (ns : List Nd) (c : Nat) (w : World) (hr : Rd DK w v ns) (hcb : c < 4294967296) :
    Calls Try.prog 5 #[.agg (TC v), .int .u32 (c : Int)] w fun e w' => e = .returned (.bool true) ∧ Below w.heap.size w w' := by
  have A1 := fun u hu => all_any v ns u hu
  have D1 := fun u hu => find_any v ns c u hu hcb
  have b0 := (Below.refl w.heap.size w).alloc (Nat.le_refl _) (.cells (TC v) 24)
  have F0 := Blk.new w (TC v) 24
  replace hr := hr.below b0
  by_cases hc : chk ns 2 4 = 0
  · have hrt := chk0 hc
    have hf := hrt.fine
    have hR : allR ns = rows (tree ns) := by unfold allR; rw [if_neg (by rw [hc]; decide)]
    have hD : findR ns c = fnd c (rows (tree ns)) := by unfold findR; rw [if_neg (by rw [hc]; decide)]
    have hDE : findE ns c = fE (fnd c (rows (tree ns))) := by
      unfold findE; rw [if_neg (by rw [hc]; decide), hD]
      cases fnd c (rows (tree ns)) <;> rfl
    rw [hR, hc] at A1
    rw [hD, hDE] at D1
    have hm : (rows (tree ns)).length ≤ 1000 := by have := rows_le (tree ns); have := hf.s; omega
    have hnl : (netsOf (rows (tree ns))).length = (rows (tree ns)).length := by simp [netsOf]
    have hvl : (valsOf (rows (tree ns))).length = (rows (tree ns)).length := by simp [valsOf]
    have HG : Hid (∀ i : Nat, i < (rows (tree ns)).length → ∃ x, (rows (tree ns))[i]? = some x) := fun i hi => ⟨_, List.getElem?_eq_getElem hi⟩
    have HL : Hid (∀ (i j : Nat) (x y : Rw), i < j → (rows (tree ns))[i]? = some x → (rows (tree ns))[j]? = some y → bts 32 c x.1.length = x.1 → bts 32 c y.1.length = y.1 → x.1.length < y.1.length) := fun i j x y hij hx hy h1 h2 => longer hf hij hx hy h1 h2
    have CI : Hid (∀ (i : Nat) (y : Rw) (u : World), (rows (tree ns))[i]? = some y → Calls Try.prog 24 #[.agg (NC (ad 32 y.1) y.1.length), .int .u32 (c : Int)] u fun e w' => e = .returned (.bool (decide (bts 32 c y.1.length = y.1))) ∧ Below u.heap.size u w') := fun i y u hy => inNet_any y.1 c u (hf.len (List.mem_of_getElem? hy)) hcb
    have HB0 : Hid (Best c (rows (tree ns)) 0 (-1)) := Or.inl ⟨rfl, rfl⟩
    have HEnd : Hid (∀ B, Best c (rows (tree ns)) (rows (tree ns)).length B → (B = -1 ∧ fnd c (rows (tree ns)) = none) ∨ ∃ (j : Nat) (x : Rw), B = (j : Int) ∧ j < (rows (tree ns)).length ∧ (rows (tree ns))[j]? = some x ∧ fnd c (rows (tree ns)) = some x) := fun B hB => by
      rcases hB with ⟨h1, h2⟩ | ⟨j, x, h1, h2, h3, _, h5⟩
      · rw [List.take_length] at h2; exact Or.inl ⟨h1, h2⟩
      · rw [List.take_length] at h5; exact Or.inr ⟨j, x, h1, h2, h3, h5⟩
    clear hR hD hDE hrt hf hc hcb
    generalize rows (tree ns) = rs at *
    obtain ⟨NL, hNL⟩ : ∃ NL, NL = netsOf rs := ⟨_, rfl⟩
    have HNL : Hid (∀ (i : Nat) (x : Rw), rs[i]? = some x → NL[i]? = some ⟨ad 32 x.1, x.1.length⟩) := fun i x hx => by rw [hNL]; exact nets_get hx
    obtain ⟨VL, hVL⟩ : ∃ VL, VL = valsOf rs := ⟨_, rfl⟩
    have HVL : Hid (∀ (i : Nat) (x : Rw), rs[i]? = some x → VL[i]? = some x.2) := fun i x hx => by rw [hVL]; exact vals_get hx
    rw [← hNL] at A1 hnl
    rw [← hVL] at A1 hvl
    clear hNL hVL
    obtain ⟨m, hmm⟩ : ∃ m, m = rs.length := ⟨_, rfl⟩
    rw [← hmm] at hm hnl hvl HG HEnd
    clear hmm
    obtain ⟨R, hRR⟩ : ∃ R, R = fnd c rs := ⟨_, rfl⟩
    rw [← hRR] at D1 HEnd
    clear hRR
    obtain ⟨sa, sc, e_v⟩ := hr.form
    generalize ns.length = n at *
    subst e_v
    go_enter Try.func5, Try.ntmps5
    go_upto_region 1 with fail
    generalize hV : w.alloc (.cells (TC (.slice sa n sc)) 24) = V at *
    clear hV
    have C1 := A1 V hr
    clear A1
    have cF0 := F0.cell
    go_wp2_with fail
    refine C1.mono ?_
    rintro e W1 ⟨v1, v2, rfl, O1, O2, z⟩
    clear cF0 C1
    replace F0 := F0.below z F0.lt
    replace hr := hr.below z
    replace b0 := b0.trans (z.mono b0.size)
    have q1 := Own.rd O1
    have q2 := Own.rd O2
    clear O1 O2 z
    obtain ⟨sa1, sc1, e1⟩ := q1.form
    rw [hnl] at e1
    subst e1
    obtain ⟨sa2, sc2, e2⟩ := q2.form
    rw [hvl] at e2
    subst e2
    have C2 := D1 W1 hr
    clear D1
    have cF0 := F0.cell
    go_wp2_with fail
    refine C2.mono ?_
    rintro e W2 ⟨rfl, z⟩
    clear cF0 C2
    replace q1 := q1.below z
    replace q2 := q2.below z
    replace b0 := b0.trans (z.mono b0.size)
    clear F0 hr z
    have dA := (Below.refl W2.heap.size W2).alloc (Nat.le_refl _) (.cells ZN 27)
    go_upto_region 3 with (refine blk_store _ rfl 27 _ _ rfl W2.heap.size (NC (fA R) (fL R)) rfl rfl _ _ (Blk.new W2 ZN 27) 2 nt_info rfl rfl (nt_one ⟨_, _⟩) ?_; intro W3 M0 p)
    have zz := p.below dA (Nat.le_refl _)
    clear dA p
    replace q1 := q1.below zz
    replace q2 := q2.below zz
    replace b0 := b0.trans (zz.mono b0.size)
    clear zz
    go_wp2_with fail
    refine (lives _).mono ?_
    rintro e W4 ⟨rfl, z⟩
    replace q1 := q1.below z
    replace q2 := q2.below z
    replace M0 := M0.below z M0.lt
    replace b0 := b0.trans (z.mono b0.size)
    clear z
    generalize W2.heap.size = bx at *
    go_wp2_with fail
    go_loopw [11, 48] (fun s11 s48 wr => ∃ (i : Nat) (B : Int), s11 = .int .i64 B ∧ s48 = .int .i64 (i : Int) ∧ i ≤ m ∧ Hid (Best c rs i B) ∧ Below W4.heap.size W4 wr) (fun _ s _ => m - (intOf s).toNat)
    case atStart => exact ⟨0, -1, rfl, rfl, Nat.zero_le _, HB0, Below.refl _ _⟩
    case round =>
      obtain ⟨i, B, rfl, rfl, hi, HB, bel⟩ := hrel
      replace q1 := q1.below bel
      replace q2 := q2.below bel
      replace M0 := M0.below bel M0.lt
      replace b0 := b0.trans (bel.mono b0.size)
      by_cases hlt : i < m
      · obtain ⟨y, hy⟩ := HG.out i hlt
        have ey := HNL.out i y hy
        obtain ⟨b1, o1, e1, hb1, _⟩ := rd_spot q1 (by omega)
        subst e1
        obtain ⟨hb1, cy0, cy1⟩ := net_at q1 ey
        have hlt' : (i : Int) < (m : Int) := by omega
        have HB' := best_step HB.out hy
        have CIy : Hid (∀ u, _) := fun u => CI.out i y u hy
        have HBj : Hid (B = -1 ∨ ∃ (j : Nat) (xa : Nat) (xl : Nat), B = (j : Int) ∧ j < m ∧ wr.cell? ⟨b1, o1 + j * 2, none⟩ = some (.int .u32 (xa : Int)) ∧ wr.cell? ⟨b1, o1 + j * 2 + 1, none⟩ = some (.int .i64 (xl : Int)) ∧ (bts 32 c y.1.length = y.1 → xl < y.1.length)) := by
          rcases HB.out with ⟨h, _⟩ | ⟨j, x, h1, h2, h3, h4, _⟩
          · exact Or.inl h
          · obtain ⟨_, d0, d1⟩ := net_at q1 (HNL.out j x h3)
            exact Or.inr ⟨j, ad 32 x.1, x.1.length, h1, by omega, d0, d1, fun h => HL.out j i x y h2 h3 hy h4 h⟩
        clear HEnd HL CI HNL HVL HG HB0 hy ey q1 q2 M0 HB
        obtain ⟨hit, hhit⟩ : ∃ hit, hit = decide (bts 32 c y.1.length = y.1) := ⟨_, rfl⟩
        have HB2 : Hid (Best c rs (i + 1) (if hit = true then (i : Int) else B)) := by
          rw [hhit]
          by_cases hh : bts 32 c y.1.length = y.1
          · rw [decide_eq_true hh, if_pos rfl]; rwa [if_pos hh] at HB'
          · rw [decide_eq_false hh, if_neg (by decide)]; rwa [if_neg hh] at HB'
        have HBk : Hid (B = -1 ∨ ∃ (j : Nat) (xa : Nat) (xl : Nat), B = (j : Int) ∧ j < m ∧ wr.cell? ⟨b1, o1 + j * 2, none⟩ = some (.int .u32 (xa : Int)) ∧ wr.cell? ⟨b1, o1 + j * 2 + 1, none⟩ = some (.int .i64 (xl : Int)) ∧ (hit = true → xl < y.1.length)) := by
          rcases HBj.out with h | ⟨j, xa, xl, h1, h2, h3, h4, h5⟩
          · exact Or.inl h
          · exact Or.inr ⟨j, xa, xl, h1, h2, h3, h4, fun h => h5 (of_decide_eq_true (by rw [← hhit]; exact h))⟩
        rw [← hhit] at CIy
        clear hhit HB' HBj
        generalize ad 32 y.1 = ya at *
        generalize y.1.length = yl at *
        have dA := (Below.refl wr.heap.size wr).alloc (Nat.le_refl _) (.cells ZN 27)
        go_upto_region 9 with (refine blk_store _ rfl 27 _ _ rfl wr.heap.size (NC ya (yl : Int)) rfl rfl _ _ (Blk.new wr ZN 27) 2 nt_info rfl rfl (nt_one ⟨_, _⟩) ?_; intro W5 N0 p)
        have zz := p.below dA (Nat.le_refl _)
        have bel5 := bel.trans (zz.mono bel.size)
        have hW5 := zz.size
        clear dA p cy0 cy1
        have hb5 : b1 < W5.heap.size := Nat.lt_of_lt_of_le hb1 zz.size
        have HC5 : Hid (B = -1 ∨ ∃ (j : Nat) (xa : Nat) (xl : Nat), B = (j : Int) ∧ j < m ∧ W5.cell? ⟨b1, o1 + j * 2, none⟩ = some (.int .u32 (xa : Int)) ∧ W5.cell? ⟨b1, o1 + j * 2 + 1, none⟩ = some (.int .i64 (xl : Int)) ∧ (hit = true → xl < yl)) := by
          rcases HBk.out with h | ⟨j, xa, xl, h1, h2, h3, h4, h5⟩
          · exact Or.inl h
          · exact Or.inr ⟨j, xa, xl, h1, h2, (zz.cell (p := ⟨b1, o1 + j * 2, none⟩) hb1).trans h3, (zz.cell (p := ⟨b1, o1 + j * 2 + 1, none⟩) hb1).trans h4, h5⟩
        clear HBk hb1 zz
        generalize wr.heap.size = bN at *
        dsimp only [Act.put]
        go_cut [69] (fun s69 wx => s69 = .bool hit ∧ Below W5.heap.size W5 wx)
        case first =>
          clear HB2 b0 bel bel5 hW5
          have nn := ab.ne W5
          have cN := ab.cells N0
          cases hit with
          | false =>
            clear HC5
            refine ab.region (by kernel_rfl) (by kernel_rfl) ?_
            repeat (go_big_quiet_step ((go_at_call 24; exact ab.call (CIy.out _))))
            refine wpQuiet_nil ?_
            intro _ hx
            obtain ⟨z, rfl⟩ := hx
            go_wp2_with fail
            go_meet
            case rel => exact ⟨rfl, z.h⟩
          | true =>
            rcases HC5.out with hB | ⟨j, xa, xl, hB, h2, h3, h4, h5⟩
            · clear HC5
              subst hB
              refine ab.region (by kernel_rfl) (by kernel_rfl) ?_
              repeat (go_big_quiet_step ((go_at_call 24; exact ab.call (CIy.out _))))
              refine wpQuiet_nil ?_
              intro _ hx
              obtain ⟨z, rfl⟩ := hx
              go_wp2_with fail
              go_meet
              case rel => exact ⟨rfl, z.h⟩
            · clear HC5
              subst hB
              have h6 := h5 rfl
              clear h5
              have d0 := ab.cell h3 hb5
              have d1 := ab.cell h4 hb5
              have g0 : decide ((j : Int) < 0) = false := decide_eq_false (by omega)
              have g1 : decide (xl < yl) = true := decide_eq_true h6
              refine ab.region (by kernel_rfl) (by kernel_rfl) ?_
              repeat (go_big_quiet_step ((go_at_call 24; exact ab.call (CIy.out _))))
              refine wpQuiet_nil ?_
              intro _ hx
              obtain ⟨z, rfl⟩ := hx
              go_wp2_with fail
              go_meet
              case rel => exact ⟨rfl, z.h⟩
        case rest =>
          obtain ⟨rfl, hb9⟩ := hcut
          have bel9 := bel5.trans (hb9.mono bel5.size)
          clear HC5 CIy N0 hb9 b0 bel bel5 hb5 hW5
          cases hit with
          | false =>
            have HB3 : Hid (Best c rs (i + 1) B) := HB2.out
            clear HB2
            go_wp2_with fail
            go_roundw
            case rel => exact ⟨i + 1, B, rfl, by go_num, by omega, HB3, bel9⟩
            case measure => simp [intOf]; omega
          | true =>
            have HB3 : Hid (Best c rs (i + 1) (i : Int)) := HB2.out
            clear HB2
            go_wp2_with fail
            go_roundw
            case rel => exact ⟨i + 1, (i : Int), rfl, by go_num, by omega, HB3, bel9⟩
            case measure => simp [intOf]; omega
      · obtain rfl : i = m := by omega
        have HE := HEnd.out B HB.out
        rcases HE with ⟨hB, hR⟩ | ⟨j, x, hB, hj, hx, hR⟩
        · have hE : fE R = 7 := by rw [hR]; rfl
          clear HEnd HL CI HNL HVL HG HB0 q1 q2 M0 HB hR
          generalize fE R = rE at *
          generalize fA R = rA at *
          generalize fL R = rL at *
          generalize fV R = rV at *
          subst hE hB
          go_wp2_with fail
          go_ret
          exact ⟨rfl, b0⟩
        · have hE : fE R = 0 := by rw [hR]; rfl
          have hA : fA R = ad 32 x.1 := by rw [hR]; rfl
          have hL : fL R = (x.1.length : Int) := by rw [hR]; rfl
          have hV : fV R = x.2 := by rw [hR]; rfl
          have ex := HNL.out j x hx
          have ev := HVL.out j x hx
          obtain ⟨b1, o1, e1, hb1, _⟩ := rd_spot q1 (by omega)
          subst e1
          obtain ⟨b2, o2, e2, hb2, _⟩ := rd_spot q2 (by omega)
          subst e2
          obtain ⟨hb1, cx0, cx1⟩ := net_at q1 ex
          obtain ⟨hb2, cv⟩ := val_at q2 ev
          clear HEnd HL CI HNL HVL HG HB0 q1 q2 HB hR hx ex ev
          generalize fE R = rE at *
          generalize fA R = rA at *
          generalize fL R = rL at *
          generalize fV R = rV at *
          subst hE hA hL hV hB
          generalize ad 32 x.1 = xa at *
          generalize x.1.length = xl at *
          generalize x.2 = xv at *
          have nn := ab.ne wr
          have cM := ab.cells M0
          have d0 := ab.cell cx0 hb1
          have d1 := ab.cell cx1 hb1
          have d2 := ab.cell cv hb2
          have g0 : decide ((j : Int) < 0) = false := decide_eq_false (by omega)
          go_upto_region 14 with fail
          refine ab.region (by kernel_rfl) (by kernel_rfl) ?_
          repeat (go_big_quiet_step (fail))
          refine wpQuiet_nil ?_
          intro _ hx
          obtain ⟨z, rfl⟩ := hx
          go_wp2_with fail
          go_ret
          exact ⟨rfl, b0.trans (z.h.mono b0.size)⟩
  · have hc' : (chk ns 2 4 != 0) = true := by simpa using hc
    have hR : allR ns = [] := by unfold allR; rw [if_pos hc]
    have hDE : findE ns c = chk ns 2 4 := by unfold findE; rw [if_pos hc]
    rw [hR] at A1
    rw [hDE] at D1
    clear hc hR hDE
    generalize chk ns 2 4 = k at *
    obtain ⟨sa, sc, e_v⟩ := hr.form
    generalize ns.length = n at *
    subst e_v
    have C1 := A1 _ hr
    generalize fA (findR ns c) = a' at *
    generalize fL (findR ns c) = l' at *
    generalize fV (findR ns c) = v' at *
    have cF0 := F0.cell
    go_enter Try.func5, Try.ntmps5
    go_wp2_with fail
    refine C1.mono ?_
    rintro e W1 ⟨v1, v2, rfl, O1, O2, z⟩
    replace b0 := b0.trans (z.mono b0.size)
    replace hr := hr.below z
    replace F0 := F0.below z F0.lt
    clear cF0
    have C2 := D1 W1 hr
    have cF0 := F0.cell
    go_wp2_with fail
    refine C2.mono ?_
    rintro e W2 ⟨rfl, z2⟩
    replace b0 := b0.trans (z2.mono b0.size)
    clear cF0 F0 hr C2 D1 C1 A1 z z2
    have dA := (Below.refl W2.heap.size W2).alloc (Nat.le_refl _) (.cells ZN 27)
    go_upto_region 3 with (refine blk_store _ rfl 27 _ _ rfl W2.heap.size (NC a' l') rfl rfl _ _ (Blk.new W2 ZN 27) 2 nt_info rfl rfl (nt_one ⟨_, _⟩) ?_; intro W3 M0 p)
    have zz := p.below dA (Nat.le_refl _)
    replace b0 := b0.trans (zz.mono b0.size)
    clear zz dA p M0
    go_wp2_with fail
    refine (lives _).mono ?_
    rintro e W4 ⟨rfl, z⟩
    replace b0 := b0.trans (z.mono b0.size)
    clear z
    go_wp2_with fail
    refine (lives _).mono ?_
    rintro e W5 ⟨rfl, z⟩
    replace b0 := b0.trans (z.mono b0.size)
    go_wp2_with fail
    go_ret
    exact ⟨rfl, b0⟩
end Go.Proofs.Ytiddpkppfpdfhaa.pf
