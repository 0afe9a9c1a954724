/- The walk through custkeep.PrefixOrder. -/
import Derived.Test.YtiddpkppfpdfhaaPfLives
namespace Go.Proofs.Ytiddpkppfpdfhaa.pf
open Go.ChangeShapes Go.WideShapes Go.ChangeAt Go.RowKit Go.BigFrame
open Go.Proofs.Ytiddpkppfpdfhaa Go.Proofs.Ytiddpkppfpdfhaa.pm Go.Proofs.Ytiddpkppfpdfhaa.boxes Go.Proofs.Ytiddpkppfpdfhaa.rwr Go.Proofs.Ytiddpkppfpdfhaa.rwat
open Go.Proofs.Ytiddpkppfpdfhaa.rws (Knd Own)

theorem nets_get {rs : List Rw} {i : Nat} {x : Rw} (h : rs[i]? = some x) : (netsOf rs)[i]? = some ⟨ad 32 x.1, x.1.length⟩ := by simp [netsOf, h, nt]
theorem vals_get {rs : List Rw} {i : Nat} {x : Rw} (h : rs[i]? = some x) : (valsOf rs)[i]? = some x.2 := by simp [valsOf, h]
theorem net_at {w : World} {b off n sc : Nat} {l : List Nt} (h : Rd TK w (.slice (some ⟨b, off, none⟩) n sc) l) {i : Nat} {a : Nat} {k : Int} (hi : l[i]? = some ⟨a, k⟩) :
    b < w.heap.size ∧ w.cell? ⟨b, off + i * 2, none⟩ = some (.int .u32 (a : Int)) ∧ w.cell? ⟨b, off + i * 2 + 1, none⟩ = some (.int .i64 k) := by
  obtain ⟨b', off', e, hb, hc⟩ := rd_spot h (by have := (List.getElem?_eq_some_iff.1 hi).1; omega)
  cases e
  exact ⟨hb, hc i _ hi 0 (by decide), hc i _ hi 1 (by decide)⟩
theorem val_at {w : World} {b off n sc : Nat} {l : List Int} (h : Rd NK w (.slice (some ⟨b, off, none⟩) n sc) l) {i : Nat} {u : Int} (hi : l[i]? = some u) :
    b < w.heap.size ∧ w.cell? ⟨b, off + i, none⟩ = some (.int .i64 u) := by
  obtain ⟨b', off', e, hb, hc⟩ := rd_spot h (by have := (List.getElem?_eq_some_iff.1 hi).1; omega)
  cases e
  exact ⟨hb, by simpa [NK] using hc i _ hi 0 (by decide)⟩
theorem rev_get {rs : List Rw} {i : Nat} (hi : i < rs.length) : rs.reverse[i]? = rs[rs.length - 1 - i]? := by
  rw [List.getElem?_reverse hi]
set_option maxRecDepth 20000 in
set_option maxHeartbeats 8000000 in
theorem order_walk (v : Value) (ns : List Nd) (w : World) (hr : Rd DK w v ns) :
    Calls Try.prog 7 #[.agg (TC v)] w fun e w' => e = .returned (.bool true) ∧ Below w.heap.size w w' := by
  have A1 := fun u hu => all_any v ns u hu
  have b0 := (Below.refl w.heap.size w).alloc (Nat.le_refl _) (.cells (TC v) 24)
  have F0 := Blk.new w (TC v) 24
  replace hr := hr.below b0
  by_cases hc : chk ns 2 4 = 0
  · have hrt := chk0 hc
    have hf := hrt.fine
    have hR : allR ns = rows (tree ns) := by unfold allR; rw [if_neg (by rw [hc]; decide)]
    rw [hR, hc] at A1
    have S1 := fun u q (hu : Rd DK u q (lay 0 (back (tree ns) (rows (tree ns)).length))) hv => same_any q v (lay 0 (back (tree ns) (rows (tree ns)).length)) ns u hu hv
    have hse : decide (lay 0 (back (tree ns) (rows (tree ns)).length) = ns) = true := by rw [back_end hf.w]; exact decide_eq_true hrt.2.2.1.symm
    rw [hse] at S1
    have HP : Hid (∀ (u : World) (q : Value) (i : Nat) (x : Rw), Rd DK u q (lay 0 (back (tree ns) i)) → (rows (tree ns)).reverse[i]? = some x → Calls Try.prog 9 #[.agg (TC q), .agg (NC (ad 32 x.1) x.1.length), .int .i64 x.2] u fun e w' => ∃ v', e = .returned (.tuple #[.agg (TC v'), .int .i64 0]) ∧ Own DK w' u.heap.size v' (lay 0 (back (tree ns) (i + 1))) ∧ Below u.heap.size u w') := by
      intro u q i x hu hx
      have hb := back_fine hf i
      have hb' := back_fine hf (i + 1)
      rw [back_step hx] at hb' ⊢
      have hxl : x.1.length ≤ 32 := hf.len (List.mem_reverse.1 (List.mem_of_getElem? hx))
      have := put_yes q (back (tree ns) i) x.1 x.2 u hu hb hxl
      rw [if_neg (by have := hb'.s; omega), if_neg (by have := hb'.s; omega)] at this
      exact this
    have HN : Hid (∀ (i : Nat) (x y : Rw), (rows (tree ns))[i]? = some x → (rows (tree ns))[i + 1]? = some y → ad 32 x.1 < ad 32 y.1 ∨ (ad 32 x.1 = ad 32 y.1 ∧ x.1.length < y.1.length)) := fun i x y hx hy => rows_next hf hx hy
    have hm : (rows (tree ns)).length ≤ 1000 := by have := rows_le (tree ns); have := hf.s; omega
    have hnl : (netsOf (rows (tree ns))).length = (rows (tree ns)).length := by simp [netsOf]
    have hvl : (valsOf (rows (tree ns))).length = (rows (tree ns)).length := by simp [valsOf]
    have HG : Hid (∀ i : Nat, i < (rows (tree ns)).length → ∃ x, (rows (tree ns))[i]? = some x) := fun i hi => ⟨_, List.getElem?_eq_getElem hi⟩
    have HB0 : Hid (lay 0 (back (tree ns) 0) = []) := rfl
    have HZ : Hid (∀ i, (lay 0 (back (tree ns) i)).length ≤ 500) := fun i => by rw [lay_length]; exact (back_fine hf i).s
    obtain ⟨BK, hBK⟩ : ∃ BK, BK = fun i => lay 0 (back (tree ns) i) := ⟨_, rfl⟩
    have hbk : ∀ i, lay 0 (back (tree ns) i) = BK i := fun i => by rw [hBK]
    simp only [hbk] at S1 HP HB0 HZ
    clear hbk hBK hse hrt hf hR hc
    generalize rows (tree ns) = rs at *
    obtain ⟨NL, hNL⟩ : ∃ NL, NL = netsOf rs := ⟨_, rfl⟩
    have HNL : Hid (∀ (i : Nat) (x : Rw), rs[i]? = some x → NL[i]? = some ⟨ad 32 x.1, x.1.length⟩) := fun i x hx => by rw [hNL]; exact nets_get hx
    obtain ⟨VL, hVL⟩ : ∃ VL, VL = valsOf rs := ⟨_, rfl⟩
    have HVL : Hid (∀ (i : Nat) (x : Rw), rs[i]? = some x → VL[i]? = some x.2) := fun i x hx => by rw [hVL]; exact vals_get hx
    have HRV : Hid (∀ i, i < rs.length → rs.reverse[i]? = rs[rs.length - 1 - i]?) := fun i hi => rev_get hi
    rw [← hNL] at A1 hnl
    rw [← hVL] at A1 hvl
    clear hNL hVL
    obtain ⟨m, hmm⟩ : ∃ m, m = rs.length := ⟨_, rfl⟩
    rw [← hmm] at hm hnl hvl S1 HG HRV
    clear hmm
    obtain ⟨sa, sc, e_v⟩ := hr.form
    generalize ns.length = n at *
    subst e_v
    go_enter Try.func7, Try.ntmps7
    go_upto_region 1 with fail
    generalize hV : w.alloc (.cells (TC (.slice sa n sc)) 24) = V at *
    clear hV
    have C1 := A1 V hr
    clear A1
    have cF0 := F0.cell
    go_wp2_with fail
    refine C1.mono ?_
    rintro e W1 ⟨v1, v2, rfl, O1, O2, z⟩
    clear cF0
    replace F0 := F0.below z F0.lt
    replace hr := hr.below z
    replace b0 := b0.trans (z.mono b0.size)
    clear z
    clear C1
    have q1 := Own.rd O1
    have q2 := Own.rd O2
    clear O1 O2
    obtain ⟨sa1, sc1, e1⟩ := q1.form
    rw [hnl] at e1
    subst e1
    obtain ⟨sa2, sc2, e2⟩ := q2.form
    rw [hvl] at e2
    subst e2
    go_wp2_with fail
    refine (lives _).mono ?_
    rintro e W2 ⟨rfl, z⟩
    replace F0 := F0.below z F0.lt
    replace hr := hr.below z
    replace q1 := q1.below z
    replace q2 := q2.below z
    replace b0 := b0.trans (z.mono b0.size)
    clear z
    have M0 := Blk.new W2 Z1 24
    have zz := (Below.refl W2.heap.size W2).alloc (Nat.le_refl _) (.cells Z1 24)
    go_upto_region 5 with fail
    go_wp2_with fail
    go_loopw [36] (fun s36 wr => ∃ (i : Nat) (vm : Value), s36 = .int .i64 (i : Int) ∧ i ≤ m ∧ Blk wr W2.heap.size (TC vm) 24 ∧ Own DK wr (W2.heap.size + 1) vm (BK i) ∧ Below W2.heap.size W2 wr) (fun s _ => m - (intOf s).toNat)
    case atStart => exact ⟨0, .slice none 0 0, rfl, Nat.zero_le _, M0, by rw [HB0.out]; exact Own.nil _ _ _, zz⟩
    case round =>
      clear M0 zz
      obtain ⟨i, vm, rfl, hi, M0, om, bel⟩ := hrel
      replace b0 := b0.trans (bel.mono b0.size)
      replace F0 := F0.below bel F0.lt
      replace hr := hr.below bel
      replace q1 := q1.below bel
      replace q2 := q2.below bel
      obtain ⟨sam, scm, e_m⟩ := (Own.rd om).form
      have hz := HZ.out i
      have om' := Own.rd om
      generalize hnm : (BK i).length = nm at *
      clear hnm
      subst e_m
      by_cases hlt : i < m
      · obtain ⟨k, hk⟩ : ∃ k : Nat, k = m - 1 - i := ⟨_, rfl⟩
        have hki : (m : Int) - 1 - (i : Int) = (k : Int) := by omega
        have hkm : k < m := by omega
        obtain ⟨y, hy⟩ := HG.out k hkm
        have hrv := HRV.out i hlt
        rw [← hk, hy] at hrv
        have ey := HNL.out k y hy
        have ev := HVL.out k y hy
        obtain ⟨b1, o1, e1, hb1, _⟩ := rd_spot q1 (by omega)
        subst e1
        obtain ⟨b2, o2, e2, hb2, _⟩ := rd_spot q2 (by omega)
        subst e2
        obtain ⟨hb1, cy0, cy1⟩ := net_at q1 ey
        obtain ⟨hb2, cv⟩ := val_at q2 ev
        clear hk
        have hlt' : (i : Int) < (m : Int) := by omega
        have HPk : Hid (∀ u, Below wr.heap.size wr u → Calls Try.prog 9 #[.agg (TC (.slice sam nm scm)), .agg (NC (ad 32 y.1) y.1.length), .int .i64 y.2] u fun e w' => ∃ v', e = .returned (.tuple #[.agg (TC v'), .int .i64 0]) ∧ Own DK w' u.heap.size v' (BK (i + 1)) ∧ Below u.heap.size u w') := fun u hu => HP.out u _ i y (om'.below hu) hrv
        have HNx : Hid (∀ j x, k = j + 1 → rs[j]? = some x → wr.cell? ⟨b1, o1 + j * 2, none⟩ = some (.int .u32 (ad 32 x.1 : Int)) ∧ wr.cell? ⟨b1, o1 + j * 2 + 1, none⟩ = some (.int .i64 (x.1.length : Int)) ∧ (ad 32 x.1 < ad 32 y.1 ∨ (ad 32 x.1 = ad 32 y.1 ∧ x.1.length < y.1.length))) := fun j x hj hx => by
          obtain ⟨_, d0, d1⟩ := net_at q1 (HNL.out j x hx)
          exact ⟨d0, d1, HN.out j x y hx (by rw [← hj]; exact hy)⟩
        have HGx : Hid (∀ j, j < m → ∃ x, rs[j]? = some x) := HG
        clear HP ey ev hy hrv
        clear HN HG HNL HVL HRV
        generalize ad 32 y.1 = ya at *
        generalize y.1.length = yl at *
        generalize y.2 = yv at *
        go_upto_region 9 with fail
        go_cut [87] (fun s87 wx => s87 = .bool false ∧ Below wr.heap.size wr wx)
        case first =>
          clear HPk S1 F0 hr om om' M0
          have nn := ab.ne wr
          by_cases hk0 : k = 0
          · have hk0' : (k : Int) = 0 := by omega
            clear HNx
            refine ab.region (by kernel_rfl) (by kernel_rfl) ?_
            repeat (go_big_quiet_step (fail))
            refine wpQuiet_nil ?_
            intro _ hx
            obtain ⟨z, rfl⟩ := hx
            go_wp2_with fail
            go_meet
            case rel => exact ⟨rfl, z.h⟩
          · obtain ⟨j, hkj⟩ : ∃ j, k = j + 1 := ⟨k - 1, by omega⟩
            have hk2 : decide (0 < k) = true := decide_eq_true (by omega)
            obtain ⟨x, hx⟩ := HGx.out j (by omega)
            obtain ⟨d0, d1, hd⟩ := HNx.out j x hkj hx
            have hj1 : (k : Int) - 1 = (j : Int) := by omega
            have hjm : j < m := by omega
            clear HNx HGx hx hkj hk0
            generalize ad 32 x.1 = xa at *
            generalize x.1.length = xl at *
            have e0 := ab.cell cy0 hb1
            have e1 := ab.cell cy1 hb1
            have e2 := ab.cell d0 hb1
            have e3 := ab.cell d1 hb1
            rcases hd with hd | ⟨rfl, hd⟩
            · have g1 : decide (ya < xa) = false := decide_eq_false (by omega)
              have g2 : (xa == ya) = false := by simp; omega
              have g2' : ((xa : Int) == (ya : Int)) = false := by simp; omega
              refine ab.region (by kernel_rfl) (by kernel_rfl) ?_
              repeat (go_big_quiet_step (fail))
              refine wpQuiet_nil ?_
              intro _ hx
              obtain ⟨z, rfl⟩ := hx
              go_wp2_with fail
              go_meet
              case rel => exact ⟨rfl, z.h⟩
            · have g1 : decide (yl ≤ xl) = false := decide_eq_false (by omega)
              refine ab.region (by kernel_rfl) (by kernel_rfl) ?_
              repeat (go_big_quiet_step (fail))
              refine wpQuiet_nil ?_
              intro _ hx
              obtain ⟨z, rfl⟩ := hx
              go_wp2_with fail
              go_meet
              case rel => exact ⟨rfl, z.h⟩
        case rest =>
          obtain ⟨rfl, hb9⟩ := hcut
          have CP := HPk.out wc.drew (hb9.trans ((ab.Ab.drew wc).mono hb9.size))
          have hsz : W2.heap.size + 1 ≤ wc.heap.size := Nat.le_trans M0.lt hb9.size
          have nom := own_ne om (show W2.heap.size < W2.heap.size + 1 by omega)
          have M1 := M0.below hb9 M0.lt
          have g0 := (hb9.cell (p := ⟨b1, o1 + k * 2, none⟩) hb1).trans cy0
          have g1 := (hb9.cell (p := ⟨b1, o1 + k * 2 + 1, none⟩) hb1).trans cy1
          have g2 := (hb9.cell (p := ⟨b2, o2 + k, none⟩) hb2).trans cv
          have bel9 := bel.trans (hb9.mono bel.size)
          clear HPk HNx HGx S1 F0 hr om om' cy0 cy1 cv hb9 bel b0 q1 q2 M0
          go_upto_region 12 with fail
          have cM := M1.cell
          go_region_with (go_at_call 9; refine CP.mono ?_; rintro e w5 ⟨v5, rfl, O5, z5⟩; obtain ⟨sa5, sc5, e5⟩ := (Own.rd O5).form; subst e5; have M5 := (Blk.drew M1).below z5 M1.lt; have c5 := M5.cell; have f5 := M5.free)
          all_goals
            have hn5 := own_ne O5 (show W2.heap.size < wc.drew.heap.size from hsz)
            have O6 := (O5.mono (B' := W2.heap.size + 1) hsz).setCell (i := 0) (u := .slice sa5 (BK (i + 1)).length sc5) hn5
            have M6 := M5.setCell 0 (.slice sa5 (BK (i + 1)).length sc5)
            have bel6 := (but_setCell w5 W2.heap.size 0 (.slice sa5 (BK (i + 1)).length sc5)).below ((bel9.trans ((ab.Ab.drew wc).mono bel9.size)).trans (z5.mono bel9.size)) (Nat.le_refl _)
            clear M5 M1 O5 hn5 cM c5 f5 g0 g1 g2 nom CP
            go_wp2_with fail
            go_roundw
            case rel => exact ⟨i + 1, .slice sa5 (BK (i + 1)).length sc5, by go_num, by omega, M6, O6, bel6⟩
            case measure => simp [intOf]; omega
      · obtain rfl : i = m := by omega
        have C5 := S1 wr _ om' hr
        have cM := M0.cell
        have cF := F0.cell
        go_wp2_with fail
        refine C5.mono ?_
        rintro e W9 ⟨rfl, z⟩
        replace b0 := b0.trans (z.mono b0.size)
        clear cM cF
        go_wp2_with fail
        go_ret
        exact ⟨rfl, b0⟩
  · have hc' : (chk ns 2 4 != 0) = true := by simpa using hc
    have hR : allR ns = [] := by unfold allR; rw [if_pos hc]
    rw [hR] at A1
    clear hc hR
    generalize chk ns 2 4 = c at *
    obtain ⟨sa, sc, e_v⟩ := hr.form
    generalize ns.length = n at *
    subst e_v
    have C1 := A1 _ hr
    have cF0 := F0.cell
    go_enter Try.func7, Try.ntmps7
    go_wp2_with fail
    refine C1.mono ?_
    rintro e W1 ⟨v1, v2, rfl, O1, O2, z⟩
    replace b0 := b0.trans (z.mono b0.size)
    clear cF0
    go_wp2_with fail
    refine (lives _).mono ?_
    rintro e W2 ⟨rfl, z⟩
    replace b0 := b0.trans (z.mono b0.size)
    go_wp2_with fail
    refine (lives _).mono ?_
    rintro e W3 ⟨rfl, z⟩
    replace b0 := b0.trans (z.mono b0.size)
    go_wp2_with fail
    go_ret
    exact ⟨rfl, b0⟩
end Go.Proofs.Ytiddpkppfpdfhaa.pf
