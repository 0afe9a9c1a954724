/- What custref.Rounded answers. -/
import Derived.Test.YtbhejjpkmnldhaaTuRound
namespace Go.Proofs.Ytbhejjpkmnldhaa.tu
open Go.ChangeShapes Go.WideShapes Go.ChangeAt Go.RowKit Go.BigFrame
open Go.Proofs.Ytbhejjpkmnldhaa Go.Proofs.Ytbhejjpkmnldhaa.boxes Go.Proofs.Ytbhejjpkmnldhaa.rwr Go.Proofs.Ytbhejjpkmnldhaa.rwat
open Go.Proofs.Ytbhejjpkmnldhaa.rws (Knd Own)

theorem TO.only {β : Type} {K : Knd β} {u u' : World} {B B' : Nat} {v v1 v2 : Value} {L : List Qu} {l : List β} (h : TO u B v L) (z : Own K u B' v1 l) (hn : NK.e ≠ K.e) (hq : QK.e ≠ K.e) (o : Only v1 v2 u u') : TO u' B v L := by
  obtain ⟨Y, h1, h2, h3⟩ := h
  exact ⟨Y, own_grown h1 o.1 (kinds_ne h1 z hq), h2, fun j x q hx hp => ⟨(h3 j x q hx hp).1, (h3 j x q hx hp).2.1, (h3 j x q hx hp).2.2.grown o.1 (kinds_ne (h3 j x q hx hp).2.2.1 z hn)⟩⟩
theorem TO.grow {u u' : World} {B : Nat} {v v' : Value} {L : List Qu} {Y : List Qv} {x : Qv} {q : Qu} (o : Own QK u B v Y) (hl : Y.length = L.length) (h3 : ∀ (j : Nat) y q, Y[j]? = some y → L[j]? = some q → y.sh = q.sh ∧ y.sv = q.sv ∧ FN u B y.sl q.l)
    (o' : Own QK u' B v' (Y ++ [x])) (g : u.grownBy u' v.ownBlock) (x1 : x.sh = q.sh) (x2 : x.sv = q.sv) (x3 : FN u B x.sl q.l) : TO u' B v' (L ++ [q]) := by
  refine ⟨Y ++ [x], o', by simp [hl], fun j y p hy hp => ?_⟩
  by_cases hj : j < Y.length
  · rw [List.getElem?_append_left hj] at hy
    rw [List.getElem?_append_left (by omega)] at hp
    obtain ⟨a, b, c⟩ := h3 j y p hy hp
    exact ⟨a, b, c.grown g (kinds_ne c.1 o (by decide))⟩
  · rw [List.getElem?_append_right (by omega)] at hy hp
    rw [hl] at hy
    have hj0 : j - L.length = 0 := by
      have := (List.getElem?_eq_some_iff.1 hy).1
      simpa using this
    rw [hj0] at hy hp
    simp at hy hp
    subst hy hp
    exact ⟨x1, x2, x3.grown g (kinds_ne x3.1 o (by decide))⟩
theorem rnd_take {L : List Qu} {i : Nat} {q : Qu} (h : L[i]? = some q) : rnd (L.take (i + 1)) = rnd (L.take i) ++ [rq q] := by
  unfold rnd
  rw [List.take_add_one, h, List.map_append]
  rfl
theorem seg (L : List Qu) : rnd (L.take L.length) = rnd L := by rw [List.take_length]
theorem TO.lt {u : World} {B : Nat} {v : Value} {L : List Qu} (h : TO u B v L) : ∀ g, v.ownBlock = some g → g < u.heap.size := by
  obtain ⟨Y, h1, _⟩ := h
  exact own_lt h1
theorem TO.but {u u' : World} {B g : Nat} {v : Value} {L : List Qu} {F : Array Value} (h : TO u B v L) (b : But g u u') (hne : v.ownBlock ≠ some g) (k : Blk u g F 41) : TO u' B v L := by
  obtain ⟨Y, h1, h2, h3⟩ := h
  exact ⟨Y, h1.but b hne, h2, fun j x q hx hp => ⟨(h3 j x q hx hp).1, (h3 j x q hx hp).2.1, (h3 j x q hx hp).2.2.but b (blk_ne (h3 j x q hx hp).2.2.1 k (by decide))⟩⟩
theorem fin_a {wr w8 : World} {fa : Option Addr} {fn fc : Nat} {ld : List Int} (sh : Int) (F8 : FN w8 wr.heap.size (.slice fa fn fc) ld) (z8 : Below wr.heap.size wr w8) :
    Blk (w8.alloc (.cells (QC sh 0 (.slice fa fn fc)) 41)) w8.heap.size (QC sh 0 (.slice fa fn fc)) 41 ∧ wr.heap.size ≤ w8.heap.size ∧ FN (w8.alloc (.cells (QC sh 0 (.slice fa fn fc)) 41)) wr.heap.size (.slice fa fn fc) ld ∧ Below wr.heap.size wr (w8.alloc (.cells (QC sh 0 (.slice fa fn fc)) 41)) := by
  have b := (Below.refl w8.heap.size w8).alloc (Nat.le_refl _) (.cells (QC sh 0 (.slice fa fn fc)) 41)
  exact ⟨Blk.new _ _ _, z8.size, F8.kept b, z8.trans (b.mono z8.size)⟩
theorem fin_b {wr w8 : World} {C : Nat} {fa : Option Addr} {fn fc : Nat} {ld : List Int} (sh : Int) (F8 : FN w8 C (.slice fa fn fc) ld) (hC : wr.heap.size + 1 ≤ C) (kA : Blk w8 wr.heap.size (QC 0 0 (.slice none 0 0)) 41) (z8 : Below wr.heap.size wr w8) :
    Blk (((w8.setCell ⟨wr.heap.size, 0, none⟩ (.int .i64 sh)).setCell ⟨wr.heap.size, 1, none⟩ (.int .i64 0)).setCell ⟨wr.heap.size, 2, none⟩ (.slice fa fn fc)) wr.heap.size (QC sh 0 (.slice fa fn fc)) 41 ∧ wr.heap.size ≤ wr.heap.size ∧ FN (((w8.setCell ⟨wr.heap.size, 0, none⟩ (.int .i64 sh)).setCell ⟨wr.heap.size, 1, none⟩ (.int .i64 0)).setCell ⟨wr.heap.size, 2, none⟩ (.slice fa fn fc)) wr.heap.size (.slice fa fn fc) ld ∧ Below wr.heap.size wr (((w8.setCell ⟨wr.heap.size, 0, none⟩ (.int .i64 sh)).setCell ⟨wr.heap.size, 1, none⟩ (.int .i64 0)).setCell ⟨wr.heap.size, 2, none⟩ (.slice fa fn fc)) := by
  have u1 := but_setCell w8 wr.heap.size 0 (.int .i64 sh)
  have u2 := but_setCell (w8.setCell ⟨wr.heap.size, 0, none⟩ (.int .i64 sh)) wr.heap.size 1 (.int .i64 0)
  have u3 := but_setCell ((w8.setCell ⟨wr.heap.size, 0, none⟩ (.int .i64 sh)).setCell ⟨wr.heap.size, 1, none⟩ (.int .i64 0)) wr.heap.size 2 (.slice fa fn fc)
  have hne := own_ne (g := wr.heap.size) F8.1 (by omega)
  exact ⟨((kA.setCell 0 (.int .i64 sh)).setCell 1 (.int .i64 0)).setCell 2 (.slice fa fn fc), Nat.le_refl _, (((F8.but u1 hne).but u2 hne).but u3 hne).mono (by omega), u3.below (u2.below (u1.below z8 (Nat.le_refl _)) (Nat.le_refl _)) (Nat.le_refl _)⟩
set_option maxRecDepth 20000 in
set_option maxHeartbeats 16000000 in
theorem rounded_any (v : Value) (L : List Qu) (w : World) (h : TRd w v L) (hc : chk L = 0) : Calls Try.prog 12 #[v] w fun e w' => ∃ v' z', e = .returned (.tuple #[v', z']) ∧ TO w' w.heap.size v' (rnd L) ∧ Own ZK w' w.heap.size z' (snt L) ∧ Below w.heap.size w w' := by
  obtain ⟨hL16, hFine⟩ := chk_zero.1 hc
  have HLn : Hid (∀ i, (snt (L.take i)).length ≤ 3200) := snt_take_len hc
  have HLr : Hid (∀ i, (rnd (L.take i)).length ≤ 16) := fun i => by rw [rnd_length, List.length_take]; omega
  have HLq : Hid (∀ (q : Qu), q ∈ L → Fine q) := hFine
  have HS : Hid (∀ i q, L[i]? = some q → snt (L.take (i + 1)) = snt (L.take i) ++ (sq q).map (Sn.mk i) ∧ rnd (L.take (i + 1)) = rnd (L.take i) ++ [rq q]) := fun _ _ h => ⟨snt_succ h, rnd_take h⟩
  have CN := fun v l u h hb => cloneN_any v l u h hb
  obtain ⟨X, hr, hXl, hX⟩ := h
  obtain ⟨sa, sc, rfl⟩ := hr.form
  have HX : Hid (∀ u, Below w.heap.size w u → 0 < X.length → ∃ b off, sa = some ⟨b, off, none⟩ ∧ b < w.heap.size ∧ ∀ j x, X[j]? = some x → ∀ i, i < QK.k → u.cell? ⟨b, off + j * QK.k + i, none⟩ = (QK.enc x)[i]?) := fun u hu hp => by
    obtain ⟨b1, o1, e1, h1, h2⟩ := rd_spot hr hp
    exact ⟨b1, o1, e1, h1, fun j x hj i hi => (hu.cell (p := ⟨b1, o1 + j * QK.k + i, none⟩) h1).trans (h2 j x hj i hi)⟩
  have HG : Hid (∀ i, i < X.length → ∃ x q, X[i]? = some x ∧ L[i]? = some q ∧ x.sh = q.sh ∧ x.sv = q.sv ∧ Rd NK w x.sl q.l) := fun i hi => by
    obtain ⟨a, b, c⟩ := hX i _ _ (List.getElem?_eq_getElem hi) (List.getElem?_eq_getElem (by omega))
    exact ⟨X[i], L[i]'(by omega), List.getElem?_eq_getElem hi, List.getElem?_eq_getElem _, a, b, c⟩
  have HE : Hid (snt (L.take X.length) = snt L ∧ rnd (L.take X.length) = rnd L) := by rw [hXl]; exact ⟨snt_all L, seg L⟩
  have hn16 : X.length ≤ 16 := by omega
  clear hc hFine hr hX hXl hL16
  generalize X.length = n at *
  have b0 := Below.refl w.heap.size w
  go_enter Try.func12, Try.ntmps12
  go_wp2_with fail
  go_loopw [4, 5, 14] (fun s4 s5 s14 wr => ∃ (i : Nat) (na : Option Addr) (nn nc : Nat) (za : Option Addr) (zn zc : Nat), s4 = .slice na nn nc ∧ s5 = .slice za zn zc ∧ s14 = .int .i64 (i : Int) ∧ i ≤ n ∧ TO wr w.heap.size (.slice na nn nc) (rnd (L.take i)) ∧ Own ZK wr w.heap.size (.slice za zn zc) (snt (L.take i)) ∧ Below w.heap.size w wr) (fun _ _ s _ => n - (intOf s).toNat)
  case atStart => exact ⟨0, none, 0, 0, none, 0, 0, rfl, rfl, rfl, Nat.zero_le _, TO.nil _ _, rws.Own.nil _ _ _, b0⟩
  case round =>
    clear b0
    obtain ⟨i, na, nn, nc, za, zn, zc, rfl, rfl, rfl, hi, T, Zs, bel⟩ := hrel
    by_cases hlt : i < n
    rotate_left
    · have hlt' : ¬ (i : Int) < (n : Int) := by omega
      have ei : i = n := by omega
      subst ei
      rw [HE.out.1] at Zs
      rw [HE.out.2] at T
      clear HX HG HE HS HLn HLq HLr CN
      go_wp2_with fail
      go_ret2
      exact ⟨_, _, rfl, T, Zs, bel⟩
    have hlt' : (i : Int) < (n : Int) := by omega
    obtain ⟨x, q, hx, hq, q1, q2, rdx⟩ := HG.out i hlt
    obtain ⟨b1, o1, rfl, hb1, hx1⟩ := HX.out wr bel (by omega)
    obtain ⟨hS, hS2⟩ := HS.out i q hq
    have HS1 : Hid (snt (L.take (i + 1)) = snt (L.take i) ++ (q.l.take (many q)).map (Sn.mk i)) := hS
    have HS2 : Hid (rnd (L.take (i + 1)) = rnd (L.take i) ++ [⟨q.sh, left q, q.l.drop (many q)⟩]) := hS2
    have hl32 := HLn.out i
    have hl16 := HLr.out i
    have hf := HLq.out q (List.mem_of_getElem? hq)
    have hl200 := hf.len
    have g1 := hf.sv0
    have g2 := hf.svm
    have g3 := hf.sh0
    have g4 := hf.sh1
    have HZ : Hid (∀ (k : Nat) (y : Int), q.l[k]? = some y → 1 ≤ y ∧ y ≤ 1000000) := fun k y hk => hf.sz y (List.mem_of_getElem? hk)
    have HA : Hid (∀ k s, St (q.sv + q.sh) q.l k s → k = q.l.length → many q = k ∧ left q = 0) := fun _ _ h e => h.all e
    have HB : Hid (∀ k s y, St (q.sv + q.sh) q.l k s → q.l[k]? = some y → s < y → many q = k ∧ left q = s) := fun _ _ _ h e n => h.stop e (by omega)
    have H0 : Hid (St (q.sv + q.sh) q.l 0 (q.sv + q.sh)) := st_zero (by omega)
    rw [← q1] at g3 g4 HA HB H0 HS2
    rw [← q2] at g1 g2 HA HB H0
    have Zb := Blk.new wr (QC 0 0 (.slice none 0 0)) 41
    have dA := (Below.refl wr.heap.size wr).alloc (Nat.le_refl _) (.cells (QC 0 0 (.slice none 0 0)) 41)
    obtain ⟨sh, sv, xa, xn, xc⟩ := x
    dsimp only [Qv.cells, Qv.sl] at *
    have hxn := rd_n rdx
    rw [← hxn] at hl200 HA
    have HQN : Hid (xn = q.l.length) := hxn
    have HH : Hid (∀ u, Below w.heap.size w u → 0 < xn → ∃ b off, xa = some ⟨b, off, none⟩ ∧ b < w.heap.size ∧ ∀ (j : Nat) x, q.l[j]? = some x → u.cell? ⟨b, off + j, none⟩ = some (.int .i64 x)) := fun u hu hp => by
      obtain ⟨b1, o1, e1, h1, h2⟩ := int_cells rdx (by omega)
      exact ⟨b1, o1, e1, h1, fun j x hj => (hu.cell (p := ⟨b1, o1 + j, none⟩) h1).trans (h2 j x hj)⟩
    have HJ : Hid (∀ j, j < xn → ∃ y, q.l[j]? = some y) := fun j hj => ⟨q.l[j]'(by omega), List.getElem?_eq_getElem _⟩
    have HRl : Hid (∀ j, j ≤ xn → Rd NK w (sliced xa j xn xc 1) (q.l.drop j) ∧ (q.l.drop j).length ≤ 200) := fun j hj => ⟨by rw [hxn]; exact rd_lo (by rw [← hxn]; exact rdx) j (by omega), by rw [List.length_drop]; omega⟩
    have HTl : Hid (∀ j, (q.l.take j).length ≤ 200) := fun j => by rw [List.length_take]; omega
    clear HX HG HE HS HLn HLq HLr hf hS hS2 q1 q2 hxn rdx hq
    go_upto_region 6 with (first
      | (refine rd_load QK _ rfl _ rfl b1 o1 X hx1 i _ rfl rfl _ hx (QC sh sv (.slice xa xn xc)) rfl _ Try.underlying41 rfl ?_)
      | (refine blk_store _ rfl 41 _ _ rfl wr.heap.size (QC sh sv (.slice xa xn xc)) rfl rfl _ _ Zb 3 qv_info rfl rfl (qc_one _ _ _ _ _) ?_; intro W3 k3 p3))
    have z := p3.below dA (Nat.le_refl _)
    replace T := T.kept z
    replace Zs := Zs.kept z
    replace bel := bel.trans (z.mono bel.size)
    clear Zb dA p3 hx1 z hx
    generalize wr.heap.size = bx at *
    generalize many q = M at *
    generalize left q = R at *
    generalize hSS : sv + sh = S at *
    have wS : wrap64 (sv + sh) = S := by unfold wrap64; omega
    have s1 : 0 ≤ S := by omega
    have s2 : S ≤ 2000000 := by omega
    have HS0 : Hid (sv + sh = S) := hSS
    clear hSS
    obtain ⟨S0, hS0⟩ : ∃ S0, S0 = snt (L.take i) := ⟨_, rfl⟩
    obtain ⟨N0, hN0⟩ : ∃ N0, N0 = rnd (L.take i) := ⟨_, rfl⟩
    rw [← hS0] at Zs HS1 hl32
    rw [← hN0] at T HS2 hl16
    clear hS0 hN0
    have ck := k3.cell
    go_wp2_with fail
    clear ck
    go_loopw [5, 9, 10] (fun s5 s9 s10 wr => ∃ (j : Nat) (t : Int) (ya : Option Addr) (yn yc : Nat), s5 = .slice ya yn yc ∧ s9 = .int .i64 t ∧ s10 = .int .i64 (j : Int) ∧ j ≤ xn ∧ 0 ≤ t ∧ t ≤ S ∧ Hid (St S q.l j (S - t)) ∧ Own ZK wr w.heap.size (.slice ya yn yc) (S0 ++ (q.l.take j).map (Sn.mk i)) ∧ Only (.slice za zn zc) (.slice ya yn yc) W3 wr ∧ Below w.heap.size w wr) (fun _ _ s _ => xn - (intOf s).toNat)
    case atStart => exact ⟨0, 0, za, zn, zc, rfl, rfl, rfl, Nat.zero_le _, by omega, by omega, by show St S q.l 0 (S - 0); rw [Int.sub_zero]; exact H0.out, by simpa using Zs, Only.refl _ _, bel⟩
    case round =>
      obtain ⟨j, t, ya, yn, yc, rfl, rfl, rfl, hj, t0, t1, HSt, O6, ow, bl6⟩ := hrel
      have HB2 : Hid (∀ y, q.l[j]? = some y → S - t < y → M = j ∧ R = S - t) := fun y h1 h2 => HB.out j _ y HSt.out h1 h2
      have HA2 : Hid (j = xn → M = j ∧ R = 0) := fun h => HA.out j _ HSt.out h
      clear HA HB H0
      have k6 := ow.blk k3 (blk_ne Zs k3 (by decide))
      have ck := k6.cell
      obtain ⟨go, hgo⟩ : ∃ go : Bool, Hid (go = true → j < xn ∧ ∃ y, q.l[j]? = some y ∧ y ≤ S - t) ∧ Hid (go = false → (j = xn ∧ R = 0 ∧ M = j) ∨ (j < xn ∧ R = S - t ∧ M = j)) ∧ Hid (go = (decide (j < xn) && decide (∃ y, q.l[j]? = some y ∧ y ≤ S - t))) := by
        by_cases hjl : j < xn
        · obtain ⟨y, hy⟩ := HJ.out j hjl
          by_cases hle : y ≤ S - t
          · exact ⟨true, fun _ => ⟨hjl, y, hy, hle⟩, fun h => absurd h (by decide), by show _ = _; simp [hjl, hy, hle]⟩
          · obtain ⟨r1, r2⟩ := HB2.out y hy (by omega)
            exact ⟨false, fun h => absurd h (by decide), fun _ => Or.inr ⟨hjl, r2, r1⟩, by show _ = _; simp [hjl, hy]; omega⟩
        · obtain ⟨r1, r2⟩ := HA2.out (by omega)
          exact ⟨false, fun h => absurd h (by decide), fun _ => Or.inl ⟨by omega, r2, r1⟩, by show _ = _; simp [hjl]⟩
      obtain ⟨HG1, HG2, HG3⟩ := hgo
      go_upto_region 7 with fail
      go_cut [39] (fun c wx => c = .bool go ∧ wr = wx)
      case first =>
        by_cases hjl : j < xn
        · have hjl' : (j : Int) < (xn : Int) := by omega
          obtain ⟨y, hy⟩ := HJ.out j hjl
          obtain ⟨b5, o5, rfl, hb5, hc5⟩ := HH.out wr bl6 (by omega)
          have c5 := hc5 j y hy
          obtain ⟨y0, y1⟩ := HZ.out j y hy
          have wt : wrap64 (t + y) = t + y := by unfold wrap64; omega
          have e3 : go = decide (t + y ≤ S) := by
            rw [HG3.out, decide_eq_true hjl, Bool.true_and]
            by_cases h : t + y ≤ S
            · rw [decide_eq_true h, decide_eq_true]; exact ⟨y, hy, by omega⟩
            · rw [decide_eq_false h, decide_eq_false]; rintro ⟨y', e, h'⟩; rw [hy] at e; obtain rfl := Option.some.inj e; omega
          have HE3 : Hid (go = decide (t + y ≤ S)) := e3
          clear HG1 HG2 HG3 HJ HH hc5 hy HZ e3
          go_wp2_with fail
          go_meet
          case rel => exact ⟨by rw [HE3.out, HS0.out], rfl⟩
        · have hjl' : ¬ (j : Int) < (xn : Int) := by omega
          have HE3 : Hid (go = false) := by show _ = _; rw [HG3.out]; simp [hjl]
          clear HG1 HG2 HG3 HJ HH HZ
          go_wp2_with fail
          go_meet
          case rel => exact ⟨by rw [HE3.out], rfl⟩
      case rest =>
        obtain ⟨rfl, hwc⟩ := hcut
        subst hwc
        clear HG3
        cases go with
        | true =>
          obtain ⟨hjl, y, hy, hle⟩ := HG1.out rfl
          obtain ⟨y0, y1⟩ := HZ.out j y hy
          have hjl' : (j : Int) < (xn : Int) := by omega
          obtain ⟨b5, o5, rfl, hb5, hc5⟩ := HH.out wr bl6 (by omega)
          have c5 := hc5 j y hy
          have ht := HTl.out j
          have wt : wrap64 (t + y) = t + y := by unfold wrap64; omega
          have HSt2 : Hid (St S q.l (j + 1) (S - (t + y))) := by
            have := HSt.out.next hy hle (by omega)
            rwa [show S - t - y = S - (t + y) by omega] at this
          have q3 : (S0 ++ (q.l.take j).map (Sn.mk i)).length + 1 ≤ 1000000000000 := by rw [List.length_append, List.length_map]; omega
          have q4 : ((S0 ++ (q.l.take j).map (Sn.mk i)).length + 1) * ZK.by_ ≤ 140737488355328 := by rw [List.length_append, List.length_map]; show (_ + _ + 1) * 16 ≤ _; omega
          have q5 : w.heap.size ≤ (wr.alloc (.cells (Sn.cells ⟨i, y⟩) 34)).heap.size := by have := bl6.size; simp; omega
          have O7 := O6.alloc (.cells (Sn.cells ⟨i, y⟩) 34)
          have Y7 := Blk.new wr (Sn.cells ⟨i, y⟩) 34
          have bW := (Below.refl wr.heap.size wr).alloc (Nat.le_refl _) (.cells (Sn.cells ⟨i, y⟩) 34)
          have hge := own_ge O6
          have HN2 : Hid ((S0 ++ (q.l.take j).map (Sn.mk i)) ++ [⟨i, y⟩] = S0 ++ (q.l.take (j + 1)).map (Sn.mk i)) := take_one hy S0 i
          have u1 : t + y ≤ S := by omega
          clear HH hc5 hy ht Zs O6 HS1 HTl HJ HZ HA2 HB2 HG1 HG2 HSt HRl HS2 T hle
          generalize S0 ++ (q.l.take j).map (Sn.mk i) = SS at *
          go_wp2_with (at_builtin; refine app_at ZK _ rfl _ _ rfl w.heap.size _ SS rfl O7 wr.heap.size 1 ⟨i, y⟩ 34 rfl Y7 q3 q4 q5 ?_; intro v7 w7 o7 g7 x7; obtain ⟨a7, c7, e7⟩ := (Own.rd o7).form; obtain ⟨n7, hn7⟩ : ∃ n7, n7 = (SS ++ [(⟨i, y⟩ : Sn)]).length := ⟨_, rfl⟩; rw [← hn7] at e7; subst e7; clear hn7)
          have oo : Only (.slice ya yn yc) (.slice a7 n7 c7) wr w7 := (Only.of_below bW).trans (Only.of_app g7 x7)
          have ow2 := ow.trans oo
          have bl7 := bl6.trans (oo.below hge bl6.size)
          clear c5
          go_roundw
          case rel => exact ⟨j + 1, t + y, a7, n7, c7, rfl, rfl, by go_num, by omega, by omega, u1, HSt2, by rw [← HN2.out]; exact o7, ow2, bl7⟩
          case measure => simp [intOf]; omega
        | false =>
          have HM : Hid (M = j) := by rcases HG2.out rfl with ⟨_, _, h⟩ | ⟨_, _, h⟩ <;> exact h
          have HRr : Hid ((j = xn ∧ R = 0) ∨ (j < xn ∧ R = S - t)) := by rcases HG2.out rfl with ⟨a, b, _⟩ | ⟨a, b, _⟩; exact Or.inl ⟨a, b⟩; exact Or.inr ⟨a, b⟩
          obtain ⟨rdl, hdl⟩ := HRl.out j hj
          have T6 := T.only Zs (by decide) (by decide) ow
          have sl2 := sl_lo xa xn xc j hj
          rw [HM.out] at HS1 HS2
          have HS3 : Hid (snt (L.take (i + 1)) = S0 ++ (q.l.take j).map (Sn.mk i)) := HS1.out
          have HS4 : Hid (rnd (L.take (i + 1)) = N0 ++ [⟨sh, R, q.l.drop j⟩]) := HS2.out
          clear HS1 HS2 HG1 HG2 HA2 HB2 HRl HTl HJ HH HZ HSt T Zs HM ow k3 HQN
          generalize q.l.drop j = ld at *
          obtain ⟨SS, hSS⟩ : ∃ SS, SS = S0 ++ (q.l.take j).map (Sn.mk i) := ⟨_, rfl⟩
          rw [← hSS] at HS3 O6
          clear hSS hl32
          obtain ⟨lo, e_lo⟩ : ∃ lo, lo = sliced xa j xn xc 1 := ⟨_, rfl⟩
          rw [← e_lo] at sl2 rdl
          clear e_lo
          go_upto_region 11 with fail
          go_cut [11] (fun s11 wx => ∃ bz fa fn fc, s11 = .pointer (some ⟨bz, 0, none⟩) ∧ Blk wx bz (QC sh 0 (.slice fa fn fc)) 41 ∧ wr.heap.size ≤ bz ∧ FN wx wr.heap.size (.slice fa fn fc) ld ∧ Below wr.heap.size wr wx)
          case first =>
            have CNa := CN lo ld wr.drew (rdl.below (bl6.trans ((ab.Ab.drew wr).mono bl6.size))) (by omega)
            have bA := (ab.Ab.drew wr).alloc (Nat.le_refl _) (.cells (QC 0 0 (.slice none 0 0)) 41)
            have CNb := CN lo ld (wr.alloc (.cells (QC 0 0 (.slice none 0 0)) 41)).drew (rdl.below (bl6.trans (bA.mono bl6.size))) (by omega)
            have KA : Blk (wr.alloc (.cells (QC 0 0 (.slice none 0 0)) 41)).drew wr.heap.size (QC 0 0 (.slice none 0 0)) 41 := Blk.new wr.drew _ _
            have kB : Blk (wr.alloc (.cells (QC 0 0 (.slice none 0 0)) 41)).drew bx (QC sh sv (.slice xa xn xc)) 41 := (Blk.drew k6).alloc _
            have cB := kB.cell
            clear CN
            go_region_with (first
              | (go_at_call 17; refine CNa.mono ?_; rintro e w8 ⟨v8, rfl, F8, z8⟩; obtain ⟨fa, fc, e8⟩ := (FN.rd F8).form; obtain ⟨fn, hfn⟩ : ∃ fn, fn = ld.length := ⟨_, rfl⟩; rw [← hfn] at e8; subst e8; clear hfn; have k8 := (Blk.drew k6).below z8 (Blk.lt (Blk.drew k6)); have c8 := k8.cell; have c9 := (k8.alloc (.cells (QC 0 0 (.slice none 0 0)) 41)).cell)
              | (go_at_call 17; refine CNb.mono ?_; rintro e w8 ⟨v8, rfl, F8, z8⟩; obtain ⟨fa, fc, e8⟩ := (FN.rd F8).form; obtain ⟨fn, hfn⟩ : ∃ fn, fn = ld.length := ⟨_, rfl⟩; rw [← hfn] at e8; subst e8; clear hfn; have kA := KA.below z8 KA.lt; have cA := kA.cell; have fA := kA.free; have c8 := (kB.below z8 kB.lt).cell))
            all_goals simp only [Exit.then]
            all_goals go_step
            all_goals go_meet
            all_goals first
              | (have z9 : Below wr.heap.size wr w8 := Below.trans (ab.Ab.drew wr) z8
                 have F9 : FN w8 wr.heap.size (.slice fa fn fc) ld := F8
                 have f := fin_a (wr := wr) sh F9 z9
                 exact ⟨_, fa, fn, fc, rfl, f.1, f.2.1, f.2.2.1, f.2.2.2⟩)
              | (have f := fin_b sh F8 (by simp) kA (bA.trans (z8.mono bA.size))
                 exact ⟨_, fa, fn, fc, rfl, f.1, f.2.1, f.2.2.1, f.2.2.2⟩)
          case rest =>
            obtain ⟨bz, fa, fn, fc, rfl, kz, hbz, Fz, Bz⟩ := hcut
            have hlt9 := T6.lt
            replace T6 := T6.kept Bz
            replace O6 := O6.kept Bz
            have k9 := k6.below Bz k6.lt
            have bl9 := bl6.trans (Bz.mono bl6.size)
            have F9 := Fz.mono (B' := w.heap.size) bl6.size
            have hwr := bl9.size
            have hbx := k6.lt
            have hw6 := bl6.size
            clear k6 Bz Fz bl6 ck
            have hsv : wrap64 (S - t) = S - t := by unfold wrap64; omega
            rcases HRr.out with ⟨ej, eR⟩ | ⟨hjl, eR⟩
            · subst ej
              have HR : Hid (R = 0) := eR
              have hjl' : ¬ (j : Int) < (j : Int) := by omega
              have cc := k9.cell
              have bq := (Below.refl wc.heap.size wc).alloc (Nat.le_refl _) (.cells (QC sh 0 (.slice fa fn fc)) 41)
              have T8 := T6.kept bq
              obtain ⟨Y, oY, hYl, hY3⟩ := T8
              have O8 := O6.kept bq
              have F8 := F9.kept bq
              have KY := Blk.new wc (QC sh 0 (.slice fa fn fc)) 41
              have bl8 := bl9.trans (bq.mono bl9.size)
              have p3 : Y.length + 1 ≤ 1000000000000 := by omega
              have p4 : (Y.length + 1) * QK.by_ ≤ 140737488355328 := by show (Y.length + 1) * 40 ≤ _; omega
              have p5 := bl8.size
              have hge := own_ge oY
              clear T6 O6 F9 bl9 bq
              go_wp2_with (first
                | (refine blk_load _ rfl 41 _ rfl bz rfl _ _ kz _ Try.underlying41 rfl 3 qv_info rfl ?_)
                | (at_builtin; refine app_at QK _ rfl _ _ rfl w.heap.size _ Y rfl oY wc.heap.size 1 ⟨sh, 0, fa, fn, fc⟩ 41 rfl KY p3 p4 p5 ?_; intro v7 w7 o7 g7 x7; obtain ⟨a7, c7, e7⟩ := (Own.rd o7).form; obtain ⟨n7, hn7⟩ : ∃ n7, n7 = (Y ++ [(⟨sh, 0, fa, fn, fc⟩ : Qv)]).length := ⟨_, rfl⟩; rw [← hn7] at e7; subst e7; clear hn7))
              have T9 := TO.grow (q := ⟨sh, R, ld⟩) oY hYl hY3 o7 g7 rfl HR.out.symm F8
              have O9 := own_grown O8 g7 (kinds_ne O8 oY (by decide))
              have bl10 := bl8.trans ((Only.of_app g7 x7).below hge bl8.size)
              go_roundw
              case rel => exact ⟨i + 1, _, _, _, ya, yn, yc, rfl, rfl, by go_num, by omega, by rw [HS4.out]; exact T9, by rw [HS3.out]; exact O9, bl10⟩
              case measure => simp [intOf]; omega
            · have HR : Hid (R = sv + sh - t) := by show _ = _; rw [HS0.out]; exact eR
              have hjl' : (j : Int) < (xn : Int) := by omega
              have cc := k9.cell
              have cz := kz.cell
              have fz := kz.free
              have hsv2 : wrap64 (sv + sh - t) = sv + sh - t := by unfold wrap64; omega
              have hneT : (Value.slice na nn nc).ownBlock ≠ some bz := fun e => by have := hlt9 bz e; omega
              have u1 := but_setCell wc bz 1 (.int .i64 (sv + sh - t))
              have k10 := u1.blk k9 (by omega)
              have T6 := T6.but u1 hneT kz
              have O6 := O6.but u1 (blk_ne O6 kz (by decide))
              have F9 := F9.but u1 (blk_ne F9.1 kz (by decide))
              have bl9 := u1.below bl9 (by omega)
              have kz := kz.setCell 1 (.int .i64 (sv + sh - t))
              have kz : Blk (wc.setCell ⟨bz, 1, none⟩ (.int .i64 (sv + sh - t))) bz (QC sh (sv + sh - t) (.slice fa fn fc)) 41 := kz
              clear u1
              go_upto_region 14 with fail
              generalize hV : wc.setCell ⟨bz, 1, none⟩ (.int .i64 (sv + sh - t)) = V at *
              clear hV cz fz cc
              have bq := (Below.refl V.heap.size V).alloc (Nat.le_refl _) (.cells (QC sh (sv + sh - t) (.slice fa fn fc)) 41)
              have T8 := T6.kept bq
              obtain ⟨Y, oY, hYl, hY3⟩ := T8
              have O8 := O6.kept bq
              have F8 := F9.kept bq
              have KY := Blk.new V (QC sh (sv + sh - t) (.slice fa fn fc)) 41
              have bl8 := bl9.trans (bq.mono bl9.size)
              have p3 : Y.length + 1 ≤ 1000000000000 := by omega
              have p4 : (Y.length + 1) * QK.by_ ≤ 140737488355328 := by show (Y.length + 1) * 40 ≤ _; omega
              have p5 := bl8.size
              have hge := own_ge oY
              clear T6 O6 F9 bl9 bq
              go_wp2_with (first
                | (refine blk_load _ rfl 41 _ rfl bz rfl _ _ kz _ Try.underlying41 rfl 3 qv_info rfl ?_)
                | (at_builtin; refine app_at QK _ rfl _ _ rfl w.heap.size _ Y rfl oY V.heap.size 1 ⟨sh, (sv + sh - t), fa, fn, fc⟩ 41 rfl KY p3 p4 p5 ?_; intro v7 w7 o7 g7 x7; obtain ⟨a7, c7, e7⟩ := (Own.rd o7).form; obtain ⟨n7, hn7⟩ : ∃ n7, n7 = (Y ++ [(⟨sh, (sv + sh - t), fa, fn, fc⟩ : Qv)]).length := ⟨_, rfl⟩; rw [← hn7] at e7; subst e7; clear hn7))
              have T9 := TO.grow (q := ⟨sh, R, ld⟩) oY hYl hY3 o7 g7 rfl HR.out.symm F8
              have O9 := own_grown O8 g7 (kinds_ne O8 oY (by decide))
              have bl10 := bl8.trans ((Only.of_app g7 x7).below hge bl8.size)
              go_roundw
              case rel => exact ⟨i + 1, _, _, _, ya, yn, yc, rfl, rfl, by go_num, by omega, by rw [HS4.out]; exact T9, by rw [HS3.out]; exact O9, bl10⟩
              case measure => simp [intOf]; omega
end Go.Proofs.Ytbhejjpkmnldhaa.tu
