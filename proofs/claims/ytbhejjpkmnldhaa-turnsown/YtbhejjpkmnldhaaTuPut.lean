/- What turns.Put answers. -/
import Derived.Test.YtbhejjpkmnldhaaTuOut
namespace Go.Proofs.Ytbhejjpkmnldhaa.tu
open Go.ChangeShapes Go.WideShapes Go.ChangeAt Go.RowKit Go.BigFrame
open Go.Proofs.Ytbhejjpkmnldhaa Go.Proofs.Ytbhejjpkmnldhaa.boxes Go.Proofs.Ytbhejjpkmnldhaa.rwr Go.Proofs.Ytbhejjpkmnldhaa.rwat
open Go.Proofs.Ytbhejjpkmnldhaa.rws (Knd Own)

def inr (L : List Qu) (k : Int) : Bool := decide (0 ≤ k) && decide (k < L.length)
/-- Put's error -/
def perr (L : List Qu) (k m : Int) : Int := if chk L ≠ 0 then chk L else if inr L k = false then 7 else if wsz m then 1 else if (L[k.toNat]?.map fun q => decide (200 ≤ q.l.length)) = some true then 6 else 0
theorem put_chk (v : Value) (L : List Qu) (k m : Int) (w : World) (h : TRd w v L) (hc : chk L ≠ 0) : Calls Try.prog 15 #[v, .int .i64 k, .int .i64 m] w fun e w' => e = .returned (.tuple #[.slice none 0 0, .int .i64 (chk L)]) ∧ Below w.heap.size w w' := by
  have C := check_any v L w h
  obtain ⟨sa, sc, rfl⟩ := h.form
  clear h
  generalize chk L = c at *
  generalize L.length = n at *
  go_enter Try.func15, Try.ntmps15
  go_wp2_with fail
  refine C.mono ?_
  rintro e w1 ⟨rfl, z⟩
  go_wp2_with fail
  go_ret2
  exact ⟨rfl, z⟩
theorem put_none (v : Value) (L : List Qu) (k m : Int) (w : World) (h : TRd w v L) (hc : chk L = 0) (hk : k < 0 ∨ (L.length : Int) ≤ k) : Calls Try.prog 15 #[v, .int .i64 k, .int .i64 m] w fun e w' => e = .returned (.tuple #[.slice none 0 0, .int .i64 7]) ∧ Below w.heap.size w w' := by
  have C := check_any v L w h
  rw [hc] at C
  obtain ⟨sa, sc, rfl⟩ := h.form
  clear h hc
  generalize L.length = n at *
  by_cases h0 : k < 0
  · clear hk
    go_enter Try.func15, Try.ntmps15
    go_wp2_with fail
    refine C.mono ?_
    rintro e w1 ⟨rfl, z⟩
    clear C
    go_wp2_with fail
    go_ret2
    exact ⟨rfl, z⟩
  · have h1 : (n : Int) ≤ k := by omega
    clear hk
    go_enter Try.func15, Try.ntmps15
    go_wp2_with fail
    refine C.mono ?_
    rintro e w1 ⟨rfl, z⟩
    clear C
    go_wp2_with fail
    go_ret2
    exact ⟨rfl, z⟩
theorem put_arg (v : Value) (L : List Qu) (k : Nat) (m : Int) (w : World) (h : TRd w v L) (hc : chk L = 0) (hk : k < L.length) (hm : wsz m = true) : Calls Try.prog 15 #[v, .int .i64 (k : Int), .int .i64 m] w fun e w' => e = .returned (.tuple #[.slice none 0 0, .int .i64 1]) ∧ Below w.heap.size w w' := by
  have C := check_any v L w h
  rw [hc] at C
  have CW := fun u => wsz_any m u
  rw [hm] at CW
  obtain ⟨sa, sc, rfl⟩ := h.form
  clear h hc hm
  generalize L.length = n at *
  have h0 : ¬ (k : Int) < 0 := by omega
  have h1 : ¬ (n : Int) ≤ (k : Int) := by omega
  go_enter Try.func15, Try.ntmps15
  go_wp2_with fail
  refine C.mono ?_
  rintro e w1 ⟨rfl, z⟩
  clear C
  go_wp2_with fail
  refine (CW _).mono ?_
  rintro e w1 ⟨rfl, rfl⟩
  clear CW
  go_wp2_with fail
  go_ret2
  exact ⟨rfl, z⟩
set_option maxRecDepth 20000 in
theorem put_full (v : Value) (L : List Qu) (k : Nat) (q : Qu) (m : Int) (w : World) (h : TRd w v L) (hc : chk L = 0) (hq : L[k]? = some q) (hm : wsz m = false) (hf : q.l.length = 200) : Calls Try.prog 15 #[v, .int .i64 (k : Int), .int .i64 m] w fun e w' => e = .returned (.tuple #[.slice none 0 0, .int .i64 6]) ∧ Below w.heap.size w w' := by
  have hk : k < L.length := (List.getElem?_eq_some_iff.1 hq).1
  obtain ⟨hL16, hFine⟩ := chk_zero.1 hc
  have CK := check_any v L w h
  rw [hc] at CK
  have CM := fun u => wsz_any m u
  rw [hm] at CM
  have CN := fun v l u h hb => cloneN_any v l u h hb
  obtain ⟨X, hr, hXl, hX⟩ := h
  obtain ⟨sa, sc, rfl⟩ := hr.form
  have CL := fun u (hb : Below w.heap.size w u) => cloneQ_any (.slice sa X.length sc) X u (hr.below hb) (by omega)
  have HX : Hid (∀ u, Below w.heap.size w u → 0 < X.length → ∃ b off, sa = some ⟨b, off, none⟩ ∧ b < w.heap.size ∧ ∀ j x, X[j]? = some x → ∀ i, i < QK.k → u.cell? ⟨b, off + j * QK.k + i, none⟩ = (QK.enc x)[i]?) := fun u hu hp => by
    obtain ⟨b1, o1, e1, h1, h2⟩ := rd_spot hr hp
    exact ⟨b1, o1, e1, h1, fun j x hj i hi => (hu.cell (p := ⟨b1, o1 + j * QK.k + i, none⟩) h1).trans (h2 j x hj i hi)⟩
  have HG : Hid (∀ i, i < X.length → ∃ x q, X[i]? = some x ∧ L[i]? = some q ∧ x.sh = q.sh ∧ x.sv = q.sv ∧ Rd NK w x.sl q.l ∧ q.l.length ≤ 200) := fun i hi => by
    obtain ⟨a, b, c⟩ := hX i _ _ (List.getElem?_eq_getElem hi) (List.getElem?_eq_getElem (by omega))
    exact ⟨X[i], L[i]'(by omega), List.getElem?_eq_getElem hi, List.getElem?_eq_getElem _, a, b, c, (hFine _ (List.getElem_mem _)).len⟩
  have HD : Hid (X.length = L.length) := hXl
  have hn16 : X.length ≤ 16 := by omega
  have hk' : k < X.length := by omega
  clear hc hFine hr hX hXl hL16 hm hk
  obtain ⟨n, hN⟩ : ∃ n, n = X.length := ⟨_, rfl⟩
  rw [← hN] at CK CL HX HG HD hn16 hk'
  rw [← hN]
  have HN : Hid (X.length = n) := hN.symm
  clear hN
  have b0 := Below.refl w.heap.size w
  have h0 : ¬ (k : Int) < 0 := by omega
  have h1 : ¬ (n : Int) ≤ (k : Int) := by omega
  obtain ⟨x, q', hx, hq', q1, q2, rdx, hl2⟩ := HG.out k hk'
  rw [hq] at hq'
  obtain rfl := Option.some.inj hq'
  go_enter Try.func15, Try.ntmps15
  go_wp2_with fail
  refine CK.mono ?_
  rintro e w1 ⟨rfl, z⟩
  replace b0 := b0.trans (z.mono b0.size)
  clear z CK
  go_wp2_with fail
  refine (CM _).mono ?_
  rintro e w1 ⟨rfl, rfl⟩
  clear hq' q1 q2 hl2
  obtain ⟨b1, o1, rfl, hb1, hx1⟩ := HX.out w1 b0 (by omega)
  have cq : w1.cell? ⟨b1, o1 + k * 3 + 2, none⟩ = some x.sl := by
    have := hx1 k x hx 2 (by decide)
    simpa [QK] using this
  obtain ⟨sh, sv, xa, xn, xc⟩ := x
  dsimp only [Qv.cells, Qv.sl] at *
  have hxn : xn = q.l.length := rd_n rdx
  clear hx1
  rw [hf] at hxn
  subst hxn
  clear hf rdx HX hx hq
  go_wp2_with fail
  go_ret2
  exact ⟨rfl, b0⟩
theorem put_done {u u' u2 : World} {B B0 n k gq : Nat} {X Y : List Qv} {L : List Qu} {y zz : Qv} {q : Qu} {m : Int} {v : Value} (P : Part u B X Y L (fun q => q) n) (hX : X.length = n) (hl : X.length = L.length) (hk : Y[k]? = some y) (hq : L[k]? = some q) (hg : u.grownBy u' y.sl.ownBlock) (z1 : zz.sh = q.sh) (z2 : zz.sv = q.sv) (z3 : FN u' B zz.sl (q.l ++ [m])) (bt : But gq u' u2) (hgq : gq < B) (o : Own QK u2 B0 v (Y.set k zz)) (hb : B0 ≤ B) : TO u2 B0 v (L.set k (putq q m)) := by
  refine ⟨Y.set k zz, o, by rw [List.length_set, List.length_set, P.len, hl], fun j x p hx hp => ?_⟩
  by_cases e : j = k
  · subst e
    rw [List.getElem?_set_self (List.getElem?_eq_some_iff.1 hk).1] at hx
    rw [List.getElem?_set_self (List.getElem?_eq_some_iff.1 hq).1] at hp
    obtain rfl := Option.some.inj hx
    obtain rfl := Option.some.inj hp
    exact ⟨z1, z2, (z3.but bt (own_ne z3.1 hgq)).mono hb⟩
  · rw [List.getElem?_set_ne (fun e2 => e e2.symm)] at hx hp
    have hj := (List.getElem?_eq_some_iff.1 hx).1
    have hkl := (List.getElem?_eq_some_iff.1 hk).1
    have hpl := P.len
    obtain ⟨a, b, c⟩ := P.new j x p (by omega) hx hp
    have hne : x.sl.ownBlock = none ∨ x.sl.ownBlock ≠ y.sl.ownBlock := by
      cases e1 : x.sl.ownBlock with
      | none => exact Or.inl rfl
      | some g =>
        refine Or.inr fun e2 => ?_
        by_cases hlt : j < k
        · exact P.apart j k x y hlt (by omega) hx hk g e1 e2.symm
        · exact P.apart k j y x (by omega) (by omega) hk hx g e2.symm e1
    have c2 := c.grown hg hne
    exact ⟨a, b, (c2.but bt (own_ne c2.1 hgq)).mono hb⟩
set_option maxRecDepth 20000 in
set_option maxHeartbeats 8000000 in
theorem put_ok (v : Value) (L : List Qu) (k : Nat) (q : Qu) (m : Int) (w : World) (h : TRd w v L) (hc : chk L = 0) (hq : L[k]? = some q) (hm : wsz m = false) (hf : q.l.length < 200) : Calls Try.prog 15 #[v, .int .i64 (k : Int), .int .i64 m] w fun e w' => ∃ v', e = .returned (.tuple #[v', .int .i64 0]) ∧ TO w' w.heap.size v' (L.set k (putq q m)) ∧ Below w.heap.size w w' := by
  have hk : k < L.length := (List.getElem?_eq_some_iff.1 hq).1
  obtain ⟨hL16, hFine⟩ := chk_zero.1 hc
  have CK := check_any v L w h
  rw [hc] at CK
  have CM := fun u => wsz_any m u
  rw [hm] at CM
  have CN := fun v l u h hb => cloneN_any v l u h hb
  obtain ⟨X, hr, hXl, hX⟩ := h
  obtain ⟨sa, sc, rfl⟩ := hr.form
  have CL := fun u (hb : Below w.heap.size w u) => cloneQ_any (.slice sa X.length sc) X u (hr.below hb) (by omega)
  have HX : Hid (∀ u, Below w.heap.size w u → 0 < X.length → ∃ b off, sa = some ⟨b, off, none⟩ ∧ b < w.heap.size ∧ ∀ j x, X[j]? = some x → ∀ i, i < QK.k → u.cell? ⟨b, off + j * QK.k + i, none⟩ = (QK.enc x)[i]?) := fun u hu hp => by
    obtain ⟨b1, o1, e1, h1, h2⟩ := rd_spot hr hp
    exact ⟨b1, o1, e1, h1, fun j x hj i hi => (hu.cell (p := ⟨b1, o1 + j * QK.k + i, none⟩) h1).trans (h2 j x hj i hi)⟩
  have HG : Hid (∀ i, i < X.length → ∃ x q, X[i]? = some x ∧ L[i]? = some q ∧ x.sh = q.sh ∧ x.sv = q.sv ∧ Rd NK w x.sl q.l ∧ q.l.length ≤ 200) := fun i hi => by
    obtain ⟨a, b, c⟩ := hX i _ _ (List.getElem?_eq_getElem hi) (List.getElem?_eq_getElem (by omega))
    exact ⟨X[i], L[i]'(by omega), List.getElem?_eq_getElem hi, List.getElem?_eq_getElem _, a, b, c, (hFine _ (List.getElem_mem _)).len⟩
  have HD : Hid (X.length = L.length) := hXl
  have hn16 : X.length ≤ 16 := by omega
  have hk' : k < X.length := by omega
  clear hc hFine hr hX hXl hL16 hm hk
  obtain ⟨n, hN⟩ : ∃ n, n = X.length := ⟨_, rfl⟩
  rw [← hN] at CK CL HX HG HD hn16 hk'
  rw [← hN]
  have HN : Hid (X.length = n) := hN.symm
  clear hN
  have b0 := Below.refl w.heap.size w
  have h0 : ¬ (k : Int) < 0 := by omega
  have h1 : ¬ (n : Int) ≤ (k : Int) := by omega
  obtain ⟨x, q', hx, hq', q1, q2, rdx, hl2⟩ := HG.out k hk'
  rw [hq] at hq'
  obtain rfl := Option.some.inj hq'
  go_enter Try.func15, Try.ntmps15
  go_wp2_with fail
  refine CK.mono ?_
  rintro e w1 ⟨rfl, z⟩
  replace b0 := b0.trans (z.mono b0.size)
  clear z CK
  go_wp2_with fail
  refine (CM _).mono ?_
  rintro e w1 ⟨rfl, rfl⟩
  clear hq' q1 q2 hl2
  obtain ⟨b1, o1, rfl, hb1, hx1⟩ := HX.out w1 b0 (by omega)
  have cq : w1.cell? ⟨b1, o1 + k * 3 + 2, none⟩ = some x.sl := by
    have := hx1 k x hx 2 (by decide)
    simpa [QK] using this
  obtain ⟨sh, sv, xa, xn, xc⟩ := x
  dsimp only [Qv.cells, Qv.sl] at *
  have hxn : xn = q.l.length := rd_n rdx
  clear hx1
  have hf2 : ¬ (xn : Int) = 200 := by omega
  have HF : Hid (q.l.length < 200) := hf
  have HQK : Hid (L[k]? = some q) := hq
  clear hf rdx HX hx hxn hq
  go_upto_region 10 with fail
  have C := CL w1 b0
  clear CL cq
  go_wp2_with fail
  refine C.mono ?_
  rintro e w2 ⟨v2, rfl, O2, z⟩
  clear C
  replace O2 := O2.mono b0.size
  replace b0 := b0.trans (z.mono b0.size)
  clear z
  obtain ⟨va, vc, e_v⟩ := (Own.rd O2).form
  rw [HN.out] at e_v
  subst e_v
  have HB : Hid (∀ g, (Value.slice va n vc).ownBlock = some g → w.heap.size ≤ g ∧ g < w2.heap.size) := fun g hg => ⟨own_ge O2 g hg, own_lt O2 g hg⟩
  have P2 := Part.zero w2 w2.heap.size X L (fun q => q)
  have hb2 := b0.size
  go_wp2_with fail
  go_loopw [38] (fun s38 wr => ∃ (i : Nat) (Y : List Qv), s38 = .int .i64 (i : Int) ∧ i ≤ n ∧ Own QK wr w.heap.size (.slice va n vc) Y ∧ Part wr w2.heap.size X Y L (fun q => q) i ∧ Below w.heap.size w wr ∧ w2.heap.size ≤ wr.heap.size) (fun s _ => n - (intOf s).toNat)
  case atStart => exact ⟨0, X, rfl, Nat.zero_le _, O2, P2, b0, Nat.le_refl _⟩
  case round =>
    clear O2 P2 b0
    obtain ⟨i, Y, rfl, hi, O, P, bel, h2r⟩ := hrel
    obtain ⟨g, cap, e_g, hBg, hgl, hcap, _, _⟩ := O.form (by rw [P.len, HN.out]; omega)
    simp only [Value.slice.injEq] at e_g
    obtain ⟨rfl, -, -⟩ := e_g
    obtain ⟨_, hg2⟩ := HB.out g rfl
    by_cases hlt : i < n
    · have hlt' : (i : Int) < (n : Int) := by omega
      obtain ⟨x, q', hx, hq', q1, q2, rdx, hl2⟩ := HG.out i hlt
      have Zb := Blk.new wr (QC 0 0 (.slice none 0 0)) 41
      have dA := (Below.refl wr.heap.size wr).alloc (Nat.le_refl _) (.cells (QC 0 0 (.slice none 0 0)) 41)
      obtain ⟨sh', sv', xa', xn', xc'⟩ := x
      dsimp only [Qv.cells, Qv.sl] at rdx q1 q2
      have HQ1 : Hid (sh' = q'.sh ∧ sv' = q'.sv) := ⟨q1, q2⟩
      have hyi : Y[i]? = some ⟨sh', sv', xa', xn', xc'⟩ := by rw [P.old i (Nat.le_refl _)]; exact hx
      clear HG HF HQK hx CM q1 q2
      go_upto_region 14 with (first
        | (refine rws.elem_load QK _ rfl _ rfl w.heap.size g n vc Y O i _ rfl rfl _ hyi (QC sh' sv' (.slice xa' xn' xc')) rfl _ Try.underlying41 rfl ?_)
        | (refine blk_store _ rfl 41 _ _ rfl wr.heap.size (QC sh' sv' (.slice xa' xn' xc')) rfl rfl _ _ Zb 3 qv_info rfl rfl (qc_one _ _ _ _ _) ?_; intro W3 k3 p3))
      have z := p3.below dA (Nat.le_refl _)
      have h3r := z.size
      replace O := O.kept z
      replace P := P.kept z
      replace bel := bel.trans (z.mono bel.size)
      clear Zb dA p3 z
      generalize wr.heap.size = bx at *
      have C := CN (.slice xa' xn' xc') q'.l W3 (rdx.below bel) (by omega)
      have ck := k3.cell
      clear CN
      go_wp2_with fail
      refine C.mono ?_
      rintro e w8 ⟨v8, rfl, F8, z⟩
      clear C ck k3
      have hPu : w2.heap.size ≤ W3.heap.size := by omega
      replace O := O.kept z
      replace bel := bel.trans (z.mono bel.size)
      obtain ⟨fa, fc, e8⟩ := (FN.rd F8).form
      obtain ⟨fn, hfn⟩ : ∃ fn, fn = q'.l.length := ⟨_, rfl⟩
      rw [← hfn] at e8
      subst e8
      clear hfn
      have P9 : Part w8 w2.heap.size X (Y.set i ⟨sh', sv', fa, fn, fc⟩) L (fun q => q) (i + 1) := P.next hPu hq' HQ1.out.1 HQ1.out.2 F8 (Nat.le_refl _) z
      obtain ⟨O10, fz10, _⟩ := Own.put O i 2 ⟨sh', sv', xa', xn', xc'⟩ ⟨sh', sv', fa, fn, fc⟩ (.slice fa fn fc) hyi (by decide) rfl
      have fz10 : w8.frozen? ⟨g, i * 3 + 2, none⟩ = false := fz10
      have cc10 : w8.cell? ⟨g, i * 3 + 2, none⟩ = some (.slice xa' xn' xc') := O.cell hyi (i := 2) (by decide)
      have u1 := but_setCell w8 g (i * 3 + 2) (.slice fa fn fc)
      have P10 := P9.but u1 hg2
      have b10 := u1.below bel hBg
      have O10 : Own QK (w8.setCell ⟨g, i * 3 + 2, none⟩ (.slice fa fn fc)) w.heap.size (.slice (some ⟨g, 0, none⟩) n vc) (Y.set i ⟨sh', sv', fa, fn, fc⟩) := O10
      have s10 : w2.heap.size ≤ (w8.setCell ⟨g, i * 3 + 2, none⟩ (.slice fa fn fc)).heap.size := by rw [u1.size]; have := z.size; omega
      clear P P9 O u1 bel z hyi hq' F8 rdx
      go_wp2_with fail
      go_roundw
      case rel => exact ⟨i + 1, _, by go_num, by omega, O10, P10, b10, s10⟩
      case measure => simp [intOf]; omega
    · have hlt' : ¬ (i : Int) < (n : Int) := by omega
      have ei : i = n := by omega
      subst ei
      have hq := HQK.out
      have hql := HF.out
      obtain ⟨y, hy⟩ : ∃ y, Y[k]? = some y := ⟨Y[k]'(by rw [P.len, HN.out]; omega), List.getElem?_eq_getElem _⟩
      obtain ⟨p1, p2, F⟩ := P.new k y q (by omega) hy hq
      obtain ⟨ysh, ysv, ya, yn, yc⟩ := y
      dsimp only [Qv.sl] at p1 p2 F
      have HP : Hid (ysh = q.sh ∧ ysv = q.sv) := ⟨p1, p2⟩
      have cy : wr.cell? ⟨g, k * 3 + 2, none⟩ = some (.slice ya yn yc) := O.cell hy (i := 2) (by decide)
      have bW := (Below.refl wr.heap.size wr).alloc (Nat.le_refl _) (.cells #[.int .i64 m] 3)
      have F7 := F.kept bW
      have R7 := one_rd wr m
      have q3 : q.l.length + 1 ≤ maxLen := by unfold maxLen; omega
      have q4 : (q.l.length + 1) * 8 ≤ 140737488355328 := by omega
      have q5 : w2.heap.size ≤ (wr.alloc (.cells #[.int .i64 m] 3)).heap.size := by simp; omega
      have O7 := O.kept bW
      have P7 := P.kept bW
      have bel7 := bel.trans (bW.mono bel.size)
      have nn := kinds_ne O7 F7.1 (by decide)
      clear HG HF HQK CN CM p1 p2 O P bel bW F
      generalize hl : q.l = ql at *
      have HL : Hid (q.l = ql) := hl
      clear hl
      go_wp2_with (
        at_builtin
        refine app_n _ rfl _ _ rfl w2.heap.size _ ql rfl F7 _ [m] rfl R7 q3 q4 q5 ?_
        intro v9 w9 F9 bl9 g9 x9
        obtain ⟨fa, fc, e9⟩ := (FN.rd F9).form
        obtain ⟨fn, hfn⟩ : ∃ fn, fn = (ql ++ [m]).length := ⟨_, rfl⟩
        rw [← hfn] at e9
        subst e9
        clear hfn
        have O9 := own_grown O7 g9 nn
        have b9 := bel7.trans (bl9.mono hb2)
        obtain ⟨O10, fz10, _⟩ := Own.put O9 k 2 ⟨ysh, ysv, ya, yn, yc⟩ ⟨ysh, ysv, fa, fn, fc⟩ (.slice fa fn fc) hy (by decide) rfl
        have fz10 : w9.frozen? ⟨g, k * 3 + 2, none⟩ = false := fz10
        have cc10 : w9.cell? ⟨g, k * 3 + 2, none⟩ = some (.slice ya yn yc) := O9.cell hy (i := 2) (by decide)
        have u1 := but_setCell w9 g (k * 3 + 2) (.slice fa fn fc)
        have b10 := u1.below b9 hBg
        have T := put_done P7 HN.out (by rw [HN.out]; exact HD.out) hy hq g9 HP.out.1 HP.out.2 (by rw [HL.out]; exact F9) u1 hg2 O10 hb2
        clear P7 O7 O9 F9 F7 R7 nn O10 bl9 g9 x9 hy cy hq u1)
      go_ret2
      exact ⟨_, rfl, T, b10⟩
end Go.Proofs.Ytbhejjpkmnldhaa.tu
