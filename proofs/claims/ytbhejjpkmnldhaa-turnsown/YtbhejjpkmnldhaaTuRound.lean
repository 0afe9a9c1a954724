/- What turns.Round answers. -/
import Derived.Test.YtbhejjpkmnldhaaTuOut
namespace Go.Proofs.Ytbhejjpkmnldhaa.tu
open Go.ChangeShapes Go.WideShapes Go.ChangeAt Go.RowKit Go.BigFrame
open Go.Proofs.Ytbhejjpkmnldhaa Go.Proofs.Ytbhejjpkmnldhaa.boxes Go.Proofs.Ytbhejjpkmnldhaa.rwr Go.Proofs.Ytbhejjpkmnldhaa.rwat
open Go.Proofs.Ytbhejjpkmnldhaa.rws (Knd Own)

theorem many_le (q : Qu) : many q ≤ q.l.length := cut_le _ _
theorem snt_all (L : List Qu) : snt (L.take L.length) = snt L := by rw [List.take_length]
theorem take_one {l : List Int} {j : Nat} {y : Int} (h : l[j]? = some y) (S : List Sn) (i : Nat) : (S ++ (l.take j).map (Sn.mk i)) ++ [⟨i, y⟩] = S ++ (l.take (j + 1)).map (Sn.mk i) := by
  rw [List.take_add_one, h, List.map_append, List.append_assoc]
  rfl
theorem round_bad (v : Value) (L : List Qu) (w : World) (h : TRd w v L) (hc : chk L ≠ 0) : Calls Try.prog 9 #[v] w fun e w' => e = .returned (.tuple #[.slice none 0 0, .slice none 0 0, .int .i64 (chk L)]) ∧ Below w.heap.size w w' := by
  have C := check_any v L w h
  obtain ⟨sa, sc, rfl⟩ := h.form
  clear h
  generalize chk L = c at *
  generalize L.length = n at *
  go_enter Try.func9, Try.ntmps9
  go_wp2_with fail
  refine C.mono ?_
  rintro e w1 ⟨rfl, z⟩
  go_wp2_with fail
  go_ret3
  exact ⟨rfl, z⟩
set_option maxRecDepth 20000 in
set_option maxHeartbeats 8000000 in
theorem round_ok (v : Value) (L : List Qu) (w : World) (h : TRd w v L) (hc : chk L = 0) : Calls Try.prog 9 #[v] w fun e w' => ∃ v' z', e = .returned (.tuple #[v', z', .int .i64 0]) ∧ TO w' w.heap.size v' (rnd L) ∧ Own ZK w' w.heap.size z' (snt L) ∧ Below w.heap.size w w' := by
  obtain ⟨hL16, hFine⟩ := chk_zero.1 hc
  have CK := check_any v L w h
  rw [hc] at CK
  have HLn : Hid (∀ i, (snt (L.take i)).length ≤ 3200) := snt_take_len hc
  have HLq : Hid (∀ (q : Qu), q ∈ L → q.l.length ≤ 200) := fun q hq => (hFine q hq).len
  have HS : Hid (∀ i q, L[i]? = some q → snt (L.take (i + 1)) = snt (L.take i) ++ (sq q).map (Sn.mk i)) := fun _ _ h => snt_succ h
  have CS := fun x q u (h1 : x.sh = q.sh) (h2 : x.sv = q.sv) h3 h4 => served_any x q u h1 h2 h3 h4
  have CN := fun v l u h hb => cloneN_any v l u h hb
  obtain ⟨X, hr, hXl, hX⟩ := h
  obtain ⟨sa, sc, rfl⟩ := hr.form
  have CL := fun u (hb : Below w.heap.size w u) => cloneQ_any (.slice sa X.length sc) X u (hr.below hb) (by omega)
  have HX : Hid (∀ u, Below w.heap.size w u → 0 < X.length → ∃ b off, sa = some ⟨b, off, none⟩ ∧ b < w.heap.size ∧ ∀ j x, X[j]? = some x → ∀ i, i < QK.k → u.cell? ⟨b, off + j * QK.k + i, none⟩ = (QK.enc x)[i]?) := fun u hu hp => by
    obtain ⟨b1, o1, e1, h1, h2⟩ := rd_spot hr hp
    exact ⟨b1, o1, e1, h1, fun j x hj i hi => (hu.cell (p := ⟨b1, o1 + j * QK.k + i, none⟩) h1).trans (h2 j x hj i hi)⟩
  have HG : Hid (∀ i, i < X.length → ∃ x q, X[i]? = some x ∧ L[i]? = some q ∧ x.sh = q.sh ∧ x.sv = q.sv ∧ Rd NK w x.sl q.l ∧ Fine q) := fun i hi => by
    obtain ⟨a, b, c⟩ := hX i _ _ (List.getElem?_eq_getElem hi) (List.getElem?_eq_getElem (by omega))
    exact ⟨X[i], L[i]'(by omega), List.getElem?_eq_getElem hi, List.getElem?_eq_getElem _, a, b, c, hFine _ (List.getElem_mem _)⟩
  have HE : Hid (snt (L.take X.length) = snt L) := by rw [hXl]; exact snt_all L
  have HD : Hid (X.length = L.length) := hXl
  have hn16 : X.length ≤ 16 := by omega
  clear hc hFine hr hX hXl hL16
  obtain ⟨n, hN⟩ : ∃ n, n = X.length := ⟨_, rfl⟩
  rw [← hN] at CK CL HX HG HE HD hn16 ⊢
  have HN : Hid (X.length = n) := hN.symm
  clear hN
  have b0 := Below.refl w.heap.size w
  go_enter Try.func9, Try.ntmps9
  go_wp2_with fail
  refine CK.mono ?_
  rintro e w1 ⟨rfl, z⟩
  replace b0 := b0.trans (z.mono b0.size)
  clear z CK
  have C := CL w1 b0
  clear CL
  go_wp2_with fail
  refine C.mono ?_
  rintro e w2 ⟨v2, rfl, O2, z⟩
  clear C
  replace O2 := O2.mono b0.size
  replace b0 := b0.trans (z.mono b0.size)
  clear z
  obtain ⟨va, vc, e_v⟩ := (Own.rd O2).form
  rw [HN.out] at e_v
  subst e_v
  have HB : Hid (∀ g, (Value.slice va n vc).ownBlock = some g → w.heap.size ≤ g ∧ g < w2.heap.size) := fun g hg => ⟨own_ge O2 g hg, own_lt O2 g hg⟩
  have P2 := Part.zero w2 w2.heap.size X L rq
  have hb2 := b0.size
  go_wp2_with fail
  go_loopw [7, 23] (fun s7 s23 wr => ∃ (i : Nat) (Y : List Qv) (za : Option Addr) (zn zc : Nat), s7 = .slice za zn zc ∧ s23 = .int .i64 (i : Int) ∧ i ≤ n ∧ Own QK wr w.heap.size (.slice va n vc) Y ∧ Part wr w2.heap.size X Y L rq i ∧ Own ZK wr w.heap.size (.slice za zn zc) (snt (L.take i)) ∧ Below w.heap.size w wr ∧ w2.heap.size ≤ wr.heap.size) (fun _ s _ => n - (intOf s).toNat)
  case atStart => exact ⟨0, X, none, 0, 0, rfl, rfl, Nat.zero_le _, O2, P2, rws.Own.nil _ _ _, b0, Nat.le_refl _⟩
  case round =>
    clear O2 P2 b0
    obtain ⟨i, Y, za, zn, zc, rfl, rfl, hi, O, P, Zs, bel, h2r⟩ := hrel
    by_cases hlt : i < n
    rotate_left
    · have hlt' : ¬ (i : Int) < (n : Int) := by omega
      have ei : i = n := by omega
      subst ei
      have T := P.done HN.out (by rw [HN.out]; exact HD.out) O hb2
      rw [HE.out] at Zs
      clear HX HG HE HS HLn HLq HB HD HN O P CS CN
      go_wp2_with fail
      go_ret3
      exact ⟨_, _, rfl, T, Zs, bel⟩
    have hlt' : (i : Int) < (n : Int) := by omega
    obtain ⟨x, q, hx, hq, q1, q2, rdx, fq⟩ := HG.out i hlt
    obtain ⟨b1, o1, rfl, hb1, hx1⟩ := HX.out wr bel (by omega)
    obtain ⟨g, cap, e_g, hBg, hgl, hcap, _, _⟩ := O.form (by rw [P.len, HN.out]; omega)
    simp only [Value.slice.injEq] at e_g
    obtain ⟨rfl, -, -⟩ := e_g
    obtain ⟨_, hg2⟩ := HB.out g rfl
    have hS := HS.out i q hq
    have HS1 : Hid (snt (L.take (i + 1)) = snt (L.take i) ++ (sq q).map (Sn.mk i)) := hS
    have hl32 := HLn.out i
    have hl200 := HLq.out q (List.mem_of_getElem? hq)
    have hml := many_le q
    have HSQ : Hid (sq q = q.l.take (many q)) := rfl
    have HR1 : Hid ((rq q).sh = q.sh ∧ (rq q).sv = left q ∧ (rq q).l = q.l.drop (many q)) := ⟨rfl, rfl, rfl⟩
    have Zb := Blk.new wr (QC 0 0 (.slice none 0 0)) 41
    have dA := (Below.refl wr.heap.size wr).alloc (Nat.le_refl _) (.cells (QC 0 0 (.slice none 0 0)) 41)
    have CSx := fun u hu => CS x q u q1 q2 (rdx.below hu) fq
    obtain ⟨sh, sv, xa, xn, xc⟩ := x
    dsimp only [Qv.cells, Qv.sl] at *
    have HQN : Hid (xn = q.l.length) := rd_n rdx
    have HQ1 : Hid (sh = q.sh) := q1
    have hxc := rd_cap rdx
    clear HX HG HE HS HLn HLq CS fq hS q1 q2
    go_upto_region 9 with (first
      | (refine rd_load QK _ rfl _ rfl b1 o1 X hx1 i _ rfl rfl _ hx (QC sh sv (.slice xa xn xc)) rfl _ Try.underlying41 rfl ?_)
      | (refine blk_store _ rfl 41 _ _ rfl wr.heap.size (QC sh sv (.slice xa xn xc)) rfl rfl _ _ Zb 3 qv_info rfl rfl (qc_one _ _ _ _ _) ?_; intro W3 k3 p3))
    have z := p3.below dA (Nat.le_refl _)
    have h3r := z.size
    replace O := O.kept z
    replace P := P.kept z
    replace Zs := Zs.kept z
    replace bel := bel.trans (z.mono bel.size)
    clear Zb dA p3 hx1 z
    generalize wr.heap.size = bx at *
    have C := CSx W3 bel
    clear CSx
    go_wp2_with (refine blk_load _ rfl 41 _ rfl bx rfl _ _ k3 _ Try.underlying41 rfl 3 qv_info rfl ?_)
    refine C.mono ?_
    rintro e w4 ⟨rfl, z⟩
    have h4r := z.size
    replace O := O.kept z
    replace P := P.kept z
    replace Zs := Zs.kept z
    replace k3 := k3.below z k3.lt
    replace bel := bel.trans (z.mono bel.size)
    clear C z
    -- the sizes that go
    have hxn := HQN.out
    have rdh : Rd NK w (sliced xa 0 (many q) xc 1) (q.l.take (many q)) := rd_hi (by rw [← hxn]; exact rdx) _ hml
    have rdl : Rd NK w (sliced xa (many q) xn xc 1) (q.l.drop (many q)) := by rw [hxn]; exact rd_lo (by rw [← hxn]; exact rdx) _ hml
    have sl1 := sl_hi xa xn xc (many q) (by omega)
    have sl2 := sl_lo xa xn xc (many q) (by omega)
    rw [← hxn] at hml hl200
    clear hxn
    rw [HSQ.out] at HS1
    have hml2 : (q.l.take (many q)).length = many q := by rw [List.length_take, ← HQN.out]; omega
    have hdl : (q.l.drop (many q)).length ≤ 200 := by rw [List.length_drop, ← HQN.out]; omega
    generalize hM : many q = M at *
    generalize hR : left q = R at *
    generalize hld : q.l.drop M = ld at *
    generalize hlt2 : q.l.take M = lt at *
    clear hM hR hld hlt2 HQN HSQ
    obtain ⟨ha, hcp, e_h⟩ := rdh.form
    rw [hml2] at e_h
    rw [e_h] at sl1 rdh
    obtain ⟨lo, e_lo⟩ : ∃ lo, lo = sliced xa M xn xc 1 := ⟨_, rfl⟩
    rw [← e_lo] at sl2 rdl
    clear e_lo e_h rdx
    have HH : Hid (∀ u, Below w.heap.size w u → 0 < M → ∃ b off, ha = some ⟨b, off, none⟩ ∧ b < w.heap.size ∧ ∀ (j : Nat) x, lt[j]? = some x → u.cell? ⟨b, off + j, none⟩ = some (.int .i64 x)) := fun u hu hp => by
      obtain ⟨b1, o1, e1, h1, h2⟩ := int_cells rdh (by omega)
      exact ⟨b1, o1, e1, h1, fun j x hj => (hu.cell (p := ⟨b1, o1 + j, none⟩) h1).trans (h2 j x hj)⟩
    have HJ : Hid (∀ j, j < M → ∃ y, lt[j]? = some y) := fun j hj => ⟨lt[j]'(by omega), List.getElem?_eq_getElem _⟩
    have HT : Hid (lt.take M = lt) := by rw [← hml2]; exact List.take_length
    have HTl : Hid (∀ j, (lt.take j).length ≤ 200) := fun j => by rw [List.length_take]; omega
    obtain ⟨S0, hS0⟩ : ∃ S0, S0 = snt (L.take i) := ⟨_, rfl⟩
    rw [← hS0] at Zs HS1 hl32
    clear hS0 rdh hml2
    have ck := k3.cell
    go_wp2_with fail
    clear ck
    go_loopw [7, 38] (fun s7 s38 wr => ∃ (j : Nat) (ya : Option Addr) (yn yc : Nat), s7 = .slice ya yn yc ∧ s38 = .int .i64 (j : Int) ∧ j ≤ M ∧ Own ZK wr w.heap.size (.slice ya yn yc) (S0 ++ (lt.take j).map (Sn.mk i)) ∧ Only (.slice za zn zc) (.slice ya yn yc) w4 wr ∧ Below w.heap.size w wr) (fun _ s _ => M - (intOf s).toNat)
    case atStart => exact ⟨0, za, zn, zc, rfl, rfl, Nat.zero_le _, by simpa using Zs, Only.refl _ _, bel⟩
    case round =>
      obtain ⟨j, ya, yn, yc, rfl, rfl, hj, O6, ow, bl6⟩ := hrel
      by_cases hjl : j < M
      · have hjl' : (j : Int) < (M : Int) := by omega
        obtain ⟨y, hy⟩ := HJ.out j hjl
        obtain ⟨b5, o5, rfl, hb5, hc5⟩ := HH.out wr bl6 (by omega)
        have c5 := hc5 j y hy
        have ht := HTl.out j
        have q3 : (S0 ++ (lt.take j).map (Sn.mk i)).length + 1 ≤ 1000000000000 := by rw [List.length_append, List.length_map]; omega
        have q4 : ((S0 ++ (lt.take j).map (Sn.mk i)).length + 1) * ZK.by_ ≤ 140737488355328 := by rw [List.length_append, List.length_map]; show (_ + _ + 1) * 16 ≤ _; omega
        have q5 : w.heap.size ≤ (wr.alloc (.cells (Sn.cells ⟨i, y⟩) 34)).heap.size := by have := bl6.size; simp; omega
        have O7 := O6.alloc (.cells (Sn.cells ⟨i, y⟩) 34)
        have Y7 := Blk.new wr (Sn.cells ⟨i, y⟩) 34
        have bW := (Below.refl wr.heap.size wr).alloc (Nat.le_refl _) (.cells (Sn.cells ⟨i, y⟩) 34)
        have hge := own_ge O6
        have HN2 : Hid ((S0 ++ (lt.take j).map (Sn.mk i)) ++ [⟨i, y⟩] = S0 ++ (lt.take (j + 1)).map (Sn.mk i)) := take_one hy S0 i
        clear HH hc5 hy ht Zs O6 HS1 HT HTl HJ
        generalize S0 ++ (lt.take j).map (Sn.mk i) = SS at *
        go_wp2_with (at_builtin; refine app_at ZK _ rfl _ _ rfl w.heap.size _ SS rfl O7 wr.heap.size 1 ⟨i, y⟩ 34 rfl Y7 q3 q4 q5 ?_; intro v7 w7 o7 g7 x7; obtain ⟨a7, c7, e7⟩ := (Own.rd o7).form; obtain ⟨n7, hn7⟩ : ∃ n7, n7 = (SS ++ [(⟨i, y⟩ : Sn)]).length := ⟨_, rfl⟩; rw [← hn7] at e7; subst e7; clear hn7)
        have oo : Only (.slice ya yn yc) (.slice a7 n7 c7) wr w7 := (Only.of_below bW).trans (Only.of_app g7 x7)
        have ow2 := ow.trans oo
        have bl7 := bl6.trans (oo.below hge bl6.size)
        clear c5
        go_roundw
        case rel => exact ⟨j + 1, a7, n7, c7, rfl, by go_num, by omega, by rw [← HN2.out]; exact o7, ow2, bl7⟩
        case measure => simp [intOf]; omega
      · have hjl' : ¬ (j : Int) < (M : Int) := by omega
        have ej : j = M := by omega
        subst ej
        rw [HT.out, ← HS1.out] at O6
        replace O := own_grown O ow.1 (kinds_ne O Zs (by decide))
        replace P := P.only Zs (by decide) ow
        replace k3 := ow.blk k3 (blk_ne Zs k3 (by decide))
        have h6r := ow.1.size
        have CN2 := CN lo ld wr (rdl.below bl6) (by omega)
        clear CN HH HJ HT HTl HS1 Zs ow bel rdl
        have ck := k3.cell
        have hyi : Y[i]? = some ⟨sh, sv, xa, xn, xc⟩ := by rw [P.old i (Nat.le_refl _)]; exact hx
        go_wp2_with fail
        refine CN2.mono ?_
        rintro e w8 ⟨v8, rfl, F8, z⟩
        clear CN2 ck k3
        have hPu : w2.heap.size ≤ wr.heap.size := by omega
        replace O := O.kept z
        replace O6 := O6.kept z
        replace bl6 := bl6.trans (z.mono bl6.size)
        obtain ⟨fa, fc, e8⟩ := (FN.rd F8).form
        obtain ⟨fn, hfn⟩ : ∃ fn, fn = ld.length := ⟨_, rfl⟩
        rw [← hfn] at e8
        subst e8
        clear hfn
        have P9 : Part w8 w2.heap.size X (Y.set i ⟨sh, R, fa, fn, fc⟩) L rq (i + 1) := P.next hPu hq (by rw [HR1.out.1]; exact HQ1.out) (by rw [HR1.out.2.1]) (by rw [HR1.out.2.2]; exact F8) (Nat.le_refl _) z
        have hyl : i < Y.length := (List.getElem?_eq_some_iff.1 hyi).1
        obtain ⟨O9, fz9, _⟩ := Own.put O i 1 ⟨sh, sv, xa, xn, xc⟩ ⟨sh, R, xa, xn, xc⟩ (.int .i64 R) hyi (by decide) rfl
        have hy9 : (Y.set i ⟨sh, R, xa, xn, xc⟩)[i]? = some ⟨sh, R, xa, xn, xc⟩ := List.getElem?_set_self hyl
        obtain ⟨O10, fz10, _⟩ := Own.put O9 i 2 ⟨sh, R, xa, xn, xc⟩ ⟨sh, R, fa, fn, fc⟩ (.slice fa fn fc) hy9 (by decide) rfl
        rw [List.set_set] at O10
        have fz9 : w8.frozen? ⟨g, i * 3 + 1, none⟩ = false := fz9
        have cc9 : w8.cell? ⟨g, i * 3 + 1, none⟩ = some (.int .i64 sv) := O.cell hyi (i := 1) (by decide)
        have fz10 : (w8.setCell ⟨g, i * 3 + 1, none⟩ (.int .i64 R)).frozen? ⟨g, i * 3 + 2, none⟩ = false := fz10
        have cc10 : (w8.setCell ⟨g, i * 3 + 1, none⟩ (.int .i64 R)).cell? ⟨g, i * 3 + 2, none⟩ = some (.slice xa xn xc) := O9.cell hy9 (i := 2) (by decide)
        have u1 := but_setCell w8 g (i * 3 + 1) (.int .i64 R)
        have u2 := but_setCell (w8.setCell ⟨g, i * 3 + 1, none⟩ (.int .i64 R)) g (i * 3 + 2) (.slice fa fn fc)
        have hz8 := kinds_ne' O6 O (by decide) (g := g) rfl
        have Z10 := (O6.but u1 hz8).but u2 hz8
        have P10 := (P9.but u1 hg2).but u2 hg2
        have b10 := u2.below (u1.below bl6 hBg) hBg
        have O10 : Own QK ((w8.setCell ⟨g, i * 3 + 1, none⟩ (.int .i64 R)).setCell ⟨g, i * 3 + 2, none⟩ (.slice fa fn fc)) w.heap.size (.slice (some ⟨g, 0, none⟩) n vc) (Y.set i ⟨sh, R, fa, fn, fc⟩) := O10
        have s10 : w2.heap.size ≤ ((w8.setCell ⟨g, i * 3 + 1, none⟩ (.int .i64 R)).setCell ⟨g, i * 3 + 2, none⟩ (.slice fa fn fc)).heap.size := by rw [u2.size, u1.size]; have := z.size; omega
        clear P P9 O O6 O9 u1 u2 hz8 bl6 z hy9 hyi hx hq F8
        go_wp2_with fail
        go_roundw
        case rel => exact ⟨i + 1, _, ya, yn, yc, rfl, by go_num, by omega, O10, P10, Z10, b10, s10⟩
        case measure => simp [intOf]; omega
end Go.Proofs.Ytbhejjpkmnldhaa.tu
