/- The walk through custkeep.TurnsOwn. -/
import Derived.Test.YtbhejjpkmnldhaaTuWr
import Derived.Test.YtbhejjpkmnldhaaTuLives
namespace Go.Proofs.Ytbhejjpkmnldhaa.tu
open Go.ChangeShapes Go.WideShapes Go.ChangeAt Go.RowKit Go.BigFrame
open Go.Proofs.Ytbhejjpkmnldhaa Go.Proofs.Ytbhejjpkmnldhaa.boxes Go.Proofs.Ytbhejjpkmnldhaa.rwr Go.Proofs.Ytbhejjpkmnldhaa.rwat
open Go.Proofs.Ytbhejjpkmnldhaa.rws (Knd Own app_one)

/-- two rows, one behind the other -/
structure S2 (w0 u : World) (x : Value) (nx : Nat) (y : Value) (ny c : Nat) : Prop where
  bel : Below w0.heap.size w0 u
  fst : c = 0 → WQ u w0.heap.size x nx
  snd : c < 2 → WQ u w0.heap.size y ny
theorem S2.next {w0 u : World} {x y z : Value} {nx ny nz c : Nat} (h : IQ w0 u x nx c y ny) : S2 w0 u z nz y ny (c + 1) :=
  ⟨h.bel, fun e => absurd e (by omega), fun e => (h.two (by omega)).1⟩
theorem wq_len {u : World} {B n : Nat} {v : Value} (h : WQ u B v n) : n ≤ 9223372036854775807 := by
  obtain ⟨X, h1, rfl, _⟩ := h
  exact rd_len (Own.rd h1)
set_option maxRecDepth 20000 in
set_option maxHeartbeats 16000000 in
theorem own_walk (v : Value) (L : List Qu) (k m : Int) (w : World) (h : TRd w v L) (hL : L.length * 40 ≤ 140737488351232) (hQ : ∀ q ∈ L, q.l.length * 8 ≤ 140737488351232) : Calls Try.prog 8 #[v, .int .i64 k, .int .i64 m] w fun e w' => e = .returned (.bool true) ∧ Below w.heap.size w w' := by
  have CP := fun u hu => put_all v L k m u hu
  have CR := fun u hu => round_all v L u hu
  have SM := fun (u : World) (x y : Value) (h1 : TRd u x L) (h2 : TRd u y L) => same_any x y L u h1 h2
  have HT : Hid (∀ (i : Nat) q, L[i]? = some q → L.take i ++ [q] = L.take (i + 1)) := fun i q hq => by rw [List.take_add_one, hq]; rfl
  have HTn : Hid (L.take L.length = L) := List.take_length
  have hw := h
  have hlen := h.len
  obtain ⟨X, hr, hXl, hX⟩ := h
  obtain ⟨sa, sc, e_v⟩ := hw.form
  subst e_v
  have HX : Hid (∀ u, Below w.heap.size w u → 0 < L.length → ∃ b off, sa = some ⟨b, off, none⟩ ∧ b < w.heap.size ∧ ∀ j x, X[j]? = some x → ∀ i, i < QK.k → u.cell? ⟨b, off + j * QK.k + i, none⟩ = (QK.enc x)[i]?) := fun u hu hp => by
    obtain ⟨b1, o1, e1, h1, h2⟩ := rd_spot hr (by omega)
    exact ⟨b1, o1, e1, h1, fun j x hj i hi => (hu.cell (p := ⟨b1, o1 + j * QK.k + i, none⟩) h1).trans (h2 j x hj i hi)⟩
  have HG : Hid (∀ i, i < L.length → ∃ x q, X[i]? = some x ∧ L[i]? = some q ∧ x.sh = q.sh ∧ x.sv = q.sv ∧ Rd NK w x.sl q.l ∧ q.l.length * 8 ≤ 140737488355328) := fun i hi => by
    obtain ⟨a, b, c⟩ := hX i _ _ (List.getElem?_eq_getElem (by omega)) (List.getElem?_eq_getElem hi)
    have := hQ _ (List.getElem_mem hi)
    exact ⟨X[i]'(by omega), L[i]'hi, List.getElem?_eq_getElem _, List.getElem?_eq_getElem _, a, b, c, by omega⟩
  clear hr hXl hX hQ
  obtain ⟨n, hn⟩ : ∃ n, n = L.length := ⟨_, rfl⟩
  rw [← hn] at hw hL hlen HX HG CP CR HTn ⊢
  have HLn : Hid (L.length = n) := hn.symm
  clear hn
  have b0 := Below.refl w.heap.size w
  go_enter Try.func8, Try.ntmps8
  go_wp2_with fail
  go_loopw [7, 25] (fun s7 s25 wr => ∃ (i : Nat) (ya : Option Addr) (yn yc : Nat) (Y : List Qv), s7 = .slice ya yn yc ∧ s25 = .int .i64 (i : Int) ∧ i ≤ n ∧ TY wr w.heap.size (.slice ya yn yc) Y (L.take i) ∧ Below w.heap.size w wr) (fun _ s _ => n - (intOf s).toNat)
  case atStart => exact ⟨0, none, 0, 0, [], rfl, rfl, Nat.zero_le _, TY.nil _ _, b0⟩
  case round =>
    clear b0
    obtain ⟨i, ya, yn, yc, Y, rfl, rfl, hi, T, bel⟩ := hrel
    by_cases hlt : i < n
    · have hlt' : (i : Int) < (n : Int) := by omega
      obtain ⟨x, q, hx, hq, q1, q2, rdx, hl8⟩ := HG.out i hlt
      obtain ⟨b1, o1, rfl, hb1, hx1⟩ := HX.out wr bel (by omega)
      have HT1 : Hid (L.take i ++ [q] = L.take (i + 1)) := HT.out i q hq
      have yl : Y.length = i := by rw [T.len, List.length_take, HLn.out]; omega
      have qz : (Y.length + 1) * 40 ≤ 140737488355328 := by rw [yl]; omega
      have Zb := Blk.new wr (QC 0 0 (.slice none 0 0)) 41
      have dA := (Below.refl wr.heap.size wr).alloc (Nat.le_refl _) (.cells (QC 0 0 (.slice none 0 0)) 41)
      obtain ⟨sh, sv, xa, xn, xc⟩ := x
      dsimp only [Qv.sl] at rdx q1 q2
      have HQ1 : Hid (sh = q.sh ∧ sv = q.sv) := ⟨q1, q2⟩
      have nb1 : (Value.slice ya yn yc).ownBlock ≠ some wr.heap.size := fun e => by have := own_lt T.row _ e; omega
      have hbB := bel.size
      clear HX HG HT CP CR SM HTn q1 q2 yl hq
      go_upto_region 5 with (first
        | (refine rd_load QK _ rfl _ rfl b1 o1 X hx1 i _ rfl rfl _ hx (QC sh sv (.slice xa xn xc)) rfl _ Try.underlying41 rfl ?_)
        | (refine blk_store _ rfl 41 _ _ rfl wr.heap.size (QC sh sv (.slice xa xn xc)) rfl rfl _ _ Zb 3 qv_info rfl rfl (qc_one _ _ _ _ _) ?_; intro W3 k3 p3))
      have z := p3.below dA (Nat.le_refl _)
      replace T := T.kept z
      have hbx : wr.heap.size < W3.heap.size := k3.lt
      replace bel := bel.trans (z.mono bel.size)
      clear Zb dA p3 hx1 z hx
      generalize wr.heap.size = bx at *
      have C := cloneN_any (.slice xa xn xc) q.l W3 (rdx.below bel) hl8
      have ck := k3.cell
      clear rdx hl8
      go_wp2_with fail
      refine C.mono ?_
      rintro e w5 ⟨v5, rfl, F5, z⟩
      clear C ck
      replace T := T.kept z
      replace k3 := k3.below z k3.lt
      replace F5 := F5.mono bel.size
      replace bel := bel.trans (z.mono bel.size)
      clear z hbx
      obtain ⟨fa, fc, e5⟩ := (FN.rd F5).form
      obtain ⟨fn, hfn⟩ : ∃ fn, fn = q.l.length := ⟨_, rfl⟩
      rw [← hfn] at e5
      subst e5
      clear hfn
      have u3 := but_setCell w5 bx 2 (.slice fa fn fc)
      have D3 : Blk (w5.setCell ⟨bx, 2, none⟩ (.slice fa fn fc)) bx (QC sh sv (.slice fa fn fc)) 41 := k3.setCell 2 _
      have T3 := T.but u3 nb1 k3 (by decide)
      have F3 := F5.but u3 (blk_ne F5.1 k3 (by decide))
      have bel3 := u3.below bel hbB
      have cD := k3.cell
      have fD := k3.free
      go_upto_region 6 with fail
      generalize w5.setCell ⟨bx, 2, none⟩ (.slice fa fn fc) = U at *
      clear k3 T F5 bel cD fD u3 nb1
      have hU := bel3.size
      go_wp2_with (first
        | (at_builtin; refine app_one QK _ rfl _ _ rfl w.heap.size _ Y rfl (T3.row.alloc _) U.heap.size 1 ⟨sh, sv, fa, fn, fc⟩ _ rfl (Blk.new _ _ _) (by unfold maxLen; omega) (by show (Y.length + 1) * 40 ≤ _; omega) (by simp; omega) ?_; intro v4 W4 O4 c4 g4)
        | refine blk_load _ rfl 41 _ rfl bx rfl _ _ D3 _ Try.underlying41 rfl 3 qv_info rfl ?_)
      have dU := (Below.refl U.heap.size U).alloc (Nat.le_refl _) (.cells (QC sh sv (.slice fa fn fc)) 41)
      have T4 := TY.more (x := ⟨sh, sv, fa, fn, fc⟩) (T3.kept dU) HQ1.out.1 HQ1.out.2 (F3.kept dU) g4 O4
      rw [HT1.out] at T4
      have bel4 := (bel3.trans (dU.mono bel3.size)).trans c4
      obtain ⟨na, nc, e4⟩ := (Own.rd O4).form
      obtain ⟨nn, hnn⟩ : ∃ nn, nn = (Y ++ [(⟨sh, sv, fa, fn, fc⟩ : Qv)]).length := ⟨_, rfl⟩
      rw [← hnn] at e4
      subst e4
      clear hnn O4 g4 c4 T3 F3 dU D3 bel3 hU
      go_wp2_with fail
      go_roundw
      case rel => exact ⟨i + 1, na, nn, nc, _, rfl, by go_num, by omega, T4, bel4⟩
      case measure => simp [intOf]; omega
    · have hlt' : ¬ (i : Int) < (n : Int) := by omega
      have ei : i = n := by omega
      have TB := T.trd
      rw [ei, HTn.out] at TB
      have TV := hw.below bel
      obtain ⟨V0, hV0⟩ : ∃ V, V = wr := ⟨_, rfl⟩
      subst hV0
      have C := CP V0 TV
      clear HX HG HT HTn T ei CP hi
      go_wp2_with fail
      refine C.mono ?_
      rintro e w6 ⟨va, c1, na, rfl, ⟨La, Ta, hla⟩, z6⟩
      have WA : WQ w6 V0.heap.size va na := by rw [← hla]; exact to_wq Ta
      have ltA : ∀ g, va.ownBlock = some g → g < w6.heap.size := by
        obtain ⟨Ya, ya1, _⟩ := Ta
        exact own_lt ya1
      obtain ⟨aa, ac, e_a⟩ := Ta.trd.form
      rw [hla] at e_a
      subst e_a
      clear C Ta hla
      have C := CR w6 (TV.below z6)
      clear CR
      go_wp2_with fail
      refine C.mono ?_
      rintro e w7 ⟨vb, zb, c2, nb, rfl, ⟨Lb, Tb, hlb⟩, z7⟩
      have WB : WQ w7 V0.heap.size vb nb := by rw [← hlb]; exact (to_wq Tb).mono z6.size
      have ap : ∀ g, (Value.slice aa na ac).ownBlock = some g → vb.ownBlock ≠ some g := fun g hg => by
        obtain ⟨Yb, yb1, _⟩ := Tb
        exact own_ne yb1 (ltA g hg)
      obtain ⟨ba, bc, e_b⟩ := Tb.trd.form
      rw [hlb] at e_b
      subst e_b
      replace WA := WA.kept z7
      have b7 := z6.trans (z7.mono z6.size)
      clear C Tb hlb z6 z7 ltA
      have C := SM w7 _ _ (TV.below b7) (TB.below b7)
      go_wp2_with fail
      refine C.mono ?_
      rintro e w8 ⟨rfl, z8⟩
      replace WA := WA.kept z8
      replace WB := WB.kept z8
      replace b7 := b7.trans (z8.mono b7.size)
      have hna := wq_len WA
      have hnb := wq_len WB
      have HIX : Hid (∀ c : Nat, c < 2 → ∃ sx nx cx, (∀ u, (Instr.index 51 (.agg #[.slice aa na ac, .slice ba nb bc]) (.int .i64 (c : Int))).run Try.prog u = .ok (.slice sx nx cx) u) ∧ nx ≤ 9223372036854775807 ∧ ∀ u, S2 V0 u (.slice aa na ac) na (.slice ba nb bc) nb c → IQ V0 u (.slice sx nx cx) nx c (.slice ba nb bc) nb) := fun c hc => by
        rcases (show c = 0 ∨ c = 1 by omega) with rfl | rfl
        · exact ⟨aa, na, ac, fun u => by simp [Instr.index, run_underlying Try.underlying51, asIntOf, go_sem], hna, fun u s => ⟨s.bel, s.fst rfl, fun _ => ⟨s.snd (by decide), ap⟩⟩⟩
        · exact ⟨ba, nb, bc, fun u => by simp [Instr.index, run_underlying Try.underlying51, asIntOf, go_sem], hnb, fun u s => ⟨s.bel, s.snd (by decide), fun e => absurd e (by decide)⟩⟩
      have S0 : S2 V0 w8 (.slice aa na ac) na (.slice ba nb bc) nb 0 := ⟨b7, fun _ => WA, fun _ => WB⟩
      clear C z8 WA WB b7 ap hna hnb
      have hV := bel.size
      go_wp2_with fail
      go_loopw [57] (fun s57 wr => ∃ c : Nat, s57 = .int .i64 (c : Int) ∧ c ≤ 2 ∧ S2 V0 wr (.slice aa na ac) na (.slice ba nb bc) nb c) (fun s _ => 2 - (intOf s).toNat)
      case atStart => exact ⟨0, rfl, Nat.zero_le _, S0⟩
      case round =>
        clear S0
        obtain ⟨c, rfl, hc, st⟩ := hrel
        by_cases hlc : c < 2
        rotate_left
        · have hlc' : ¬ (c : Int) < 2 := by omega
          have b9 := st.bel
          have d9 := bel.trans (b9.mono hV)
          replace TV := TV.below b9
          replace TB := TB.below b9
          clear st HIX b9 hw
          go_wp2_with fail
          refine (lives_any _).mono ?_
          rintro e wx ⟨rfl, lx⟩
          have dx := d9.trans (lx.mono d9.size)
          have C := SM wx _ _ (TV.below lx) (TB.below lx)
          clear d9 TV TB lx SM
          go_wp2_with fail
          refine C.mono ?_
          rintro e wy ⟨rfl, ly⟩
          have dy := dx.trans (ly.mono dx.size)
          clear C dx ly
          go_wp2_with fail
          go_ret
          exact ⟨rfl, dy⟩
        have hlc' : (c : Int) < 2 := by omega
        obtain ⟨sx, nx, cx, hix, hnx, hIQ⟩ := HIX.out c hlc
        have iq := hIQ wr st
        clear st HIX hIQ TV TB SM hw
        go_wp2_with fail
        clear hix
        go_loopw [62] (fun s62 wr => ∃ i : Nat, s62 = .int .i64 (i : Int) ∧ i ≤ nx ∧ IQ V0 wr (.slice sx nx cx) nx c (.slice ba nb bc) nb) (fun s _ => nx - (intOf s).toNat)
        case atStart => exact ⟨0, rfl, Nat.zero_le _, iq⟩
        case round =>
          clear iq
          obtain ⟨i, rfl, hi, iq⟩ := hrel
          by_cases hli : i < nx
          · have hli' : (i : Int) < (nx : Int) := by omega
            obtain ⟨X2, ow, hl2, hp⟩ := iq.one
            obtain ⟨q, hq⟩ : ∃ q, X2[i]? = some q := ⟨X2[i]'(by omega), List.getElem?_eq_getElem _⟩
            obtain ⟨g, cap, e_g, hBg, hgl, _, _, _⟩ := ow.form (by omega)
            simp only [Value.slice.injEq] at e_g
            obtain ⟨rfl, -, rfl⟩ := e_g
            have wq := hp q (List.mem_of_getElem? hq)
            have Zb := Blk.new wr (QC 0 0 (.slice none 0 0)) 41
            have dA := (Below.refl wr.heap.size wr).alloc (Nat.le_refl _) (.cells (QC 0 0 (.slice none 0 0)) 41)
            obtain ⟨qsh, qsv, xa, xn, xc⟩ := q
            dsimp only [Qv.sl] at wq
            clear hl2 hp hBg hgl
            go_upto_region 17 with (first
              | (refine rws.elem_load QK _ rfl _ rfl V0.heap.size g nx cx X2 ow i _ rfl rfl _ hq (QC qsh qsv (.slice xa xn xc)) rfl _ Try.underlying41 rfl ?_)
              | (refine blk_store _ rfl 41 _ _ rfl wr.heap.size (QC qsh qsv (.slice xa xn xc)) rfl rfl _ _ Zb 3 qv_info rfl rfl (qc_one _ _ _ _ _) ?_; intro W3 k3 p3))
            have z := p3.below dA (Nat.le_refl _)
            replace iq := iq.kept z
            replace wq := wq.below z
            clear Zb dA p3 z ow hq
            generalize wr.heap.size = bx at *
            have ws := wr_slice wq
            have ck := k3.cell
            have hxc : xc ≤ 9223372036854775807 := by
              rcases wq with e | ⟨g2, n2, cap2, cur, e, hnc, hB2, kg, hcs, hmx, hint⟩
              · simp only [Value.slice.injEq] at e
                obtain ⟨-, -, rfl⟩ := e
                omega
              · simp only [Value.slice.injEq] at e
                obtain ⟨-, -, rfl⟩ := e
                unfold maxLen at hmx; omega
            clear k3
            go_wp2_with fail
            clear ck ws
            go_loopw [74] (fun s74 wr => ∃ j : Nat, s74 = .int .i64 (j : Int) ∧ j ≤ xc ∧ IQ V0 wr (.slice (some ⟨g, 0, none⟩) nx cx) nx c (.slice ba nb bc) nb ∧ WrI V0.heap.size wr (.slice xa xn xc)) (fun s _ => xc - (intOf s).toNat)
            case atStart => exact ⟨0, rfl, Nat.zero_le _, iq, wq⟩
            case round =>
              clear iq wq
              obtain ⟨j, rfl, hj, iq, wq⟩ := hrel
              by_cases hlj : j < xc
              · have hlj' : (j : Int) < (xc : Int) := by omega
                have wq0 := wq
                rcases wq with e | ⟨g2, n2, cap2, cur, e, hnc, hB2, kg, hcs, hmx, hint⟩
                · simp only [Value.slice.injEq] at e
                  exfalso
                  obtain ⟨-, -, rfl⟩ := e
                  omega
                simp only [Value.slice.injEq] at e
                obtain ⟨rfl, rfl, rfl⟩ := e
                obtain ⟨zz, hz⟩ := hint j (by omega)
                have c5 : wr.cell? ⟨g2, j, none⟩ = some (.int .i64 zz) := (kg.cell j).trans hz
                have f5 := kg.free j
                have kg2 := kg.setCell j (.int .i64 (wrap64 (zz + 1)))
                have bu := but_setCell wr g2 j (.int .i64 (wrap64 (zz + 1)))
                have iq2 := iq.store hB2 kg kg2 (by simp) (ints_set hint j _) bu
                have wq2 := wq0.store kg kg2 (by simp) (ints_set hint j _) bu
                clear iq wq0 kg kg2 hint hz hcs hnc hmx bu
                go_wp2_with fail
                go_roundw
                case rel => exact ⟨j + 1, by go_num, by omega, iq2, wq2⟩
                case measure => simp [intOf]; omega
              · have hlj' : ¬ (j : Int) < (xc : Int) := by omega
                clear wq
                go_wp2_with fail
                go_roundw
                case rel => exact ⟨i + 1, by go_num, by omega, iq⟩
                case measure => simp [intOf]; omega
          · have hli' : ¬ (i : Int) < (nx : Int) := by omega
            clear hi hli
            go_wp2_with fail
            go_loopw [87] (fun s87 wr => ∃ j : Nat, s87 = .int .i64 (j : Int) ∧ j ≤ nx ∧ IQ V0 wr (.slice sx nx cx) nx c (.slice ba nb bc) nb) (fun s _ => nx - (intOf s).toNat)
            case atStart => exact ⟨0, rfl, Nat.zero_le _, iq⟩
            case round =>
              clear iq hli'
              obtain ⟨j, rfl, hj, iq⟩ := hrel
              by_cases hlj : j < nx
              · have hlj' : (j : Int) < (nx : Int) := by omega
                obtain ⟨X2, ow, hl2, hp⟩ := iq.one
                obtain ⟨q, hq⟩ : ∃ q, X2[j]? = some q := ⟨X2[j]'(by omega), List.getElem?_eq_getElem _⟩
                obtain ⟨g, cap, e_g, hBg, hgl, _, _, _⟩ := ow.form (by omega)
                simp only [Value.slice.injEq] at e_g
                obtain ⟨rfl, -, rfl⟩ := e_g
                obtain ⟨iq2, f5, c5⟩ := IQ.share iq ow hl2 hp hq (wrap64 (q.sh + 1))
                clear iq ow hl2 hp hq hgl
                go_wp2_with fail
                go_roundw
                case rel => exact ⟨j + 1, by go_num, by omega, iq2⟩
                case measure => simp [intOf]; omega
              · have hlj' : ¬ (j : Int) < (nx : Int) := by omega
                have st := S2.next (z := .slice aa na ac) (nz := na) iq
                clear iq
                go_wp2_with fail
                go_roundw
                case rel => exact ⟨c + 1, by go_num, by omega, st⟩
                case measure => simp [intOf]; omega
end Go.Proofs.Ytbhejjpkmnldhaa.tu
