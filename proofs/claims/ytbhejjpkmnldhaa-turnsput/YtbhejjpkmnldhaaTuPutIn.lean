/- The walk through custlaw.TurnsPut. -/
import Derived.Test.YtbhejjpkmnldhaaTuPut
import Derived.Test.YtbhejjpkmnldhaaTuRef
import Derived.Test.YtbhejjpkmnldhaaTuSame
namespace Go.Proofs.Ytbhejjpkmnldhaa.tu
open Go.ChangeShapes Go.WideShapes Go.ChangeAt Go.RowKit Go.BigFrame
open Go.Proofs.Ytbhejjpkmnldhaa Go.Proofs.Ytbhejjpkmnldhaa.boxes Go.Proofs.Ytbhejjpkmnldhaa.rwr Go.Proofs.Ytbhejjpkmnldhaa.rwat
open Go.Proofs.Ytbhejjpkmnldhaa.rws (Knd Own)

theorem btw_queue (n : Nat) (k : Int) : btw k 0 ((n : Int) - 1) = decide (0 ≤ k ∧ k < n) := by
  unfold btw
  rw [Bool.eq_iff_iff]
  simp
  omega
set_option maxRecDepth 20000 in
theorem plaw_chk (v : Value) (L : List Qu) (k m : Int) (w : World) (h : TRd w v L) (hc : chk L ≠ 0) : Calls Try.prog 4 #[v, .int .i64 k, .int .i64 m] w fun e w' => e = .returned (.bool true) ∧ Below w.heap.size w w' := by
  have b0 := Below.refl w.heap.size w
  have CR := fun u hu => right_any v L u hu
  have C0 := put_chk v L k m w h hc
  have hc2 : (chk L != 0) = true := by simpa using hc
  have hc3 : (chk L == 0) = false := by simpa using hc
  obtain ⟨sa, sc, rfl⟩ := h.form
  generalize L.length = n at *
  generalize chk L = c at *
  go_enter Try.func4, Try.ntmps4
  go_wp2_with fail
  refine C0.mono ?_
  rintro e w1 ⟨rfl, z⟩
  have C := CR w1 (h.below z)
  replace b0 := b0.trans (z.mono b0.size)
  clear z C0 CR
  go_wp2_with fail
  refine C.mono ?_
  rintro e w2 ⟨rfl, z⟩
  replace b0 := b0.trans (z.mono b0.size)
  clear z C
  go_wp2_with fail
  go_ret
  exact ⟨rfl, b0⟩
set_option maxRecDepth 20000 in
theorem plaw_none (v : Value) (L : List Qu) (k m : Int) (w : World) (h : TRd w v L) (hc : chk L = 0) (hk : k < 0 ∨ (L.length : Int) ≤ k) : Calls Try.prog 4 #[v, .int .i64 k, .int .i64 m] w fun e w' => e = .returned (.bool true) ∧ Below w.heap.size w w' := by
  have b0 := Below.refl w.heap.size w
  have CR := fun u hu => right_any v L u hu
  have CB := fun u => between_any k 0 ((L.length : Int) - 1) u
  have CB2 := fun u => between_any m 1 1000000 u
  have hlen := h.len
  have wn : wrap64 ((L.length : Int) - 1) = (L.length : Int) - 1 := by unfold wrap64; omega
  rw [btw_queue] at CB
  have C0 := put_none v L k m w h hc hk
  rw [hc] at CR
  rw [decide_eq_false (by omega)] at CB
  clear hc hk CB2
  obtain ⟨sa, sc, rfl⟩ := h.form
  generalize L.length = n at *
  go_enter Try.func4, Try.ntmps4
  go_wp2_with fail
  refine C0.mono ?_
  rintro e w1 ⟨rfl, z⟩
  have C := CR w1 (h.below z)
  replace b0 := b0.trans (z.mono b0.size)
  clear z C0 CR
  go_wp2_with fail
  refine C.mono ?_
  rintro e w2 ⟨rfl, z⟩
  replace b0 := b0.trans (z.mono b0.size)
  clear z C
  go_wp2_with fail
  refine (CB _).mono ?_
  rintro e w2 ⟨rfl, rfl⟩
  clear CB
  go_wp2_with fail
  go_ret
  exact ⟨rfl, b0⟩
set_option maxRecDepth 20000 in
theorem plaw_arg (v : Value) (L : List Qu) (k : Nat) (m : Int) (w : World) (h : TRd w v L) (hc : chk L = 0) (hk : k < L.length) (hm : wsz m = true) : Calls Try.prog 4 #[v, .int .i64 (k : Int), .int .i64 m] w fun e w' => e = .returned (.bool true) ∧ Below w.heap.size w w' := by
  have b0 := Below.refl w.heap.size w
  have CR := fun u hu => right_any v L u hu
  have CB := fun u => between_any (k : Int) 0 ((L.length : Int) - 1) u
  have CB2 := fun u => between_any m 1 1000000 u
  have hlen := h.len
  have wn : wrap64 ((L.length : Int) - 1) = (L.length : Int) - 1 := by unfold wrap64; omega
  rw [btw_queue] at CB
  have C0 := put_arg v L k m w h hc hk hm
  have hb := btw_wsz m
  rw [hm] at hb
  have hb2 : btw m 1 1000000 = false := by simpa using hb
  rw [hc] at CR
  rw [decide_eq_true (by omega)] at CB
  rw [hb2] at CB2
  clear hc hk hb hb2 hm
  obtain ⟨sa, sc, rfl⟩ := h.form
  generalize L.length = n at *
  go_enter Try.func4, Try.ntmps4
  go_wp2_with fail
  refine C0.mono ?_
  rintro e w1 ⟨rfl, z⟩
  have C := CR w1 (h.below z)
  replace b0 := b0.trans (z.mono b0.size)
  clear z C0 CR
  go_wp2_with fail
  refine C.mono ?_
  rintro e w2 ⟨rfl, z⟩
  replace b0 := b0.trans (z.mono b0.size)
  clear z C
  go_wp2_with fail
  refine (CB _).mono ?_
  rintro e w2 ⟨rfl, rfl⟩
  clear CB
  go_wp2_with fail
  refine (CB2 _).mono ?_
  rintro e w2 ⟨rfl, rfl⟩
  clear CB2
  go_wp2_with fail
  go_ret
  exact ⟨rfl, b0⟩
set_option maxRecDepth 20000 in
theorem plaw_full (v : Value) (L : List Qu) (k : Nat) (q : Qu) (m : Int) (w : World) (h : TRd w v L) (hc : chk L = 0) (hq : L[k]? = some q) (hm : wsz m = false) (hf : q.l.length = 200) : Calls Try.prog 4 #[v, .int .i64 (k : Int), .int .i64 m] w fun e w' => e = .returned (.bool true) ∧ Below w.heap.size w w' := by
  have b0 := Below.refl w.heap.size w
  have CR := fun u hu => right_any v L u hu
  have CB := fun u => between_any (k : Int) 0 ((L.length : Int) - 1) u
  have CB2 := fun u => between_any m 1 1000000 u
  have hlen := h.len
  have wn : wrap64 ((L.length : Int) - 1) = (L.length : Int) - 1 := by unfold wrap64; omega
  rw [btw_queue] at CB
  have hk : k < L.length := (List.getElem?_eq_some_iff.1 hq).1
  have hb := btw_wsz m
  rw [hm] at hb
  have hb2 : btw m 1 1000000 = true := by simpa using hb
  rw [hc] at CR
  rw [decide_eq_true (by omega)] at CB
  rw [hb2] at CB2
  obtain ⟨X, hr, hXl, hX⟩ := id h
  obtain ⟨x, hx⟩ : ∃ x, X[k]? = some x := ⟨X[k]'(by omega), List.getElem?_eq_getElem _⟩
  obtain ⟨b1, o1, hsa, hb1, -, hxc⟩ : ∃ b off, (∃ sc, v = .slice (some ⟨b, off, none⟩) L.length sc) ∧ b < w.heap.size ∧ True ∧ ∀ (j : Nat) x, X[j]? = some x → w.cell? ⟨b, off + j * 3 + 2, none⟩ = some x.sl := by
    obtain ⟨sa, sc, rfl⟩ := hr.form
    obtain ⟨b, off, rfl, hb, -, hc⟩ := q_cells hr (by omega)
    exact ⟨b, off, ⟨sc, by rw [hXl]⟩, hb, trivial, fun j x hj => (hc j x hj).2.2⟩
  have hxn : x.sl = .slice x.sa q.l.length x.sc := by
    have := rd_n (hX k x q hx hq).2.2
    show Value.slice x.sa x.sn x.sc = _
    rw [this]
  have cq := hxc k x hx
  rw [hxn] at cq
  obtain ⟨sc0, hsa⟩ := hsa
  generalize x.sa = xa at *
  generalize x.sc = xc at *
  have C0 := put_full v L k q m w h hc hq hm hf
  rw [hf] at cq
  have h0 : (0 : Int) ≤ (k : Int) := by omega
  have h1 : (k : Int) < (L.length : Int) := by omega
  clear hc hb hb2 hm hxn hx hX hXl hr hxc hq hf
  subst hsa
  generalize L.length = n at *
  go_enter Try.func4, Try.ntmps4
  go_wp2_with fail
  refine C0.mono ?_
  rintro e w1 ⟨rfl, z⟩
  have C := CR w1 (h.below z)
  replace b0 := b0.trans (z.mono b0.size)
  clear z C0 CR
  go_wp2_with fail
  refine C.mono ?_
  rintro e w2 ⟨rfl, z⟩
  replace b0 := b0.trans (z.mono b0.size)
  have cq2 := (b0.cell (p := ⟨b1, o1 + k * 3 + 2, none⟩) hb1).trans cq
  clear z C cq
  go_wp2_with fail
  refine (CB _).mono ?_
  rintro e w2 ⟨rfl, rfl⟩
  clear CB
  go_wp2_with fail
  refine (CB2 _).mono ?_
  rintro e w2 ⟨rfl, rfl⟩
  clear CB2
  go_wp2_with fail
  go_ret
  exact ⟨rfl, b0⟩
set_option maxRecDepth 20000 in
set_option maxHeartbeats 8000000 in
theorem plaw_ok (v : Value) (L : List Qu) (k : Nat) (q : Qu) (m : Int) (w : World) (h : TRd w v L) (hc : chk L = 0) (hq : L[k]? = some q) (hm : wsz m = false) (hf : q.l.length < 200) : Calls Try.prog 4 #[v, .int .i64 (k : Int), .int .i64 m] w fun e w' => e = .returned (.bool true) ∧ Below w.heap.size w w' := by
  have b0 := Below.refl w.heap.size w
  have CR := fun u hu => right_any v L u hu
  have CB := fun u => between_any (k : Int) 0 ((L.length : Int) - 1) u
  have CB2 := fun u => between_any m 1 1000000 u
  have hlen := h.len
  have wn : wrap64 ((L.length : Int) - 1) = (L.length : Int) - 1 := by unfold wrap64; omega
  rw [btw_queue] at CB
  have hk : k < L.length := (List.getElem?_eq_some_iff.1 hq).1
  have hb := btw_wsz m
  rw [hm] at hb
  have hb2 : btw m 1 1000000 = true := by simpa using hb
  rw [hc] at CR
  rw [decide_eq_true (by omega)] at CB
  rw [hb2] at CB2
  obtain ⟨X, hr, hXl, hX⟩ := id h
  obtain ⟨x, hx⟩ : ∃ x, X[k]? = some x := ⟨X[k]'(by omega), List.getElem?_eq_getElem _⟩
  obtain ⟨b1, o1, hsa, hb1, -, hxc⟩ : ∃ b off, (∃ sc, v = .slice (some ⟨b, off, none⟩) L.length sc) ∧ b < w.heap.size ∧ True ∧ ∀ (j : Nat) x, X[j]? = some x → w.cell? ⟨b, off + j * 3 + 2, none⟩ = some x.sl := by
    obtain ⟨sa, sc, rfl⟩ := hr.form
    obtain ⟨b, off, rfl, hb, -, hc⟩ := q_cells hr (by omega)
    exact ⟨b, off, ⟨sc, by rw [hXl]⟩, hb, trivial, fun j x hj => (hc j x hj).2.2⟩
  have hxn : x.sl = .slice x.sa q.l.length x.sc := by
    have := rd_n (hX k x q hx hq).2.2
    show Value.slice x.sa x.sn x.sc = _
    rw [this]
  have cq := hxc k x hx
  rw [hxn] at cq
  obtain ⟨sc0, hsa⟩ := hsa
  generalize x.sa = xa at *
  generalize x.sc = xc at *
  have C0 := put_ok v L k q m w h hc hq hm hf
  have CN := fun v l u h hb => cloneN_any v l u h hb
  have h0 : (0 : Int) ≤ (k : Int) := by omega
  have h1 : (k : Int) < (L.length : Int) := by omega
  have hq200 : ¬ (200 : Int) ≤ (q.l.length : Int) := by omega
  have hFine := (chk_zero.1 hc).2
  have HG : Hid (∀ i, i < L.length → ∃ x q, X[i]? = some x ∧ L[i]? = some q ∧ x.sh = q.sh ∧ x.sv = q.sv ∧ Rd NK w x.sl q.l ∧ q.l.length ≤ 200) := fun i hi => by
    obtain ⟨a, b, c⟩ := hX i _ _ (List.getElem?_eq_getElem (by omega)) (List.getElem?_eq_getElem hi)
    exact ⟨X[i]'(by omega), L[i], List.getElem?_eq_getElem _, List.getElem?_eq_getElem hi, a, b, c, (hFine _ (List.getElem_mem _)).len⟩
  have HX : Hid (∀ u, Below w.heap.size w u → ∀ j x, X[j]? = some x → ∀ i, i < QK.k → u.cell? ⟨b1, o1 + j * QK.k + i, none⟩ = (QK.enc x)[i]?) := by
    subst hsa
    obtain ⟨b, off, e, hb, hx, -⟩ := q_cells (by rw [← hXl] at hr; exact hr) (by omega)
    simp only [Option.some.injEq, Addr.mk.injEq, and_true] at e
    obtain ⟨rfl, rfl⟩ := e
    exact fun u hu j x hj i hi => (hu.cell (p := ⟨b1, o1 + j * QK.k + i, none⟩) hb1).trans (hx j x hj i hi)
  have HQ : Hid (∀ i q', L[i]? = some q' → (i = k → (L.set k (putq q m))[i]? = some (putq q' m)) ∧ (i ≠ k → (L.set k (putq q m))[i]? = some q')) := fun i q' hi => by
    refine ⟨fun e => ?_, fun e => ?_⟩
    · subst e
      rw [hq] at hi
      obtain rfl := Option.some.inj hi
      exact List.getElem?_set_self hk
    · rw [List.getElem?_set_ne (fun e2 => e e2.symm)]; exact hi
  have HSl : Hid ((L.set k (putq q m)).length = L.length) := List.length_set
  clear hc hb hb2 hm hxn hx hX hXl hr hxc hq hFine
  subst hsa
  generalize hLq : L.set k (putq q m) = L2 at *
  clear hLq
  generalize L.length = n at *
  go_enter Try.func4, Try.ntmps4
  go_wp2_with fail
  refine C0.mono ?_
  rintro e w1 ⟨va, rfl, T, z⟩
  have RA := T.trd
  clear T
  have C := CR w1 (h.below z)
  replace b0 := b0.trans (z.mono b0.size)
  clear z C0 CR
  obtain ⟨aa, ac, rfl⟩ := RA.form
  rw [HSl.out] at RA ⊢
  go_wp2_with fail
  refine C.mono ?_
  rintro e w2 ⟨rfl, z⟩
  replace b0 := b0.trans (z.mono b0.size)
  replace RA := RA.below z
  have cq2 := (b0.cell (p := ⟨b1, o1 + k * 3 + 2, none⟩) hb1).trans cq
  clear z C cq
  go_wp2_with fail
  refine (CB _).mono ?_
  rintro e w2 ⟨rfl, rfl⟩
  clear CB
  go_wp2_with fail
  refine (CB2 _).mono ?_
  rintro e w2 ⟨rfl, rfl⟩
  clear CB2
  go_wp2_with fail
  clear cq2 h
  obtain ⟨XA, hrA, hXAl, hXA⟩ := RA
  have HA : Hid (∀ u, Below w2.heap.size w2 u → 0 < n → ∃ b off, aa = some ⟨b, off, none⟩ ∧ b < u.heap.size ∧ ∀ (j : Nat) y, XA[j]? = some y → u.cell? ⟨b, off + j * 3, none⟩ = some (.int .i64 y.sh) ∧ u.cell? ⟨b, off + j * 3 + 1, none⟩ = some (.int .i64 y.sv) ∧ u.cell? ⟨b, off + j * 3 + 2, none⟩ = some y.sl) := fun u hu hp => by
    have hl2 := HSl.out
    obtain ⟨b, off, e, hb, -, hc⟩ := q_cells (hrA.below hu) (by omega)
    exact ⟨b, off, e, hb, hc⟩
  have HA2 : Hid (∀ (i : Nat) (p : Qu), L2[i]? = some p → ∃ y : Qv, XA[i]? = some y ∧ y.sh = p.sh ∧ y.sv = p.sv ∧ Rd NK w2 y.sl p.l) := fun i p hp => by
    have hi := (List.getElem?_eq_some_iff.1 hp).1
    exact ⟨XA[i]'(by omega), List.getElem?_eq_getElem _, hXA i _ p (List.getElem?_eq_getElem _) hp⟩
  clear hrA hXAl hXA HSl
  go_loopw [78] (fun s78 wr => ∃ i : Nat, s78 = .int .i64 (i : Int) ∧ i ≤ n ∧ Below w2.heap.size w2 wr) (fun s _ => n - (intOf s).toNat)
  case atStart => exact ⟨0, rfl, Nat.zero_le _, Below.refl _ _⟩
  case round =>
    obtain ⟨i, rfl, hi, bel⟩ := hrel
    have bw := b0.trans (bel.mono b0.size)
    by_cases hlt : i < n
    rotate_left
    · have hlt' : ¬ (i : Int) < (n : Int) := by omega
      clear HX HG HA HA2 HQ CN
      go_wp2_with fail
      go_ret
      exact ⟨rfl, bw⟩
    have hlt' : (i : Int) < (n : Int) := by omega
    obtain ⟨x, q', hx, hq', q1, q2, rdx, hl2⟩ := HG.out i hlt
    have hx1 := HX.out wr bw
    obtain ⟨HQ1, HQ2⟩ := HQ.out i q' hq'
    have HQ1 : Hid (i = k → L2[i]? = some (putq q' m)) := HQ1
    have HQ2 : Hid (i ≠ k → L2[i]? = some q') := HQ2
    have HY : Hid (∃ (y : Qv) (l2 : List Int), (i = k → l2 = q'.l ++ [m]) ∧ (i ≠ k → l2 = q'.l) ∧ XA[i]? = some y ∧ y.sh = q'.sh ∧ y.sv = q'.sv ∧ Rd NK w2 y.sl l2) := by
      by_cases e : i = k
      · obtain ⟨y, a, b, c, d⟩ := HA2.out i _ (HQ1.out e)
        exact ⟨y, _, fun _ => rfl, fun h => absurd e h, a, b, c, d⟩
      · obtain ⟨y, a, b, c, d⟩ := HA2.out i _ (HQ2.out e)
        exact ⟨y, _, fun h => absurd h e, fun _ => rfl, a, b, c, d⟩
    obtain ⟨y, l2, l2a, l2b, hy, y1, y2, rdy⟩ := HY.out
    have HL2 : Hid ((i = k → l2 = q'.l ++ [m]) ∧ (i ≠ k → l2 = q'.l)) := ⟨l2a, l2b⟩
    have Zb := Blk.new wr (QC 0 0 (.slice none 0 0)) 41
    have dA := (Below.refl wr.heap.size wr).alloc (Nat.le_refl _) (.cells (QC 0 0 (.slice none 0 0)) 41)
    have CNx := fun u hu => CN x.sl q'.l u (rdx.below hu) (by omega)
    obtain ⟨sh, sv, xa, xn, xc⟩ := x
    obtain ⟨yh, yv, ya, yn, yc⟩ := y
    dsimp only [Qv.cells, Qv.sl] at *
    have HYX : Hid (yh = sh ∧ yv = sv) := ⟨by rw [y1, q1], by rw [y2, q2]⟩
    clear HX HG HA2 HQ HQ1 HQ2 HY l2a l2b CN hq' q1 q2 y1 y2 rdx
    go_upto_region 14 with (first
      | (refine rd_load QK _ rfl _ rfl b1 o1 X hx1 i _ rfl rfl _ hx (QC sh sv (.slice xa xn xc)) rfl _ Try.underlying41 rfl ?_)
      | (refine blk_store _ rfl 41 _ _ rfl wr.heap.size (QC sh sv (.slice xa xn xc)) rfl rfl _ _ Zb 3 qv_info rfl rfl (qc_one _ _ _ _ _) ?_; intro W3 k3 p3))
    have z := p3.below dA (Nat.le_refl _)
    replace bw := bw.trans (z.mono bw.size)
    replace bel := bel.trans (z.mono bel.size)
    have h32 := bel.size
    clear Zb dA p3 hx1 z hx
    generalize wr.heap.size = bx at *
    have C := CNx W3 bw
    have ck := k3.cell
    clear CNx
    go_wp2_with fail
    refine C.mono ?_
    rintro e w8 ⟨v8, rfl, F8, z⟩
    clear C ck
    replace k3 := k3.below z k3.lt
    replace bw := bw.trans (z.mono bw.size)
    replace bel := bel.trans (z.mono bel.size)
    have h38 := z.size
    clear z
    generalize W3.heap.size = B3 at *
    obtain ⟨fa, fc, e8⟩ := (FN.rd F8).form
    obtain ⟨fn, hfn⟩ : ∃ fn, fn = q'.l.length := ⟨_, rfl⟩
    rw [← hfn] at e8
    subst e8
    clear hfn
    by_cases hik : i = k
    · have hl2e := HL2.out.1 hik
      subst hik
      have bW := (Below.refl w8.heap.size w8).alloc (Nat.le_refl _) (.cells #[.int .i64 m] 3)
      have F7 := F8.kept bW
      have R7 := one_rd w8 m
      have q3 : q'.l.length + 1 ≤ maxLen := by unfold maxLen; omega
      have q4 : (q'.l.length + 1) * 8 ≤ 140737488355328 := by omega
      have q5 : B3 ≤ (w8.alloc (.cells #[.int .i64 m] 3)).heap.size := by simp; omega
      have k7 := k3.alloc (.cells #[.int .i64 m] 3)
      have bel7 := bel.trans (bW.mono bel.size)
      have bw7 := bw.trans (bW.mono bw.size)
      have nek := blk_ne F7.1 k7 (by decide)
      clear F8 k3 bel bw bW HL2
      rw [hl2e] at rdy
      clear hl2e l2
      generalize q'.l = ql at *
      go_upto_region 17 with (at_builtin; refine app_n _ rfl _ _ rfl B3 _ ql rfl F7 _ [m] rfl R7 q3 q4 q5 ?_; intro v9 w9 F9 bl9 g9 x9; obtain ⟨ga, gc, e9⟩ := (FN.rd F9).form; obtain ⟨gn, hgn⟩ : ∃ gn, gn = (ql ++ [m]).length := ⟨_, rfl⟩; rw [← hgn] at e9; subst e9; clear hgn)
      have k9 := Only.blk (Only.of_app g9 x9) k7 nek
      have oo := Only.of_app g9 x9
      have hge : ∀ g, (Value.slice fa fn fc).ownBlock = some g → B3 ≤ g := own_ge F7.1
      have bel9 := bel7.trans (oo.below (B := w2.heap.size) (fun g hg => by have := hge g hg; omega) bel7.size)
      have bw9 := b0.trans (bel9.mono b0.size)
      have rdw := FN.rd F9
      clear F7 R7 nek k7 bel7 bw7 bl9 g9 x9 oo hge F9
      generalize ql ++ [m] = l2 at *
      generalize hWW : w9 = W at *
      clear hWW
      have CE : ∀ x : cls.In (ab.Ab W), _ := fun x => ab.call (x := x) (equalN_same _ _ l2 x.W ((rdy.below bel9).below x.h) (rdw.below x.h))
      obtain ⟨b5, o5, rfl, hb5, hc5⟩ := HA.out W bel9 (by omega)
      obtain ⟨c5, c6, c7⟩ := hc5 i _ hy
      dsimp only [Qv.sl] at c5 c6 c7
      have nn := ab.ne W
      have a5 := ab.cell c5 hb5
      have a6 := ab.cell c6 hb5
      have a7 := ab.cell c7 hb5
      have a8 := ab.cells k9
      obtain ⟨rfl, rfl⟩ := HYX.out
      clear c5 c6 c7 hc5 hy HA HYX rdy rdw
      refine ab.region (by kernel_rfl) (by kernel_rfl) ?_
      repeat (go_big_quiet_step ((go_at_call 18; exact CE _)))
      refine wpQuiet_nil ?_
      intro _ hx
      obtain ⟨u, rfl⟩ := hx
      have bel10 := bel9.trans (Below.mono u.h bel9.size)
      go_wp2_with fail
      go_roundw
      case rel => exact ⟨i + 1, by go_num, by omega, bel10⟩
      case measure => simp [intOf]; omega
    · have hl2e := HL2.out.2 hik
      have hik' : ¬ (i : Int) = (k : Int) := by omega
      rw [hl2e] at rdy
      clear hl2e l2 HL2
      have rdw := FN.rd F8
      clear F8
      go_upto_region 17 with fail
      have k9 := k3
      have bel9 := bel
      have bw9 := bw
      clear k3 bel bw hik hik'
      generalize q'.l = l2 at *
      generalize hWW : w8 = W at *
      clear hWW
      have CE : ∀ x : cls.In (ab.Ab W), _ := fun x => ab.call (x := x) (equalN_same _ _ l2 x.W ((rdy.below bel9).below x.h) (rdw.below x.h))
      obtain ⟨b5, o5, rfl, hb5, hc5⟩ := HA.out W bel9 (by omega)
      obtain ⟨c5, c6, c7⟩ := hc5 i _ hy
      dsimp only [Qv.sl] at c5 c6 c7
      have nn := ab.ne W
      have a5 := ab.cell c5 hb5
      have a6 := ab.cell c6 hb5
      have a7 := ab.cell c7 hb5
      have a8 := ab.cells k9
      obtain ⟨rfl, rfl⟩ := HYX.out
      clear c5 c6 c7 hc5 hy HA HYX rdy rdw
      refine ab.region (by kernel_rfl) (by kernel_rfl) ?_
      repeat (go_big_quiet_step ((go_at_call 18; exact CE _)))
      refine wpQuiet_nil ?_
      intro _ hx
      obtain ⟨u, rfl⟩ := hx
      have bel10 := bel9.trans (Below.mono u.h bel9.size)
      go_wp2_with fail
      go_roundw
      case rel => exact ⟨i + 1, by go_num, by omega, bel10⟩
      case measure => simp [intOf]; omega
theorem plaw_walk (v : Value) (L : List Qu) (k m : Int) (w : World) (h : TRd w v L) : Calls Try.prog 4 #[v, .int .i64 k, .int .i64 m] w fun e w' => e = .returned (.bool true) ∧ Below w.heap.size w w' := by
  by_cases hc : chk L = 0
  rotate_left
  · exact plaw_chk v L k m w h hc
  by_cases hk : k < 0 ∨ (L.length : Int) ≤ k
  · exact plaw_none v L k m w h hc hk
  obtain ⟨j, rfl⟩ : ∃ j : Nat, k = (j : Int) := ⟨k.toNat, by omega⟩
  have hj : j < L.length := by omega
  cases hm : wsz m with
  | true => exact plaw_arg v L j m w h hc hj hm
  | false =>
    have hq : L[j]? = some L[j] := List.getElem?_eq_getElem hj
    have hl := ((chk_zero.1 hc).2 L[j] (List.getElem_mem hj)).len
    by_cases hf : L[j].l.length = 200
    · exact plaw_full v L j _ m w h hc hq hm hf
    · exact plaw_ok v L j _ m w h hc hq hm (by omega)
end Go.Proofs.Ytbhejjpkmnldhaa.tu
