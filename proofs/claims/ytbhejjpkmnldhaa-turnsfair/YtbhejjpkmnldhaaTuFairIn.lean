/- The walk through custkeep.TurnsFair. -/
import Derived.Test.YtbhejjpkmnldhaaTuRounds
import Derived.Test.YtbhejjpkmnldhaaTuLives
namespace Go.Proofs.Ytbhejjpkmnldhaa.tu
open Go.ChangeShapes Go.WideShapes Go.ChangeAt Go.RowKit Go.BigFrame
open Go.Proofs.Ytbhejjpkmnldhaa Go.Proofs.Ytbhejjpkmnldhaa.boxes Go.Proofs.Ytbhejjpkmnldhaa.rwr Go.Proofs.Ytbhejjpkmnldhaa.rwat
open Go.Proofs.Ytbhejjpkmnldhaa.rws (Knd Own)

theorem fair_early (v : Value) (L : List Qu) (k : Int) (w : World) (h : TRd w v L) (hb : chk L ≠ 0 ∨ k < 0 ∨ 100 < k) : Calls Try.prog 5 #[v, .int .i64 k] w fun e w' => e = .returned (.bool true) ∧ Below w.heap.size w w' := by
  have b0 := Below.refl w.heap.size w
  have LV := fun u => lives_any u
  have CK := fun u hu => check_any v L u hu
  obtain ⟨sa, sc, rfl⟩ := h.form
  by_cases hc : chk L = 0
  · rw [hc] at CK
    by_cases hk : k < 0
    · clear hb hc
      generalize L.length = n at *
      go_enter Try.func5, Try.ntmps5
      go_wp2_with fail
      refine (LV _).mono ?_
      rintro e w1 ⟨rfl, z⟩
      have C := CK w1 (h.below z)
      replace b0 := b0.trans (z.mono b0.size)
      clear z CK
      go_wp2_with fail
      refine C.mono ?_
      rintro e w2 ⟨rfl, z⟩
      replace b0 := b0.trans (z.mono b0.size)
      clear z C
      go_wp2_with fail
      refine (LV _).mono ?_
      rintro e w3 ⟨rfl, z⟩
      replace b0 := b0.trans (z.mono b0.size)
      go_wp2_with fail
      go_ret
      exact ⟨rfl, b0⟩
    · have hk2 : 100 < k := by omega
      clear hb hc
      generalize L.length = n at *
      go_enter Try.func5, Try.ntmps5
      go_wp2_with fail
      refine (LV _).mono ?_
      rintro e w1 ⟨rfl, z⟩
      have C := CK w1 (h.below z)
      replace b0 := b0.trans (z.mono b0.size)
      clear z CK
      go_wp2_with fail
      refine C.mono ?_
      rintro e w2 ⟨rfl, z⟩
      replace b0 := b0.trans (z.mono b0.size)
      clear z C
      go_wp2_with fail
      refine (LV _).mono ?_
      rintro e w3 ⟨rfl, z⟩
      replace b0 := b0.trans (z.mono b0.size)
      go_wp2_with fail
      go_ret
      exact ⟨rfl, b0⟩
  · have hc2 : (chk L != 0) = true := by simpa using hc
    clear hb
    generalize chk L = c at *
    generalize L.length = n at *
    go_enter Try.func5, Try.ntmps5
    go_wp2_with fail
    refine (LV _).mono ?_
    rintro e w1 ⟨rfl, z⟩
    have C := CK w1 (h.below z)
    replace b0 := b0.trans (z.mono b0.size)
    clear z CK
    go_wp2_with fail
    refine C.mono ?_
    rintro e w2 ⟨rfl, z⟩
    replace b0 := b0.trans (z.mono b0.size)
    clear z C
    go_wp2_with fail
    refine (LV _).mono ?_
    rintro e w3 ⟨rfl, z⟩
    replace b0 := b0.trans (z.mono b0.size)
    go_wp2_with fail
    go_ret
    exact ⟨rfl, b0⟩
theorem prod_bound {a r : Int} (h0 : 0 ≤ a) (h1 : a ≤ 200000000) (h2 : 1 ≤ r) (h3 : r ≤ 1000000) : 0 ≤ a * r ∧ a * r ≤ 200000000000000 := by
  have x0 : (0 : Int) * r ≤ a * r := Int.mul_le_mul_of_nonneg_right h0 (by omega)
  have x1 : a * r ≤ 200000000 * r := Int.mul_le_mul_of_nonneg_right h1 (by omega)
  omega
theorem most_next {l : List Int} {j : Nat} {y m : Int} (h : l[j]? = some y) (hm : ∀ n ∈ l.take j, n ≤ m) : ∀ n ∈ l.take (j + 1), n ≤ max m y := by
  intro n hn
  rw [List.take_add_one, h] at hn
  rcases List.mem_append.1 hn with hn | hn
  · have := hm n hn; omega
  · simp [Option.toList] at hn; omega
theorem mosts_next {L : List Qu} {i : Nat} {q : Qu} {m m' : Int} (h : L[i]? = some q) (hm : ∀ p ∈ L.take i, ∀ n ∈ p.l, n ≤ m) (hle : m ≤ m') (hq : ∀ n ∈ q.l, n ≤ m') : ∀ p ∈ L.take (i + 1), ∀ n ∈ p.l, n ≤ m' := by
  intro p hp n hn
  rw [List.take_add_one, h] at hp
  rcases List.mem_append.1 hp with hp | hp
  · have := hm p hp n hn; omega
  · simp [Option.toList] at hp; subst hp; exact hq n hn
set_option maxRecDepth 20000 in
set_option maxHeartbeats 8000000 in
theorem fair_main (v : Value) (L : List Qu) (n : Nat) (w : World) (h : TRd w v L) (hc : chk L = 0) (hn : n ≤ 100) : Calls Try.prog 5 #[v, .int .i64 (n : Int)] w fun e w' => e = .returned (.bool true) ∧ Below w.heap.size w w' := by
  have b0 := Below.refl w.heap.size w
  have LV := lives_any w
  have CK := fun u hu => check_any v L u hu
  rw [hc] at CK
  have CR := fun u hu => rounds_any v L n u hu hc hn
  have hFine := (chk_zero.1 hc).2
  have HFi : Hid (∀ (i : Nat) q, L[i]? = some q → Fine q) := fun i q hq => hFine q (List.mem_of_getElem? hq)
  have HFm : Hid (∀ m : Int, (∀ p ∈ L, ∀ x ∈ p.l, x ≤ m) → ∀ (i k : Nat) p q, L[i]? = some p → L[k]? = some q → fl n p = true → fl n q = true → sm n p * q.sh - sm n q * p.sh < m * (p.sh + q.sh) ∧ -(sm n p * q.sh - sm n q * p.sh) < m * (p.sh + q.sh)) := fun m hm i k p q hp hq fp fq =>
    fair_fact (hFine p (List.mem_of_getElem? hp)) (hFine q (List.mem_of_getElem? hq)) fp fq (hm p (List.mem_of_getElem? hp)) (hm q (List.mem_of_getElem? hq))
  have HQ : Hid (∀ i, i < L.length → ∃ q, L[i]? = some q) := fun i hi => ⟨_, List.getElem?_eq_getElem hi⟩
  have HFl : Hid (∀ (i : Nat) q, L[i]? = some q → (L.map (fl n))[i]? = some (fl n q) ∧ (L.map (sm n))[i]? = some (sm n q)) := fun i q h => ⟨fl_at h, sm_at h⟩
  have HT : Hid (L.take L.length = L) := List.take_length
  have hlen := h.len
  have n0 : ¬ (n : Int) < 0 := by omega
  have n1 : ¬ (100 : Int) < (n : Int) := by omega
  have HSl : Hid ((L.map (sm n)).length = L.length ∧ (L.map (fl n)).length = L.length) := ⟨List.length_map _, List.length_map _⟩
  obtain ⟨sa, sc, e_v⟩ := h.form
  subst e_v
  obtain ⟨m, hm⟩ : ∃ m, m = L.length := ⟨_, rfl⟩
  rw [← hm] at h CK CR HQ HT HSl hlen ⊢
  have HM : Hid (m = L.length) := hm
  clear hm hc hn hFine
  go_enter Try.func5, Try.ntmps5
  go_wp2_with fail
  refine LV.mono ?_
  rintro e w1 ⟨rfl, z⟩
  replace h := h.below z
  replace b0 := b0.trans (z.mono b0.size)
  clear z LV
  have C := CK w1 h
  clear CK
  go_wp2_with fail
  refine C.mono ?_
  rintro e w2 ⟨rfl, z⟩
  replace h := h.below z
  replace b0 := b0.trans (z.mono b0.size)
  clear z C
  have T0 := h
  obtain ⟨X, hr, hXl, hX⟩ := h
  have HX : Hid (∀ u, Below w2.heap.size w2 u → 0 < m → ∃ b off, sa = some ⟨b, off, none⟩ ∧ b < u.heap.size ∧ (∀ j x, X[j]? = some x → ∀ i, i < QK.k → u.cell? ⟨b, off + j * QK.k + i, none⟩ = (QK.enc x)[i]?) ∧ ∀ (j : Nat) x, X[j]? = some x → u.cell? ⟨b, off + j * 3, none⟩ = some (.int .i64 x.sh)) := fun u hu hp => by
    obtain ⟨b, off, e, hb, h1, hc⟩ := q_cells (hr.below hu) (by rw [hXl, ← HM.out]; exact hp)
    exact ⟨b, off, e, hb, h1, fun j x hj => (hc j x hj).1⟩
  have HG : Hid (∀ (i : Nat) (q : Qu), L[i]? = some q → ∃ x : Qv, X[i]? = some x ∧ x.sh = q.sh ∧ Rd NK w2 x.sl q.l) := fun i q hi => by
    have hlt := (List.getElem?_eq_some_iff.1 hi).1
    obtain ⟨a, b, c⟩ := hX i _ q (List.getElem?_eq_getElem (by omega)) hi
    exact ⟨X[i]'(by omega), List.getElem?_eq_getElem _, a, c⟩
  clear hr hXl hX
  go_wp2_with fail
  go_loopw [5, 35] (fun s5 s35 wr => ∃ (i : Nat) (mo : Int), s5 = .int .i64 mo ∧ s35 = .int .i64 (i : Int) ∧ i ≤ m ∧ 0 ≤ mo ∧ mo ≤ 1000000 ∧ Hid (∀ p ∈ L.take i, ∀ x ∈ p.l, x ≤ mo) ∧ Below w2.heap.size w2 wr) (fun _ s _ => m - (intOf s).toNat)
  case atStart => exact ⟨0, 0, rfl, rfl, Nat.zero_le _, by decide, by decide, fun p hp => by simp at hp, Below.refl _ _⟩
  case round =>
    obtain ⟨i, mo, rfl, rfl, hi, mo0, mo1, HMo, bel⟩ := hrel
    by_cases hlt : i < m
    · have hlt' : (i : Int) < (m : Int) := by omega
      obtain ⟨q, hq⟩ := HQ.out i hlt
      obtain ⟨x, hx, q1, rdx⟩ := HG.out i q hq
      obtain ⟨b1, o1, rfl, hb1, hx1, _⟩ := HX.out wr bel (by omega)
      have hf := HFi.out i q hq
      have HZ : Hid (∀ (k : Nat) (y : Int), q.l[k]? = some y → 1 ≤ y ∧ y ≤ 1000000) := fun k y hk => hf.sz y (List.mem_of_getElem? hk)
      have HNx : Hid (∀ m' : Int, mo ≤ m' → (∀ z ∈ q.l, z ≤ m') → ∀ p ∈ L.take (i + 1), ∀ z ∈ p.l, z ≤ m') := fun m' h1 h2 => mosts_next hq HMo.out h1 h2
      have HHd : Hid (∀ u, Below w2.heap.size w2 u → 0 < q.l.length → ∃ b off, x.sa = some ⟨b, off, none⟩ ∧ b < u.heap.size ∧ ∀ (j : Nat) z, q.l[j]? = some z → u.cell? ⟨b, off + j, none⟩ = some (.int .i64 z)) := fun u hu hp => int_cells (rdx.below hu) hp
      have hxn := rd_n rdx
      have hxl := rd_len rdx
      have Zb := Blk.new wr (QC 0 0 (.slice none 0 0)) 41
      have dA := (Below.refl wr.heap.size wr).alloc (Nat.le_refl _) (.cells (QC 0 0 (.slice none 0 0)) 41)
      obtain ⟨sh, sv, xa, xn, xc⟩ := x
      dsimp only [Qv.cells, Qv.sl] at *
      have HQN : Hid (xn = q.l.length) := hxn
      rw [← hxn] at HHd hxl
      clear hxn
      have HTl : Hid (q.l.take xn = q.l) := by show _ = _; rw [HQN.out]; exact List.take_length
      have HJ : Hid (∀ j, j < xn → ∃ y, q.l[j]? = some y) := fun j hj => ⟨q.l[j]'(by rw [← HQN.out]; exact hj), List.getElem?_eq_getElem _⟩
      clear HX HG HQ HFl HFi HFm hq q1 rdx hf HMo HT HSl CR T0 HM HQN
      generalize q.l = l at *
      go_upto_region 7 with (first
        | (refine rd_load QK _ rfl _ rfl b1 o1 X hx1 i _ rfl rfl _ hx (QC sh sv (.slice xa xn xc)) rfl _ Try.underlying41 rfl ?_)
        | (refine blk_store _ rfl 41 _ _ rfl wr.heap.size (QC sh sv (.slice xa xn xc)) rfl rfl _ _ Zb 3 qv_info rfl rfl (qc_one _ _ _ _ _) ?_; intro W3 k3 p3))
      have z := p3.below dA (Nat.le_refl _)
      replace bel := bel.trans (z.mono bel.size)
      clear Zb dA p3 hx1 z hx
      generalize wr.heap.size = bx at *
      have ck := k3.cell
      go_wp2_with fail
      go_loopw [5, 42] (fun s5 s42 wr => ∃ (j : Nat) (mj : Int), s5 = .int .i64 mj ∧ s42 = .int .i64 (j : Int) ∧ j ≤ xn ∧ mo ≤ mj ∧ mj ≤ 1000000 ∧ Hid (∀ z ∈ l.take j, z ≤ mj) ∧ W3 = wr) (fun _ s _ => xn - (intOf s).toNat)
      case atStart => exact ⟨0, mo, rfl, rfl, Nat.zero_le _, Int.le_refl _, mo1, fun z hz => by simp at hz, rfl⟩
      case round =>
        obtain ⟨j, mj, rfl, rfl, hj, j0, j1, HMj, rfl⟩ := hrel
        by_cases hjl : j < xn
        · have hjl' : (j : Int) < (xn : Int) := by omega
          obtain ⟨y, hy⟩ := HJ.out j hjl
          obtain ⟨y0, y1⟩ := HZ.out j y hy
          obtain ⟨b5, o5, rfl, hb5, hc5⟩ := HHd.out W3 bel (by omega)
          have c5 := hc5 j y hy
          have HN : Hid (∀ z ∈ l.take (j + 1), z ≤ max mj y) := most_next hy HMj.out
          clear HHd HJ HZ HNx HTl HMj hc5 hy ck k3
          by_cases hmy : mj < y
          · have e : max mj y = y := by omega
            have HN2 : Hid (∀ z ∈ l.take (j + 1), z ≤ y) := by have := HN.out; rwa [e] at this
            clear HN e
            go_wp2_with fail
            go_roundw
            case rel => exact ⟨j + 1, y, by first | rfl | simp [hmy], by go_num, by omega, by omega, y1, HN2, trivial⟩
            case measure => simp [intOf]; omega
          · have e : max mj y = mj := by omega
            have HN2 : Hid (∀ z ∈ l.take (j + 1), z ≤ mj) := by have := HN.out; rwa [e] at this
            clear HN e
            go_wp2_with fail
            go_roundw
            case rel => exact ⟨j + 1, mj, by first | rfl | simp [hmy], by go_num, by omega, j0, j1, HN2, trivial⟩
            case measure => simp [intOf]; omega
        · have hjl' : ¬ (j : Int) < (xn : Int) := by omega
          have ej : j = xn := by omega
          subst ej
          have HN2 : Hid (∀ p ∈ L.take (i + 1), ∀ z ∈ p.l, z ≤ mj) := HNx.out mj j0 (by have := HMj.out; rwa [HTl.out] at this)
          clear HHd HJ HZ HNx HTl HMj ck k3
          go_wp2_with fail
          go_roundw
          case rel => exact ⟨i + 1, mj, rfl, by go_num, by omega, by omega, j1, HN2, bel⟩
          case measure => simp [intOf]; omega
    · have hlt' : ¬ (i : Int) < (m : Int) := by omega
      have ei : i = m := by omega
      have HMo2 : Hid (∀ p ∈ L, ∀ x ∈ p.l, x ≤ mo) := by have := HMo.out; rwa [ei, HT.out] at this
      have HFm2 : Hid (∀ (i k : Nat) p q, L[i]? = some p → L[k]? = some q → fl n p = true → fl n q = true → sm n p * q.sh - sm n q * p.sh < mo * (p.sh + q.sh) ∧ -(sm n p * q.sh - sm n q * p.sh) < mo * (p.sh + q.sh)) := HFm.out mo HMo2.out
      have C := CR wr (T0.below bel)
      clear CR T0 HFm HMo HMo2 HT ei
      go_wp2_with fail
      refine C.mono ?_
      rintro e w3 ⟨v1, s1, f1, rfl, T1, O8, O9, z⟩
      replace bel := bel.trans (z.mono bel.size)
      clear z C
      obtain ⟨ta, tc, e_1⟩ := T1.form
      subst e_1
      clear T1
      obtain ⟨ga, gc, e_2⟩ := (Own.rd O8).form
      rw [HSl.out.1] at e_2
      subst e_2
      obtain ⟨ha, hcp, e_3⟩ := (Own.rd O9).form
      rw [HSl.out.2] at e_3
      subst e_3
      have R8 := Own.rd O8
      have R9 := Own.rd O9
      clear O8 O9
      have H8 : Hid (∀ u, Below w3.heap.size w3 u → 0 < m → ∃ b off, ga = some ⟨b, off, none⟩ ∧ b < u.heap.size ∧ ∀ (j : Nat) y, (L.map (sm n))[j]? = some y → u.cell? ⟨b, off + j, none⟩ = some (.int .i64 y)) := fun u hu hp => int_cells (R8.below hu) (by rw [HSl.out.1]; exact hp)
      have H9 : Hid (∀ u, Below w3.heap.size w3 u → 0 < m → ∃ b off, ha = some ⟨b, off, none⟩ ∧ b < u.heap.size ∧ ∀ (j : Nat) y, (L.map (fl n))[j]? = some y → u.cell? ⟨b, off + j, none⟩ = some (.bool y)) := fun u hu hp => by
        obtain ⟨b, off, e, hb, hx⟩ := rd_spot (R9.below hu) (by rw [HSl.out.2]; exact hp)
        refine ⟨b, off, e, hb, fun j x hj => ?_⟩
        have := hx j x hj 0 (by decide)
        simpa [BK] using this
      clear R8 R9 HSl HM
      generalize Value.slice ta (rr n L).length tc = v1 at *
      have hb23 := bel.size
      go_wp2_with fail
      go_loopw [61] (fun s61 wr => ∃ i : Nat, s61 = .int .i64 (i : Int) ∧ i ≤ m ∧ Below w3.heap.size w3 wr) (fun s _ => m - (intOf s).toNat)
      case atStart => exact ⟨0, rfl, Nat.zero_le _, Below.refl _ _⟩
      case round =>
        obtain ⟨i, rfl, hi, bl⟩ := hrel
        by_cases hlt : i < m
        rotate_left
        · have hlt' : ¬ (i : Int) < (m : Int) := by omega
          have b5 := b0.trans ((bel.trans (bl.mono hb23)).mono b0.size)
          clear HX H8 H9 HG HQ HFl HFm2 HFi
          go_wp2_with fail
          go_ret
          exact ⟨rfl, b5⟩
        have hlt' : (i : Int) < (m : Int) := by omega
        obtain ⟨p, hp⟩ := HQ.out i hlt
        obtain ⟨l9, l8⟩ := HFl.out i p hp
        obtain ⟨x, hx, q1, _⟩ := HG.out i p hp
        have fp := HFi.out i p hp
        have sb := sm_bound fp n
        go_wp2_with fail
        go_loopw [66] (fun s66 wr => ∃ k : Nat, s66 = .int .i64 (k : Int) ∧ k ≤ m ∧ Below w3.heap.size w3 wr) (fun s _ => m - (intOf s).toNat)
        case atStart => exact ⟨0, rfl, Nat.zero_le _, bl⟩
        case round =>
          clear bl
          obtain ⟨k, rfl, hk, bl⟩ := hrel
          by_cases hkl : k < m
          rotate_left
          · have hkl' : ¬ (k : Int) < (m : Int) := by omega
            clear HX H8 H9 HG HQ HFl HFm2 HFi fp sb
            go_wp2_with fail
            go_roundw
            case rel => exact ⟨i + 1, by go_num, by omega, bl⟩
            case measure => simp [intOf]; omega
          have hkl' : (k : Int) < (m : Int) := by omega
          obtain ⟨q, hq⟩ := HQ.out k hkl
          obtain ⟨m9, m8⟩ := HFl.out k q hq
          obtain ⟨y, hy, q2, _⟩ := HG.out k q hq
          have fq := HFi.out k q hq
          have sb2 := sm_bound fq n
          have HFF : Hid (fl n p = true → fl n q = true → sm n p * q.sh - sm n q * p.sh < mo * (p.sh + q.sh) ∧ -(sm n p * q.sh - sm n q * p.sh) < mo * (p.sh + q.sh)) := HFm2.out i k p q hp hq
          obtain ⟨r1, r2⟩ := prod_bound sb.1 sb.2 fq.sh0 fq.sh1
          obtain ⟨r3, r4⟩ := prod_bound sb2.1 sb2.2 fp.sh0 fp.sh1
          have s1 := fp.sh0
          have s2 := fp.sh1
          have s3 := fq.sh0
          have s4 := fq.sh1
          have t1 : (0 : Int) * (p.sh + q.sh) ≤ mo * (p.sh + q.sh) := Int.mul_le_mul_of_nonneg_right mo0 (by omega)
          have t2 : mo * (p.sh + q.sh) ≤ 1000000 * (p.sh + q.sh) := Int.mul_le_mul_of_nonneg_right mo1 (by omega)
          obtain ⟨b1, o1, e1, hb1, _, hx1⟩ := HX.out wr (bel.trans (bl.mono hb23)) (by omega)
          obtain ⟨b6, o6, e6, hb6, hc6⟩ := H8.out wr bl (by omega)
          obtain ⟨b7, o7, e7, hb7, hc7⟩ := H9.out wr bl (by omega)
          have c1 := hx1 i x hx
          have c2 := hx1 k y hy
          have c3 := hc6 i _ l8
          have c4 := hc6 k _ m8
          have c5 := hc7 i _ l9
          have c6 := hc7 k _ m9
          rw [q1] at c1
          rw [q2] at c2
          subst e1
          subst e6
          subst e7
          generalize fl n p = bp at *
          generalize fl n q = bq at *
          generalize sm n p = sp at *
          generalize sm n q = sq at *
          generalize p.sh = hp_ at *
          generalize q.sh = hq_ at *
          have nn := ab.ne wr
          have a1 := ab.cell c1 hb1
          have a2 := ab.cell c2 hb1
          have a3 := ab.cell c3 hb6
          have a4 := ab.cell c4 hb6
          have w1 : IntKind.i64.wrap (sp * hq_) = sp * hq_ := by rw [IntKind.wrap_i64]; omega
          have w2' : IntKind.i64.wrap (sq * hp_) = sq * hp_ := by rw [IntKind.wrap_i64]; omega
          have w3' : IntKind.i64.wrap (sp * hq_ - sq * hp_) = sp * hq_ - sq * hp_ := by rw [IntKind.wrap_i64]; omega
          clear HX H8 H9 HG HQ HFl HFm2 HFi hx1 hc6 hc7 hx hy q1 q2 hp hq l8 l9 m8 m9 fp fq
          go_upto_region 20 with fail
          refine ab.region (by kernel_rfl) (by kernel_rfl) ?_
          repeat (go_big_quiet_step (fail))
          refine wpQuiet_nil ?_
          intro _ hx
          obtain ⟨u, rfl⟩ := hx
          have bu := u.h
          have d1 := ab.cell c1 hb1 u
          have d2 := ab.cell c2 hb1 u
          have d5 := ab.cell c5 hb7 u
          have d6 := ab.cell c6 hb7 u
          have kb1 : b1 < u.W.heap.size := Nat.lt_of_lt_of_le hb1 bu.size
          have kb7 : b7 < u.W.heap.size := Nat.lt_of_lt_of_le hb7 bu.size
          have blu : Below w3.heap.size w3 u.W := bl.trans (Below.mono bu bl.size)
          clear a1 a2 a3 a4 nn c1 c2 c3 c4 c5 c6 bl bu
          generalize u.W = V at *
          generalize hof : sp * hq_ - sq * hp_ = off at *
          have ob : -200000000000000 ≤ off ∧ off ≤ 200000000000000 := by omega
          have nn := ab.ne V
          have a1 := ab.cell d1 kb1
          have a2 := ab.cell d2 kb1
          have a5 := ab.cell d5 kb7
          have a6 := ab.cell d6 kb7
          generalize hmm : mo * (hp_ + hq_) = mm at *
          have v1_ : IntKind.i64.wrap (hp_ + hq_) = hp_ + hq_ := by rw [IntKind.wrap_i64]; omega
          have v2_ : IntKind.i64.wrap (mo * (hp_ + hq_)) = mm := by rw [IntKind.wrap_i64]; omega
          have v3_ : IntKind.i64.wrap (-off) = -off := by rw [IntKind.wrap_i64]; omega
          clear d1 d2 d5 d6 w1 w2' w3' hof hmm r1 r2 r3 r4 t1 t2 sb sb2
          go_upto_region 21 with fail
          cases bp
          · clear HFF
            refine ab.region (by kernel_rfl) (by kernel_rfl) ?_
            repeat (go_big_quiet_step (fail))
            refine wpQuiet_nil ?_
            intro _ hx
            obtain ⟨u2, rfl⟩ := hx
            have bl2 := blu.trans (Below.mono u2.h blu.size)
            go_wp2_with fail
            go_roundw
            case rel => exact ⟨k + 1, by go_num, by omega, bl2⟩
            case measure => simp [intOf]; omega
          cases bq
          · clear HFF
            refine ab.region (by kernel_rfl) (by kernel_rfl) ?_
            repeat (go_big_quiet_step (fail))
            refine wpQuiet_nil ?_
            intro _ hx
            obtain ⟨u2, rfl⟩ := hx
            have bl2 := blu.trans (Below.mono u2.h blu.size)
            go_wp2_with fail
            go_roundw
            case rel => exact ⟨k + 1, by go_num, by omega, bl2⟩
            case measure => simp [intOf]; omega
          have hff := HFF.out rfl rfl
          have f1_ : ¬ mm ≤ off := by omega
          have f2_ : ¬ mm ≤ -off := by omega
          clear HFF hff
          refine ab.region (by kernel_rfl) (by kernel_rfl) ?_
          repeat (go_big_quiet_step (fail))
          refine wpQuiet_nil ?_
          intro _ hx
          obtain ⟨u2, rfl⟩ := hx
          have bl2 := blu.trans (Below.mono u2.h blu.size)
          go_wp2_with fail
          go_roundw
          case rel => exact ⟨k + 1, by go_num, by omega, bl2⟩
          case measure => simp [intOf]; omega
theorem fair_walk (v : Value) (L : List Qu) (k : Int) (w : World) (h : TRd w v L) : Calls Try.prog 5 #[v, .int .i64 k] w fun e w' => e = .returned (.bool true) ∧ Below w.heap.size w w' := by
  by_cases hb : chk L ≠ 0 ∨ k < 0 ∨ 100 < k
  · exact fair_early v L k w h hb
  · obtain ⟨n, rfl⟩ : ∃ n : Nat, k = (n : Int) := ⟨k.toNat, by omega⟩
    exact fair_main v L n w h (by omega) (by omega)
end Go.Proofs.Ytbhejjpkmnldhaa.tu
