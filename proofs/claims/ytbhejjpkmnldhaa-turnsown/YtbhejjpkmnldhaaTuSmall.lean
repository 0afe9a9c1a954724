/- The small functions of package turns: what is long, wrong; is there one among them. -/
import Derived.Test.YtbhejjpkmnldhaaTuFull
namespace Go.Proofs.Ytbhejjpkmnldhaa.tu
open Go.ChangeShapes Go.WideShapes Go.ChangeAt Go.RowKit Go.BigFrame
open Go.Proofs.Ytbhejjpkmnldhaa Go.Proofs.Ytbhejjpkmnldhaa.boxes Go.Proofs.Ytbhejjpkmnldhaa.rwr
open Go.Proofs.Ytbhejjpkmnldhaa.rws (Knd Own)

theorem wsz_any (n : Int) (w : World) : Calls Try.prog 29 #[.int .i64 n] w fun e w' => e = .returned (.bool (wsz n)) ∧ w' = w := by
  unfold wsz
  by_cases h1 : n < 1
  · go_enter Try.func29, Try.ntmps29
    go_wp2_with fail
    go_ret
    exact ⟨ret_bool (by simp [h1]), rfl⟩
  · go_enter Try.func29, Try.ntmps29
    go_wp2_with fail
    go_ret
    exact ⟨ret_bool (by rw [Bool.eq_iff_iff]; simp; omega), rfl⟩
theorem any_hit {α : Type} {l : List α} {p : α → Bool} {i : Nat} {x : α} (h : l[i]? = some x) (hp : p x = true) : l.any p = true := by
  rw [List.any_eq_true]
  exact ⟨x, List.mem_of_getElem? h, hp⟩
theorem any_miss {α : Type} {l : List α} {p : α → Bool} (h : ∀ (j : Nat) x, j < l.length → l[j]? = some x → p x = false) : l.any p = false := by
  rw [List.any_eq_false]
  intro x hx
  obtain ⟨j, hj, e⟩ := List.mem_iff_getElem.1 hx
  rw [h j x hj (by rw [List.getElem?_eq_getElem hj, e])]
  decide
set_option maxHeartbeats 1000000 in
theorem idxN_any (v : Value) (l : List Int) (w : World) (h : Rd NK w v l) :
    Calls Try.prog 32 #[v, .func (.func 29) #[] #[]] w fun e w' => (∃ z : Int, e = .returned (.int .i64 z) ∧ decide (0 ≤ z) = l.any wsz) ∧ Below w.heap.size w w' := by
  have hq := rd_len h
  have CW := fun n u => wsz_any n u
  obtain ⟨sa, sc, rfl⟩ := h.form
  have HX : Hid (0 < l.length → ∃ b off, sa = some ⟨b, off, none⟩ ∧ b < w.heap.size ∧ ∀ (j : Nat) x, l[j]? = some x → w.cell? ⟨b, off + j, none⟩ = some (.int .i64 x)) := fun hp => int_cells h hp
  have HG : Hid (∀ i, i < l.length → ∃ x, l[i]? = some x) := fun i hi => ⟨l[i], List.getElem?_eq_getElem hi⟩
  have HT : Hid (∀ i x, l[i]? = some x → wsz x = true → l.any wsz = true) := fun _ _ => any_hit
  have HF : Hid ((∀ j x, j < l.length → l[j]? = some x → wsz x = false) → l.any wsz = false) := any_miss
  clear h
  generalize l.any wsz = R at *
  generalize l.length = n at *
  go_enter Try.func32, Try.ntmps32
  go_wp2_with fail
  go_loopw [5, 8] (fun s5 s8 wr => ∃ i : Nat, s8 = .int .i64 (i : Int) ∧ i ≤ n ∧ Hid (∀ j x, j < i → l[j]? = some x → wsz x = false) ∧ Below w.heap.size w wr) (fun _ s _ => n - (intOf s).toNat)
  case atStart => exact ⟨0, rfl, Nat.zero_le _, fun j x hj => absurd hj (by omega), Below.refl _ _⟩
  case round =>
    obtain ⟨i, rfl, hi, HJ, bel⟩ := hrel
    by_cases hlt : i < n
    · have hlt' : (i : Int) < (n : Int) := by omega
      obtain ⟨x, hx⟩ := HG.out i hlt
      obtain ⟨b1, o1, rfl, hb1, hx1⟩ := HX.out (by omega)
      have c1 := (bel.cell (p := ⟨b1, o1 + i, none⟩) hb1).trans (hx1 i x hx)
      have HTi : Hid (wsz x = true → R = true) := fun h => HT.out i x hx h
      have HJi : Hid (wsz x = false → ∀ j x, j < i + 1 → l[j]? = some x → wsz x = false) := fun h j y hj hy => by
        by_cases e : j = i
        · subst e; rw [hx] at hy; obtain rfl := Option.some.inj hy; exact h
        · exact HJ.out j y (by omega) hy
      clear HX HG hx1 hx HT HJ HF
      go_wp2_with fail
      refine (CW x _).mono ?_
      rintro e w1 ⟨rfl, rfl⟩
      cases hz : wsz x with
      | true =>
        have HR := show Hid _ from HTi.out hz
        clear HTi HJi hz
        go_wp2_with fail
        go_ret
        exact ⟨⟨_, rfl, by rw [HR.out]; simp⟩, bel⟩
      | false =>
        have HJ2 := show Hid _ from HJi.out hz
        clear HTi HJi hz
        go_wp2_with fail
        go_roundw
        case rel => exact ⟨i + 1, by go_num, by omega, HJ2, bel⟩
        case measure => simp [intOf]; omega
    · have hlt' : ¬ (i : Int) < (n : Int) := by omega
      have HR := show Hid _ from HF.out fun j x hj => HJ.out j x (by omega)
      clear HX HG HT HJ HF
      go_wp2_with fail
      go_ret
      exact ⟨⟨_, rfl, by rw [HR.out]; decide⟩, bel⟩
theorem anyN_any (v : Value) (l : List Int) (w : World) (h : Rd NK w v l) :
    Calls Try.prog 31 #[v, .func (.func 29) #[] #[]] w fun e w' => e = .returned (.bool (l.any wsz)) ∧ Below w.heap.size w w' := by
  have C := idxN_any v l w h
  obtain ⟨sa, sc, rfl⟩ := h.form
  clear h
  generalize l.any wsz = R at *
  generalize l.length = n at *
  go_enter Try.func31, Try.ntmps31
  go_wp2_with fail
  refine C.mono ?_
  rintro e w1 ⟨⟨z, rfl, hz⟩, bel⟩
  have HZ : Hid (decide (0 ≤ z) = R) := hz
  clear C hz
  go_wp2_with fail
  go_ret
  exact ⟨ret_bool (by rw [← HZ.out]), bel⟩
theorem long_any (x : Qv) (q : Qu) (w : World) (_h1 : x.sh = q.sh) (_h2 : x.sv = q.sv) (h : Rd NK w x.sl q.l) :
    Calls Try.prog 24 #[.agg (Qv.cells x)] w fun e w' => e = .returned (.bool (long q)) ∧ Below w.heap.size w w' := by
  have b1 := (Below.refl w.heap.size w).alloc (Nat.le_refl _) (.cells (Qv.cells x) 41)
  obtain ⟨sh, sv, sa, sn, sc⟩ := x
  have hm := rd_len h
  have hn : sn = q.l.length := rd_n h
  subst hn
  clear h _h1 _h2
  unfold long
  generalize q.l.length = n at *
  go_enter Try.func24, Try.ntmps24
  go_wp2_with fail
  go_ret
  exact ⟨ret_bool (by rw [Bool.eq_iff_iff]; simp; omega), b1⟩
theorem wnum_any (x : Qv) (q : Qu) (w : World) (h1 : x.sh = q.sh) (_h2 : x.sv = q.sv) (h : Rd NK w x.sl q.l) :
    Calls Try.prog 25 #[.agg (Qv.cells x)] w fun e w' => e = .returned (.bool (wnum q)) ∧ Below w.heap.size w w' := by
  have b1 := (Below.refl w.heap.size w).alloc (Nat.le_refl _) (.cells (Qv.cells x) 41)
  have C := anyN_any x.sl q.l (w.alloc (.cells (Qv.cells x) 41)) (h.below b1)
  unfold wnum
  rw [← h1]
  obtain ⟨sh, sv, sa, sn, sc⟩ := x
  clear h h1 _h2
  generalize q.l.any wsz = R at *
  dsimp only at *
  by_cases e1 : sh < 1
  · go_enter Try.func25, Try.ntmps25
    go_wp2_with fail
    go_ret
    exact ⟨ret_bool (by simp [e1]), b1⟩
  · by_cases e2 : 1000000 < sh
    · go_enter Try.func25, Try.ntmps25
      go_wp2_with fail
      go_ret
      exact ⟨ret_bool (by simp), b1⟩
    · go_enter Try.func25, Try.ntmps25
      go_wp2_with fail
      refine C.mono ?_
      rintro e w1 ⟨rfl, z⟩
      have b2 := b1.trans (z.mono b1.size)
      clear C z b1
      go_wp2_with fail
      go_ret
      exact ⟨ret_bool (by rw [Bool.eq_iff_iff]; simp; intro; omega), b2⟩
set_option maxRecDepth 20000 in
theorem wsv_any (x : Qv) (q : Qu) (w : World) (_h1 : x.sh = q.sh) (h2 : x.sv = q.sv) (h : Rd NK w x.sl q.l) :
    Calls Try.prog 26 #[.agg (Qv.cells x)] w fun e w' => e = .returned (.bool (wsv q)) ∧ Below w.heap.size w w' := by
  have b1 := (Below.refl w.heap.size w).alloc (Nat.le_refl _) (.cells (Qv.cells x) 41)
  have F0 := Blk.new w (Qv.cells x) 41
  have h3 := h.below b1
  have hm := rd_len h
  obtain ⟨sh, sv, sa, sn, sc⟩ := x
  have hn : sn = q.l.length := rd_n h
  unfold wsv
  dsimp only [Qv.cells, Qv.sl] at *
  rw [← h2]
  clear h _h1 h2
  cases hl : q.l with
  | nil =>
    rw [hl] at hn
    clear h3 hm hl
    subst hn
    go_enter Try.func26, Try.ntmps26
    go_wp2_with fail
    go_ret
    exact ⟨ret_bool (by rw [Bool.eq_iff_iff]; simp), b1⟩
  | cons y r =>
    rw [hl] at hn h3 hm
    clear hl
    obtain ⟨b, off, rfl, hb, hc⟩ := int_cells h3 (by simp)
    have c1 := hc 0 y rfl
    rw [Nat.add_zero] at c1
    have hn0 : 0 < sn := by rw [hn]; simp
    have hm2 : sn ≤ 9223372036854775807 := by rw [hn]; exact hm
    have e0 : ¬ (sn : Int) = 0 := by omega
    have e00 : (0 : Int) < (sn : Int) := by omega
    clear h3 hm hc hn
    by_cases e1 : sv < 0
    · go_enter Try.func26, Try.ntmps26
      go_upto_region 3 with fail
      generalize hW : w.alloc (Obj.cells (QC sh sv (.slice (some ⟨b, off, none⟩) sn sc)) 41) = W at *
      clear hW
      have nn := ab.ne W
      have a1 := ab.cell c1 hb
      have aF := ab.cells F0
      refine ab.region (by kernel_rfl) (by kernel_rfl) ?_
      repeat (go_big_quiet_step (fail))
      refine wpQuiet_nil ?_
      intro _ hx
      obtain ⟨u, rfl⟩ := hx
      have b2 := b1.trans (Below.mono u.h b1.size)
      go_wp2_with fail
      go_ret
      exact ⟨ret_bool (by simp [e1]), b2⟩
    · go_enter Try.func26, Try.ntmps26
      go_upto_region 3 with fail
      generalize hW : w.alloc (Obj.cells (QC sh sv (.slice (some ⟨b, off, none⟩) sn sc)) 41) = W at *
      clear hW
      have nn := ab.ne W
      have a1 := ab.cell c1 hb
      have aF := ab.cells F0
      refine ab.region (by kernel_rfl) (by kernel_rfl) ?_
      repeat (go_big_quiet_step (fail))
      refine wpQuiet_nil ?_
      intro _ hx
      obtain ⟨u, rfl⟩ := hx
      have b2 := b1.trans (Below.mono u.h b1.size)
      go_wp2_with fail
      go_ret
      exact ⟨ret_bool (by rw [Bool.eq_iff_iff]; simp; omega), b2⟩
set_option maxHeartbeats 1000000 in
set_option maxRecDepth 20000 in
theorem idx_long (v : Value) (L : List Qu) (w : World) (h : TRd w v L) :
    Calls Try.prog 30 #[v, .func (.func 24) #[] #[]] w fun e w' => (∃ z : Int, e = .returned (.int .i64 z) ∧ decide (0 ≤ z) = L.any long) ∧ Below w.heap.size w w' := by
  have hq := h.len
  have CW := fun x q u (h1 : x.sh = q.sh) (h2 : x.sv = q.sv) h3 => long_any x q u h1 h2 h3
  obtain ⟨X, hr, hl, hX⟩ := h
  obtain ⟨sa, sc, rfl⟩ := hr.form
  have HX : Hid (0 < X.length → ∃ b off, sa = some ⟨b, off, none⟩ ∧ b < w.heap.size ∧ ∀ j x, X[j]? = some x → ∀ i, i < QK.k → w.cell? ⟨b, off + j * QK.k + i, none⟩ = (QK.enc x)[i]?) := fun hp => rd_spot hr hp
  have HG : Hid (∀ i, i < X.length → ∃ x q, X[i]? = some x ∧ L[i]? = some q ∧ x.sh = q.sh ∧ x.sv = q.sv ∧ Rd NK w x.sl q.l) := fun i hi => by
    refine ⟨X[i], L[i]'(by omega), List.getElem?_eq_getElem hi, List.getElem?_eq_getElem _, hX i _ _ (List.getElem?_eq_getElem hi) (List.getElem?_eq_getElem _)⟩
  have HT : Hid (∀ i x, L[i]? = some x → long x = true → L.any long = true) := fun _ _ => any_hit
  have HF : Hid ((∀ j x, j < X.length → L[j]? = some x → long x = false) → L.any long = false) := by rw [hl]; exact any_miss
  have hq' : X.length ≤ 9223372036854775807 := by rw [hl]; exact hq
  clear hr hX hq hl
  generalize L.any long = R at *
  generalize X.length = n at *
  go_enter Try.func30, Try.ntmps30
  go_wp2_with fail
  go_loopw [5, 8] (fun s5 s8 wr => ∃ i : Nat, s8 = .int .i64 (i : Int) ∧ i ≤ n ∧ Hid (∀ j x, j < i → L[j]? = some x → long x = false) ∧ Below w.heap.size w wr) (fun _ s _ => n - (intOf s).toNat)
  case atStart => exact ⟨0, rfl, Nat.zero_le _, fun j x hj => absurd hj (by omega), Below.refl _ _⟩
  case round =>
    obtain ⟨i, rfl, hi, HJ, bel⟩ := hrel
    by_cases hlt : i < n
    · have hlt' : (i : Int) < (n : Int) := by omega
      obtain ⟨x, q, hx, hq, q1, q2, rdx⟩ := HG.out i hlt
      obtain ⟨b1, o1, rfl, hb1, hx1⟩ := HX.out (by omega)
      have z1 : ∀ (j : Nat) x, X[j]? = some x → ∀ i, i < QK.k → wr.cell? ⟨b1, o1 + j * QK.k + i, none⟩ = (QK.enc x)[i]? := fun j y hj i hi => (bel.cell (p := ⟨b1, o1 + j * QK.k + i, none⟩) hb1).trans (hx1 j y hj i hi)
      have C := CW x q wr q1 q2 (rdx.below bel)
      have HTi : Hid (long q = true → R = true) := fun h => HT.out i q hq h
      have HJi : Hid (long q = false → ∀ j x, j < i + 1 → L[j]? = some x → long x = false) := fun h j y hj hy => by
        by_cases e : j = i
        · subst e; rw [hq] at hy; obtain rfl := Option.some.inj hy; exact h
        · exact HJ.out j y (by omega) hy
      clear HX HG hx1 hq HT HJ HF CW q1 q2 rdx
      obtain ⟨sh, sv, xa, xn, xc⟩ := x
      go_wp2_with (refine rd_load QK _ rfl _ rfl b1 o1 X z1 i _ rfl rfl _ hx (Qv.cells ⟨sh, sv, xa, xn, xc⟩) rfl _ Try.underlying41 rfl ?_)
      refine C.mono ?_
      rintro e w1 ⟨rfl, z⟩
      have bel2 := bel.trans (z.mono bel.size)
      clear z C z1 hx bel
      cases hz : long q with
      | true =>
        have HR := show Hid _ from HTi.out hz
        clear HTi HJi hz
        go_wp2_with fail
        go_ret
        exact ⟨⟨_, rfl, by rw [HR.out]; simp⟩, bel2⟩
      | false =>
        have HJ2 := show Hid _ from HJi.out hz
        clear HTi HJi hz
        go_wp2_with fail
        go_roundw
        case rel => exact ⟨i + 1, by go_num, by omega, HJ2, bel2⟩
        case measure => simp [intOf]; omega
    · have hlt' : ¬ (i : Int) < (n : Int) := by omega
      have HR := show Hid _ from HF.out fun j x hj => HJ.out j x (by omega)
      clear HX HG HT HJ HF CW
      go_wp2_with fail
      go_ret
      exact ⟨⟨_, rfl, by rw [HR.out]; decide⟩, bel⟩
theorem any_long (v : Value) (L : List Qu) (w : World) (h : TRd w v L) :
    Calls Try.prog 23 #[v, .func (.func 24) #[] #[]] w fun e w' => e = .returned (.bool (L.any long)) ∧ Below w.heap.size w w' := by
  have C := idx_long v L w h
  obtain ⟨sa, sc, rfl⟩ := h.form
  clear h
  generalize L.any long = R at *
  generalize L.length = n at *
  go_enter Try.func23, Try.ntmps23
  go_wp2_with fail
  refine C.mono ?_
  rintro e w1 ⟨⟨z, rfl, hz⟩, bel⟩
  have HZ : Hid (decide (0 ≤ z) = R) := hz
  clear C hz
  go_wp2_with fail
  go_ret
  exact ⟨ret_bool (by rw [← HZ.out]), bel⟩
set_option maxHeartbeats 1000000 in
set_option maxRecDepth 20000 in
theorem idx_wnum (v : Value) (L : List Qu) (w : World) (h : TRd w v L) :
    Calls Try.prog 30 #[v, .func (.func 25) #[] #[]] w fun e w' => (∃ z : Int, e = .returned (.int .i64 z) ∧ decide (0 ≤ z) = L.any wnum) ∧ Below w.heap.size w w' := by
  have hq := h.len
  have CW := fun x q u (h1 : x.sh = q.sh) (h2 : x.sv = q.sv) h3 => wnum_any x q u h1 h2 h3
  obtain ⟨X, hr, hl, hX⟩ := h
  obtain ⟨sa, sc, rfl⟩ := hr.form
  have HX : Hid (0 < X.length → ∃ b off, sa = some ⟨b, off, none⟩ ∧ b < w.heap.size ∧ ∀ j x, X[j]? = some x → ∀ i, i < QK.k → w.cell? ⟨b, off + j * QK.k + i, none⟩ = (QK.enc x)[i]?) := fun hp => rd_spot hr hp
  have HG : Hid (∀ i, i < X.length → ∃ x q, X[i]? = some x ∧ L[i]? = some q ∧ x.sh = q.sh ∧ x.sv = q.sv ∧ Rd NK w x.sl q.l) := fun i hi => by
    refine ⟨X[i], L[i]'(by omega), List.getElem?_eq_getElem hi, List.getElem?_eq_getElem _, hX i _ _ (List.getElem?_eq_getElem hi) (List.getElem?_eq_getElem _)⟩
  have HT : Hid (∀ i x, L[i]? = some x → wnum x = true → L.any wnum = true) := fun _ _ => any_hit
  have HF : Hid ((∀ j x, j < X.length → L[j]? = some x → wnum x = false) → L.any wnum = false) := by rw [hl]; exact any_miss
  have hq' : X.length ≤ 9223372036854775807 := by rw [hl]; exact hq
  clear hr hX hq hl
  generalize L.any wnum = R at *
  generalize X.length = n at *
  go_enter Try.func30, Try.ntmps30
  go_wp2_with fail
  go_loopw [5, 8] (fun s5 s8 wr => ∃ i : Nat, s8 = .int .i64 (i : Int) ∧ i ≤ n ∧ Hid (∀ j x, j < i → L[j]? = some x → wnum x = false) ∧ Below w.heap.size w wr) (fun _ s _ => n - (intOf s).toNat)
  case atStart => exact ⟨0, rfl, Nat.zero_le _, fun j x hj => absurd hj (by omega), Below.refl _ _⟩
  case round =>
    obtain ⟨i, rfl, hi, HJ, bel⟩ := hrel
    by_cases hlt : i < n
    · have hlt' : (i : Int) < (n : Int) := by omega
      obtain ⟨x, q, hx, hq, q1, q2, rdx⟩ := HG.out i hlt
      obtain ⟨b1, o1, rfl, hb1, hx1⟩ := HX.out (by omega)
      have z1 : ∀ (j : Nat) x, X[j]? = some x → ∀ i, i < QK.k → wr.cell? ⟨b1, o1 + j * QK.k + i, none⟩ = (QK.enc x)[i]? := fun j y hj i hi => (bel.cell (p := ⟨b1, o1 + j * QK.k + i, none⟩) hb1).trans (hx1 j y hj i hi)
      have C := CW x q wr q1 q2 (rdx.below bel)
      have HTi : Hid (wnum q = true → R = true) := fun h => HT.out i q hq h
      have HJi : Hid (wnum q = false → ∀ j x, j < i + 1 → L[j]? = some x → wnum x = false) := fun h j y hj hy => by
        by_cases e : j = i
        · subst e; rw [hq] at hy; obtain rfl := Option.some.inj hy; exact h
        · exact HJ.out j y (by omega) hy
      clear HX HG hx1 hq HT HJ HF CW q1 q2 rdx
      obtain ⟨sh, sv, xa, xn, xc⟩ := x
      go_wp2_with (refine rd_load QK _ rfl _ rfl b1 o1 X z1 i _ rfl rfl _ hx (Qv.cells ⟨sh, sv, xa, xn, xc⟩) rfl _ Try.underlying41 rfl ?_)
      refine C.mono ?_
      rintro e w1 ⟨rfl, z⟩
      have bel2 := bel.trans (z.mono bel.size)
      clear z C z1 hx bel
      cases hz : wnum q with
      | true =>
        have HR := show Hid _ from HTi.out hz
        clear HTi HJi hz
        go_wp2_with fail
        go_ret
        exact ⟨⟨_, rfl, by rw [HR.out]; simp⟩, bel2⟩
      | false =>
        have HJ2 := show Hid _ from HJi.out hz
        clear HTi HJi hz
        go_wp2_with fail
        go_roundw
        case rel => exact ⟨i + 1, by go_num, by omega, HJ2, bel2⟩
        case measure => simp [intOf]; omega
    · have hlt' : ¬ (i : Int) < (n : Int) := by omega
      have HR := show Hid _ from HF.out fun j x hj => HJ.out j x (by omega)
      clear HX HG HT HJ HF CW
      go_wp2_with fail
      go_ret
      exact ⟨⟨_, rfl, by rw [HR.out]; decide⟩, bel⟩
theorem any_wnum (v : Value) (L : List Qu) (w : World) (h : TRd w v L) :
    Calls Try.prog 23 #[v, .func (.func 25) #[] #[]] w fun e w' => e = .returned (.bool (L.any wnum)) ∧ Below w.heap.size w w' := by
  have C := idx_wnum v L w h
  obtain ⟨sa, sc, rfl⟩ := h.form
  clear h
  generalize L.any wnum = R at *
  generalize L.length = n at *
  go_enter Try.func23, Try.ntmps23
  go_wp2_with fail
  refine C.mono ?_
  rintro e w1 ⟨⟨z, rfl, hz⟩, bel⟩
  have HZ : Hid (decide (0 ≤ z) = R) := hz
  clear C hz
  go_wp2_with fail
  go_ret
  exact ⟨ret_bool (by rw [← HZ.out]), bel⟩
set_option maxHeartbeats 1000000 in
set_option maxRecDepth 20000 in
theorem idx_wsv (v : Value) (L : List Qu) (w : World) (h : TRd w v L) :
    Calls Try.prog 30 #[v, .func (.func 26) #[] #[]] w fun e w' => (∃ z : Int, e = .returned (.int .i64 z) ∧ decide (0 ≤ z) = L.any wsv) ∧ Below w.heap.size w w' := by
  have hq := h.len
  have CW := fun x q u (h1 : x.sh = q.sh) (h2 : x.sv = q.sv) h3 => wsv_any x q u h1 h2 h3
  obtain ⟨X, hr, hl, hX⟩ := h
  obtain ⟨sa, sc, rfl⟩ := hr.form
  have HX : Hid (0 < X.length → ∃ b off, sa = some ⟨b, off, none⟩ ∧ b < w.heap.size ∧ ∀ j x, X[j]? = some x → ∀ i, i < QK.k → w.cell? ⟨b, off + j * QK.k + i, none⟩ = (QK.enc x)[i]?) := fun hp => rd_spot hr hp
  have HG : Hid (∀ i, i < X.length → ∃ x q, X[i]? = some x ∧ L[i]? = some q ∧ x.sh = q.sh ∧ x.sv = q.sv ∧ Rd NK w x.sl q.l) := fun i hi => by
    refine ⟨X[i], L[i]'(by omega), List.getElem?_eq_getElem hi, List.getElem?_eq_getElem _, hX i _ _ (List.getElem?_eq_getElem hi) (List.getElem?_eq_getElem _)⟩
  have HT : Hid (∀ i x, L[i]? = some x → wsv x = true → L.any wsv = true) := fun _ _ => any_hit
  have HF : Hid ((∀ j x, j < X.length → L[j]? = some x → wsv x = false) → L.any wsv = false) := by rw [hl]; exact any_miss
  have hq' : X.length ≤ 9223372036854775807 := by rw [hl]; exact hq
  clear hr hX hq hl
  generalize L.any wsv = R at *
  generalize X.length = n at *
  go_enter Try.func30, Try.ntmps30
  go_wp2_with fail
  go_loopw [5, 8] (fun s5 s8 wr => ∃ i : Nat, s8 = .int .i64 (i : Int) ∧ i ≤ n ∧ Hid (∀ j x, j < i → L[j]? = some x → wsv x = false) ∧ Below w.heap.size w wr) (fun _ s _ => n - (intOf s).toNat)
  case atStart => exact ⟨0, rfl, Nat.zero_le _, fun j x hj => absurd hj (by omega), Below.refl _ _⟩
  case round =>
    obtain ⟨i, rfl, hi, HJ, bel⟩ := hrel
    by_cases hlt : i < n
    · have hlt' : (i : Int) < (n : Int) := by omega
      obtain ⟨x, q, hx, hq, q1, q2, rdx⟩ := HG.out i hlt
      obtain ⟨b1, o1, rfl, hb1, hx1⟩ := HX.out (by omega)
      have z1 : ∀ (j : Nat) x, X[j]? = some x → ∀ i, i < QK.k → wr.cell? ⟨b1, o1 + j * QK.k + i, none⟩ = (QK.enc x)[i]? := fun j y hj i hi => (bel.cell (p := ⟨b1, o1 + j * QK.k + i, none⟩) hb1).trans (hx1 j y hj i hi)
      have C := CW x q wr q1 q2 (rdx.below bel)
      have HTi : Hid (wsv q = true → R = true) := fun h => HT.out i q hq h
      have HJi : Hid (wsv q = false → ∀ j x, j < i + 1 → L[j]? = some x → wsv x = false) := fun h j y hj hy => by
        by_cases e : j = i
        · subst e; rw [hq] at hy; obtain rfl := Option.some.inj hy; exact h
        · exact HJ.out j y (by omega) hy
      clear HX HG hx1 hq HT HJ HF CW q1 q2 rdx
      obtain ⟨sh, sv, xa, xn, xc⟩ := x
      go_wp2_with (refine rd_load QK _ rfl _ rfl b1 o1 X z1 i _ rfl rfl _ hx (Qv.cells ⟨sh, sv, xa, xn, xc⟩) rfl _ Try.underlying41 rfl ?_)
      refine C.mono ?_
      rintro e w1 ⟨rfl, z⟩
      have bel2 := bel.trans (z.mono bel.size)
      clear z C z1 hx bel
      cases hz : wsv q with
      | true =>
        have HR := show Hid _ from HTi.out hz
        clear HTi HJi hz
        go_wp2_with fail
        go_ret
        exact ⟨⟨_, rfl, by rw [HR.out]; simp⟩, bel2⟩
      | false =>
        have HJ2 := show Hid _ from HJi.out hz
        clear HTi HJi hz
        go_wp2_with fail
        go_roundw
        case rel => exact ⟨i + 1, by go_num, by omega, HJ2, bel2⟩
        case measure => simp [intOf]; omega
    · have hlt' : ¬ (i : Int) < (n : Int) := by omega
      have HR := show Hid _ from HF.out fun j x hj => HJ.out j x (by omega)
      clear HX HG HT HJ HF CW
      go_wp2_with fail
      go_ret
      exact ⟨⟨_, rfl, by rw [HR.out]; decide⟩, bel⟩
theorem any_wsv (v : Value) (L : List Qu) (w : World) (h : TRd w v L) :
    Calls Try.prog 23 #[v, .func (.func 26) #[] #[]] w fun e w' => e = .returned (.bool (L.any wsv)) ∧ Below w.heap.size w w' := by
  have C := idx_wsv v L w h
  obtain ⟨sa, sc, rfl⟩ := h.form
  clear h
  generalize L.any wsv = R at *
  generalize L.length = n at *
  go_enter Try.func23, Try.ntmps23
  go_wp2_with fail
  refine C.mono ?_
  rintro e w1 ⟨⟨z, rfl, hz⟩, bel⟩
  have HZ : Hid (decide (0 ≤ z) = R) := hz
  clear C hz
  go_wp2_with fail
  go_ret
  exact ⟨ret_bool (by rw [← HZ.out]), bel⟩
set_option maxRecDepth 20000 in
theorem check_any (v : Value) (L : List Qu) (w : World) (h : TRd w v L) :
    Calls Try.prog 11 #[v] w fun e w' => e = .returned (.int .i64 (chk L)) ∧ Below w.heap.size w w' := by
  have hq := h.len
  have C1 := fun u hu => any_long v L u hu
  have C2 := fun u hu => any_wnum v L u hu
  have C3 := fun u hu => any_wsv v L u hu
  obtain ⟨sa, sc, rfl⟩ := h.form
  unfold chk big
  generalize L.any long = p1 at *
  generalize L.any wnum = p2 at *
  generalize L.any wsv = p3 at *
  generalize L.length = n at *
  generalize hT : (if (decide (16 < n) || p1) = true then (2 : Int) else if p2 = true then 1 else if p3 = true then 4 else 0) = T at *
  have HT : Hid ((if (decide (16 < n) || p1) = true then (2 : Int) else if p2 = true then 1 else if p3 = true then 4 else 0) = T) := hT
  clear hT
  have b0 := Below.refl w.heap.size w
  by_cases e1 : 16 < n
  · have e1' : (16 : Int) < (n : Int) := by omega
    clear C1 C2 C3 h
    go_enter Try.func11, Try.ntmps11
    go_wp2_with fail
    go_ret
    exact ⟨ret_int (by rw [← HT.out]; simp [e1]), b0⟩
  · have e1' : ¬ (16 : Int) < (n : Int) := by omega
    have C := C1 w h
    go_enter Try.func11, Try.ntmps11
    go_wp2_with fail
    refine C.mono ?_
    rintro e w1 ⟨rfl, z1⟩
    clear C C1
    replace h := h.below z1
    replace b0 := b0.trans (z1.mono b0.size)
    clear z1
    cases p1
    rotate_left
    · clear C2 C3
      go_wp2_with fail
      go_ret
      exact ⟨ret_int (by rw [← HT.out]; simp), b0⟩
    have C := C2 w1 h
    clear C2
    go_wp2_with fail
    refine C.mono ?_
    rintro e w2 ⟨rfl, z1⟩
    clear C
    replace h := h.below z1
    replace b0 := b0.trans (z1.mono b0.size)
    clear z1
    cases p2
    rotate_left
    · clear C3
      go_wp2_with fail
      go_ret
      exact ⟨ret_int (by rw [← HT.out]; simp [e1]), b0⟩
    have C := C3 w2 h
    clear C3
    go_wp2_with fail
    refine C.mono ?_
    rintro e w3 ⟨rfl, z1⟩
    clear C
    replace b0 := b0.trans (z1.mono b0.size)
    clear z1
    cases p3
    all_goals
      go_wp2_with fail
      go_ret
      exact ⟨ret_int (by rw [← HT.out]; simp [e1]), b0⟩
end Go.Proofs.Ytbhejjpkmnldhaa.tu
