/- prefix.behind, Check: what they answer. -/
import Derived.Test.YtiddpkppfpdfhaaPfSmall
namespace Go.Proofs.Ytiddpkppfpdfhaa.pf
open Go.ChangeShapes Go.WideShapes Go.ChangeAt Go.RowKit Go.BigFrame
open Go.Proofs.Ytiddpkppfpdfhaa Go.Proofs.Ytiddpkppfpdfhaa.pm Go.Proofs.Ytiddpkppfpdfhaa.boxes Go.Proofs.Ytiddpkppfpdfhaa.rwr
open Go.Proofs.Ytiddpkppfpdfhaa.rws (Knd Own)

theorem idx0 (a b : Int) (u : World) : (Instr.index 55 (.agg #[.int .i64 a, .int .i64 b]) (.int .i64 0)).run Try.prog u = .ok (.int .i64 a) u := by
  simp [Instr.index, run_underlying Try.underlying55, asIntOf, go_sem]
theorem idx1 (a b : Int) (u : World) : (Instr.index 55 (.agg #[.int .i64 a, .int .i64 b]) (.int .i64 1)).run Try.prog u = .ok (.int .i64 b) u := by
  simp [Instr.index, run_underlying Try.underlying55, asIntOf, go_sem]
/-- the four cells of a node -/
theorem nd_cells {w : World} {b off : Nat} {l : List Nd} (hx : ∀ j x, l[j]? = some x → ∀ i, i < DK.k → w.cell? ⟨b, off + j * DK.k + i, none⟩ = (DK.enc x)[i]?) {i : Nat} {xa xb : Int} {xs : Bool} {xv : Int} (hi : l[i]? = some ⟨xa, xb, xs, xv⟩) :
    w.cell? ⟨b, off + i * 4, none⟩ = some (.int .i64 xa) ∧ w.cell? ⟨b, off + i * 4 + 1, none⟩ = some (.int .i64 xb) ∧ w.cell? ⟨b, off + i * 4 + 2, none⟩ = some (.bool xs) ∧ w.cell? ⟨b, off + i * 4 + 3, none⟩ = some (.int .i64 xv) :=
  ⟨hx i _ hi 0 (by decide), hx i _ hi 1 (by decide), hx i _ hi 2 (by decide), hx i _ hi 3 (by decide)⟩
def cont (f : Nat → Nat) (L : Nat) (a b : Int) : Nat → Nat → Nat
  | 0, E => if bst f L E a = 0 then 0 else bst f L (bst f L E a) b
  | 1, E => bst f L E b
  | _, E => E
theorem cont0 (f : Nat → Nat) (L : Nat) (a b : Int) (E : Nat) : cont f L a b 0 E = if bst f L E a = 0 then 0 else cont f L a b 1 (bst f L E a) := rfl
theorem cont1 (f : Nat → Nat) (L : Nat) (a b : Int) (E : Nat) : cont f L a b 1 E = if bst f L E b = 0 then 0 else cont f L a b 2 (bst f L E b) := by
  show bst f L E b = if bst f L E b = 0 then 0 else bst f L E b
  split
  · assumption
  · rfl
theorem bh_le (ns : List Nd) (f i : Nat) : bh ns f i ≤ ns.length := by
  by_cases h : bh ns f i = 0
  · omega
  · obtain ⟨t, t1, _, _, t4, t5⟩ := bh_sound ns f i _ rfl h
    have := seg_le t ns i t4 t1
    omega
set_option maxHeartbeats 4000000 in
set_option maxRecDepth 20000 in
theorem behind_any (v : Value) (ns : List Nd) (hm : ns.length ≤ 1000000) : ∀ (f i k : Nat) (w : World), Rd DK w v ns → i < ns.length → f + k = 33 →
    Calls Try.prog 39 #[v, .int .i64 (i : Int), .int .i64 (k : Int)] w fun e w' => e = .returned (.int .i64 (bh ns f i : Nat)) ∧ Below w.heap.size w w' := by
  intro f
  induction f with
  | zero =>
    intro i k w h hi hk
    obtain rfl : k = 33 := by omega
    have e : bh ns 0 i = 0 := rfl
    rw [e]
    go_enter Try.func39, Try.ntmps39
    go_wp2_with fail
    go_ret
    exact ⟨rfl, Below.refl _ _⟩
  | succ f ih =>
    intro i k w h hi hk
    obtain ⟨x, hx⟩ : ∃ x, ns[i]? = some x := ⟨_, List.getElem?_eq_getElem hi⟩
    obtain ⟨xa, xb, xs, xv⟩ := x
    have HB : Hid (bh ns (f + 1) i = if okN ⟨xa, xb, xs, xv⟩ then cont (bh ns f) ns.length xa xb 0 (i + 1) else 0) := by
      show _ = _; rw [bh_some hx]; rfl
    obtain ⟨sa, sc, rfl⟩ := h.form
    have IH : Hid (∀ (i : Nat) (W : World), Below w.heap.size w W → i < ns.length → Calls Try.prog 39 #[.slice sa ns.length sc, .int .i64 (i : Int), .int .i64 ((k + 1 : Nat) : Int)] W fun e w' => e = .returned (.int .i64 (bh ns f i : Nat)) ∧ Below W.heap.size W w') :=
      fun i W hb hi => ih i (k + 1) W (h.below hb) hi (by omega)
    obtain ⟨b, off, rfl, hb, hc⟩ := rd_spot h (by omega)
    obtain ⟨c0, c1, c2, c3⟩ := nd_cells hc hx
    have CR := isRight_any xa xb xs xv
    clear h ih hc hx
    obtain ⟨R, hR⟩ : ∃ R, R = bh ns (f + 1) i := ⟨_, rfl⟩
    rw [← hR] at HB ⊢
    clear hR
    have HL : Hid (∀ i, bh ns f i ≤ ns.length) := fun i => bh_le ns f i
    obtain ⟨BF, hBF⟩ : ∃ BF, BF = bh ns f := ⟨_, rfl⟩
    rw [← hBF] at HB IH HL
    clear hBF
    generalize ns.length = n at *
    have hk32 : ¬ (32 : Int) < (k : Int) := by omega
    by_cases ho : okN ⟨xa, xb, xs, xv⟩
    · rw [decide_eq_true ho] at CR
      have HB : Hid (R = cont BF n xa xb 0 (i + 1)) := by show _ = _; rw [HB.out, if_pos ho]
      clear ho
      go_enter Try.func39, Try.ntmps39
      go_wp2_with fail
      refine (CR _).mono ?_
      rintro e w1 ⟨rfl, z1⟩
      have c0 := (z1.cell (p := ⟨b, off + i * 4, none⟩) hb).trans c0
      have c1 := (z1.cell (p := ⟨b, off + i * 4 + 1, none⟩) hb).trans c1
      clear CR
      go_wp2_with fail
      have x0 := idx0 xa xb
      have x1 := idx1 xa xb
      go_loopw [7, 27] (fun s7 s27 wr => ∃ E : Nat, s7 = .int .i64 (E : Int) ∧ E ≠ 0 ∧ E ≤ 1000001 ∧ Below w.heap.size w wr ∧ ((s27 = .int .i64 0 ∧ Hid (R = cont BF n xa xb 0 E)) ∨ (s27 = .int .i64 1 ∧ Hid (R = cont BF n xa xb 1 E)) ∨ (s27 = .int .i64 2 ∧ Hid (R = E)))) (fun _ s _ => 2 - (intOf s).toNat)
      case atStart => exact ⟨i + 1, by go_num, by omega, by omega, z1, Or.inl ⟨rfl, HB⟩⟩
      case round =>
        obtain ⟨E, rfl, hE, hE2, bel, hj⟩ := hrel
        rcases hj with ⟨rfl, HJ⟩ | ⟨rfl, HJ⟩ | ⟨rfl, HJ⟩
        · have HS : Hid (∀ X, bst BF n E xa = X → R = if X = 0 then 0 else cont BF n xa xb 1 X) := fun X hX => by rw [HJ.out, ← hX]; exact cont0 _ _ _ _ _
          clear HJ
          by_cases q0 : xa = 0
          · subst q0
            have HR : Hid (R = cont BF n 0 xb 1 E) := by show _ = _; rw [HS.out E (by simp [bst]), if_neg hE]
            clear HS
            go_wp2_with fail
            go_roundw
            case rel => exact ⟨E, rfl, hE, hE2, bel, Or.inr (Or.inl ⟨rfl, HR⟩)⟩
            case measure => simp [intOf]
          by_cases q1 : xa = (E : Int)
          · subst q1
            by_cases q2 : n ≤ E
            · have HR : Hid (R = 0) := by show _ = _; rw [HS.out 0 (by unfold bst; rw [if_neg q0, if_pos (Or.inr (by omega))]), if_pos rfl]
              clear HS
              go_wp2_with fail
              go_ret
              exact ⟨ret_int (by rw [HR.out]; rfl), bel⟩
            · have HS' : Hid (R = if BF E = 0 then 0 else cont BF n (E : Int) xb 1 (BF E)) := by show _ = _; exact HS.out _ (by unfold bst; rw [if_neg q0, if_neg (by omega)])
              have CI := IH.out E wr bel (by omega)
              have hB := HL.out E
              clear HS
              have q2' : decide (n ≤ E) = false := decide_eq_false q2
              generalize BF E = E2 at *
              by_cases q3 : E2 = 0
              · subst q3
                have HR : Hid (R = 0) := by show _ = _; rw [HS'.out, if_pos rfl]
                clear HS'
                go_wp2_with fail
                refine CI.mono ?_
                rintro e w2 ⟨rfl, z2⟩
                have bel2 := bel.trans (z2.mono bel.size)
                go_wp2_with fail
                go_ret
                exact ⟨ret_int (by rw [HR.out]; rfl), bel2⟩
              · have HR : Hid (R = cont BF n (E : Int) xb 1 E2) := by show _ = _; rw [HS'.out, if_neg q3]
                clear HS'
                go_wp2_with fail
                refine CI.mono ?_
                rintro e w2 ⟨rfl, z2⟩
                have bel2 := bel.trans (z2.mono bel.size)
                go_wp2_with fail
                go_roundw
                case rel => exact ⟨E2, rfl, q3, by omega, bel2, Or.inr (Or.inl ⟨rfl, HR⟩)⟩
                case measure => simp [intOf]
          · have HR : Hid (R = 0) := by show _ = _; rw [HS.out 0 (by unfold bst; rw [if_neg q0, if_pos (Or.inl q1)]), if_pos rfl]
            clear HS
            have q1' : (xa != (E : Int)) = true := by simpa using q1
            go_wp2_with fail
            go_ret
            exact ⟨ret_int (by rw [HR.out]; rfl), bel⟩
        · have HS : Hid (∀ X, bst BF n E xb = X → R = if X = 0 then 0 else cont BF n xa xb 2 X) := fun X hX => by rw [HJ.out, ← hX]; exact cont1 _ _ _ _ _
          clear HJ
          by_cases q0 : xb = 0
          · subst q0
            have HR : Hid (R = cont BF n xa 0 2 E) := by show _ = _; rw [HS.out E (by simp [bst]), if_neg hE]
            clear HS
            go_wp2_with fail
            go_roundw
            case rel => exact ⟨E, rfl, hE, hE2, bel, Or.inr (Or.inr ⟨rfl, HR⟩)⟩
            case measure => simp [intOf]
          by_cases q1 : xb = (E : Int)
          · subst q1
            by_cases q2 : n ≤ E
            · have HR : Hid (R = 0) := by show _ = _; rw [HS.out 0 (by unfold bst; rw [if_neg q0, if_pos (Or.inr (by omega))]), if_pos rfl]
              clear HS
              go_wp2_with fail
              go_ret
              exact ⟨ret_int (by rw [HR.out]; rfl), bel⟩
            · have HS' : Hid (R = if BF E = 0 then 0 else cont BF n xa (E : Int) 2 (BF E)) := by show _ = _; exact HS.out _ (by unfold bst; rw [if_neg q0, if_neg (by omega)])
              have CI := IH.out E wr bel (by omega)
              have hB := HL.out E
              clear HS
              have q2' : decide (n ≤ E) = false := decide_eq_false q2
              generalize BF E = E2 at *
              by_cases q3 : E2 = 0
              · subst q3
                have HR : Hid (R = 0) := by show _ = _; rw [HS'.out, if_pos rfl]
                clear HS'
                go_wp2_with fail
                refine CI.mono ?_
                rintro e w2 ⟨rfl, z2⟩
                have bel2 := bel.trans (z2.mono bel.size)
                go_wp2_with fail
                go_ret
                exact ⟨ret_int (by rw [HR.out]; rfl), bel2⟩
              · have HR : Hid (R = cont BF n xa (E : Int) 2 E2) := by show _ = _; rw [HS'.out, if_neg q3]
                clear HS'
                go_wp2_with fail
                refine CI.mono ?_
                rintro e w2 ⟨rfl, z2⟩
                have bel2 := bel.trans (z2.mono bel.size)
                go_wp2_with fail
                go_roundw
                case rel => exact ⟨E2, rfl, q3, by omega, bel2, Or.inr (Or.inr ⟨rfl, HR⟩)⟩
                case measure => simp [intOf]
          · have HR : Hid (R = 0) := by show _ = _; rw [HS.out 0 (by unfold bst; rw [if_neg q0, if_pos (Or.inl q1)]), if_pos rfl]
            clear HS
            have q1' : (xb != (E : Int)) = true := by simpa using q1
            go_wp2_with fail
            go_ret
            exact ⟨ret_int (by rw [HR.out]; rfl), bel⟩
        · go_wp2_with fail
          go_ret
          exact ⟨ret_int (by rw [HJ.out]), bel⟩
    · rw [decide_eq_false ho] at CR
      have HB : Hid (R = 0) := by show _ = _; rw [HB.out, if_neg ho]
      clear ho
      go_enter Try.func39, Try.ntmps39
      go_wp2_with fail
      refine (CR _).mono ?_
      rintro e w1 ⟨rfl, z1⟩
      go_wp2_with fail
      go_ret
      exact ⟨ret_int (by rw [HB.out]; rfl), z1⟩
theorem behind_top (v : Value) (ns : List Nd) (w : World) (h : Rd DK w v ns) (h0 : 0 < ns.length) (hm : ns.length ≤ 1000000) :
    Calls Try.prog 39 #[v, .int .i64 0, .int .i64 0] w fun e w' => e = .returned (.int .i64 (bh ns 33 0 : Nat)) ∧ Below w.heap.size w w' := behind_any v ns hm 33 0 0 w h h0 rfl
set_option maxRecDepth 20000 in
theorem check_any (v : Value) (ns : List Nd) (w : World) (h : Rd DK w v ns) :
    Calls Try.prog 13 #[.agg (TC v)] w fun e w' => e = .returned (.int .i64 (chk ns 2 4)) ∧ Below w.heap.size w w' := by
  have b1 := (Below.refl w.heap.size w).alloc (Nat.le_refl _) (.cells (TC v) 24)
  have HK : Hid (chk ns 2 4 = if ns.length = 0 then 0 else if 500 < ns.length then 2 else if bh ns 33 0 ≠ ns.length then 4 else 0) := (rfl : _ = _)
  have CB : Hid (0 < ns.length → ns.length ≤ 1000000 → Calls Try.prog 39 #[v, .int .i64 0, .int .i64 0] (w.alloc (.cells (TC v) 24)) fun e w' => e = .returned (.int .i64 (bh ns 33 0 : Nat)) ∧ Below (w.alloc (.cells (TC v) 24)).heap.size (w.alloc (.cells (TC v) 24)) w') :=
    fun h0 hm => behind_top v ns _ (h.below b1) h0 hm
  have hl := rd_len h
  obtain ⟨sa, sc, rfl⟩ := h.form
  clear h
  generalize chk ns 2 4 = R at *
  generalize bh ns 33 0 = E at *
  generalize ns.length = n at *
  by_cases h0 : n = 0
  · subst h0
    have HR : Hid (R = 0) := by show _ = _; rw [HK.out, if_pos rfl]
    clear HK CB
    go_enter Try.func13, Try.ntmps13
    go_wp2_with fail
    go_ret
    exact ⟨ret_int HR.out.symm, b1⟩
  by_cases h1 : 500 < n
  · have HR : Hid (R = 2) := by show _ = _; rw [HK.out, if_neg h0, if_pos h1]
    clear HK CB
    go_enter Try.func13, Try.ntmps13
    go_wp2_with fail
    go_ret
    exact ⟨ret_int HR.out.symm, b1⟩
  have CB := CB.out (by omega) (by omega)
  by_cases h2 : E = n
  · subst h2
    have HR : Hid (R = 0) := by show _ = _; rw [HK.out, if_neg h0, if_neg h1, if_neg (by simp)]
    clear HK
    go_enter Try.func13, Try.ntmps13
    go_wp2_with fail
    refine CB.mono ?_
    rintro e w2 ⟨rfl, z2⟩
    have bel2 := b1.trans (z2.mono b1.size)
    go_wp2_with fail
    go_ret
    exact ⟨ret_int HR.out.symm, bel2⟩
  · have HR : Hid (R = 4) := by show _ = _; rw [HK.out, if_neg h0, if_neg h1, if_pos h2]
    clear HK
    go_enter Try.func13, Try.ntmps13
    go_wp2_with fail
    refine CB.mono ?_
    rintro e w2 ⟨rfl, z2⟩
    have bel2 := b1.trans (z2.mono b1.size)
    go_wp2_with fail
    go_ret
    exact ⟨ret_int HR.out.symm, bel2⟩
end Go.Proofs.Ytiddpkppfpdfhaa.pf
