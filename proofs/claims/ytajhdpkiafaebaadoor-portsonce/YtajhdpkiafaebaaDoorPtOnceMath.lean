/- Ports that are let one after the other, and ended again, beside a map that tells how often each was seen. -/
import Derived.Test.YtajhdpkiafaebaaDoorPtAns
import Derived.Maps.OwnSet
namespace Go.Proofs.YtajhdpkiafaebaaDoor.pom
open Go.WideShapes Go.Maps
open Go.Proofs.YtajhdpkiafaebaaDoor.pm Go.Proofs.YtajhdpkiafaebaaDoor.pp Go.Proofs.YtajhdpkiafaebaaDoor.pt Go.Proofs.YtajhdpkiafaebaaDoor.pa

abbrev ky (r : Int) : Lit := .int .i64 r
abbrev el (v : Int) : DataW Unit := .lit (.int .i64 v)
theorem ky_ne {a b : Int} (h : a ≠ b) : ky a ≠ ky b := fun e => by
  simp only [ky, Lit.int.injEq, true_and] at e
  exact h e
theorem ky_lit (r : Int) : WideAt.IsKeyLit (ky r) := trivial
theorem el_inj {a b : Int} (h : el a = el b) : a = b := by
  simpa only [el, DataW.lit.injEq, Lit.int.injEq, true_and] using h
structure Sn (b : Int) (t0 t : Nat) (D : DataW Unit) (i : Nat) : Prop where
  lt : t < 18446744073709551616
  sub : ∀ k, k < 64 → t0.testBit k = true → t.testBit k = true
  cnt : nf t + i = nf t0
  at_ : ∀ k : Nat, k < 64 → D.atKey (ky (b + (k : Int))) (el 0) = el (if t.testBit k = true ∧ t0.testBit k = false then 1 else 0)
theorem sn_begin (b : Int) {t0 : Nat} (h : t0 < 18446744073709551616) : Sn b t0 t0 (.map []) 0 :=
  ⟨h, fun _ _ h => h, rfl, fun k _ => by
    rw [if_neg (fun ⟨a, b⟩ => by rw [a] at b; cases b)]
    exact atKey_of_not_has (show Maps.has (.map [] : DataW Unit) (ky (b + (k : Int))) = false from rfl) _⟩
theorem sn_new {b : Int} {t0 t : Nat} {D : DataW Unit} {i k : Nat} {c : Int} (h : Sn b t0 t D i) (hk : F t k) (hc : D.atKey (ky (b + (k : Int))) (el 0) = el c) : c = 0 := by
  have := h.at_ k hk.1
  rw [if_neg (fun ⟨a, _⟩ => by rw [hk.2] at a; cases a), hc] at this
  exact el_inj this
theorem sn_once {b : Int} {D : DataW Unit} {k : Nat} {c : Int} (hD : Tidy D) (hc : (D.put (ky (b + (k : Int))) (el 1)).atKey (ky (b + (k : Int))) (el 0) = el c) : c = 1 := by
  rw [atKey_put_same hD.isMap (ky_lit _)] at hc
  exact (el_inj hc).symm
theorem sn_step {b : Int} {t0 t : Nat} {D : DataW Unit} {i k : Nat} (h : Sn b t0 t D i) (hk : F t k) (hD : Tidy D) : Sn b t0 (st t k) (D.put (ky (b + (k : Int))) (el 1)) (i + 1) := by
  refine ⟨st_lt h.lt hk.1, fun j hj hb => by rw [st_bit, h.sub j hj hb]; rfl, ?_, fun j hj => ?_⟩
  · have := nf_st hk
    have := h.cnt
    omega
  · by_cases e : j = k
    · subst e
      rw [atKey_put_same hD.isMap (ky_lit _), if_pos]
      refine ⟨by rw [st_bit]; simp, ?_⟩
      cases hb : t0.testBit j
      · rfl
      · have := h.sub j hj hb
        rw [hk.2] at this; cases this
    · rw [atKey_put_other (ky_ne (by omega)), h.at_ j hj, st_bit]
      have : ¬ k = j := fun e2 => e e2.symm
      simp [this]
/-- as long as some are free -/
theorem sn_room {b : Int} {t0 t : Nat} {D : DataW Unit} {i : Nat} (h : Sn b t0 t D i) (hi : i < nf t0) : t ≠ 18446744073709551615 := fun e => by
  have := (nf_zero h.lt).2 e
  have := h.cnt
  omega
theorem sn_full {b : Int} {t0 t : Nat} {D : DataW Unit} {i : Nat} (h : Sn b t0 t D i) (hi : i = nf t0) : t = 18446744073709551615 :=
  (nf_zero h.lt).1 (by have := h.cnt; omega)
theorem ones_bit (j : Nat) : (18446744073709551615 : Nat).testBit j = decide (j < 64) := by
  rw [show 18446744073709551615 = fr 0 from rfl, fr_bit (by decide), Nat.zero_testBit]
  simp
theorem sn_seen {b : Int} {t0 : Nat} {D : DataW Unit} {i k : Nat} {c : Int} (h : Sn b t0 18446744073709551615 D i) (hk : k < 64) (hc : D.atKey (ky (b + (k : Int))) (el 0) = el c) : c = if t0.testBit k = true then 0 else 1 := by
  have := h.at_ k hk
  rw [hc, ones_bit] at this
  have := el_inj this
  rw [this]
  cases t0.testBit k <;> simp [hk]
/-- a port is let where there is room -/
theorem let_ok {b w : Int} {t : Nat} (hb : perr b = 0) (h0 : 0 ≤ w) (h1 : w ≤ 65535) (hn : t ≠ 18446744073709551615) : le b t w = 0 := by
  rcases le_cases b t w with ⟨_, h⟩ | ⟨_, _, h⟩ | ⟨_, _, _, _, h⟩ | ⟨h, _⟩
  · rw [hb] at h; cases h
  · omega
  · exact absurd h hn
  · exact h
theorem let_no {b w : Int} (hb : perr b = 0) (h0 : 0 ≤ w) (h1 : w ≤ 65535) : le b 18446744073709551615 w = 6 := by
  rcases le_cases b 18446744073709551615 w with ⟨_, h⟩ | ⟨_, _, h⟩ | ⟨h, _⟩ | ⟨_, _, _, _, h⟩
  · rw [hb] at h; cases h
  · omega
  · exact h
  · exact absurd rfl h
/-- those below j are as they were, the others let -/
structure Dn (t0 j t : Nat) : Prop where
  lt : t < 18446744073709551616
  bit : ∀ k, k < 64 → t.testBit k = if k < j then t0.testBit k else true
theorem dn_begin (t0 : Nat) : Dn t0 0 18446744073709551615 := ⟨by decide, fun k hk => by rw [ones_bit]; simp [hk]⟩
theorem dn_stay {t0 j t : Nat} (h : Dn t0 j t) (hb : t0.testBit j = true) : Dn t0 (j + 1) t := by
  refine ⟨h.lt, fun k hk => ?_⟩
  rw [h.bit k hk]
  by_cases e : k = j
  · subst e; simp [hb]
  · by_cases h1 : k < j
    · rw [if_pos h1, if_pos (by omega)]
    · rw [if_neg h1, if_neg (by omega)]
theorem dn_end {t0 j t : Nat} (h : Dn t0 j t) (hj : j < 64) (hb : t0.testBit j = false) : t.testBit j = true ∧ Dn t0 (j + 1) (cl t j) := by
  have h1 : t.testBit j = true := by rw [h.bit j hj, if_neg (by omega)]
  refine ⟨h1, cl_lt h.lt j, fun k hk => ?_⟩
  rw [cl_bit hj t k hk, h.bit k hk]
  by_cases e : k = j
  · subst e; simp [hb]
  · have : ¬ j = k := fun e2 => e e2.symm
    by_cases h1 : k < j
    · rw [if_pos h1, if_pos (by omega)]; simp [this]
    · rw [if_neg h1, if_neg (by omega)]; simp [this]
theorem dn_all {t0 j t : Nat} (h : Dn t0 j t) (hj : j = 64) (h0 : t0 < 18446744073709551616) : t = t0 :=
  ext64 h.lt h0 fun k hk => by rw [h.bit k hk, if_pos (by omega)]
theorem end_ok {b : Int} {t j : Nat} (hb : perr b = 0) (hj : j < 64) (h : t.testBit j = true) : ee b t (b + (j : Int)) = 0 ∧ eb b t (b + (j : Int)) = b ∧ et b t (b + (j : Int)) = cl t j := by
  have e : (b + (j : Int) - b).toNat = j := by omega
  have h1 : ee b t (b + (j : Int)) = 0 := by
    unfold ee
    rw [if_neg (by rw [hb]; decide), if_pos ⟨by omega, by omega, by rw [e]; exact h⟩]
  obtain ⟨a, c⟩ := ee_ones h1
  rw [e] at c
  exact ⟨h1, a, c⟩
end Go.Proofs.YtajhdpkiafaebaaDoor.pom
