/- The library's functions at rows of bools and of drops: slices.Equal, slices.Clone. -/
import Derived.Test.YtfigjgefnmkkiaaBkBase
namespace Go.Proofs.Ytfigjgefnmkkiaa.bkt
open Go.ChangeShapes Go.WideShapes Go.ChangeAt Go.RowKit Go.BigFrame
open Go.Proofs.Ytfigjgefnmkkiaa Go.Proofs.Ytfigjgefnmkkiaa.boxes Go.Proofs.Ytfigjgefnmkkiaa.rwr
open Go.Proofs.Ytfigjgefnmkkiaa.rws (Knd Own)

theorem bool_cells {w : World} {l : List Bool} {sa : Option Addr} {n sc : Nat} (h : Rd BK w (.slice sa n sc) l) (hp : 0 < l.length) : ∃ b off, sa = some ⟨b, off, none⟩ ∧ b < w.heap.size ∧ ∀ (j : Nat) x, l[j]? = some x → w.cell? ⟨b, off + j, none⟩ = some (.bool x) := by
  obtain ⟨b, off, e, hb, hx⟩ := rd_spot h hp
  refine ⟨b, off, e, hb, fun j x hj => ?_⟩
  have := hx j x hj 0 (by decide)
  simpa [BK] using this
theorem beq_len {l m : List Bool} (h : l.length ≠ m.length) : (l == m) = false := by
  rw [beq_eq_false_iff_ne]; intro e; exact h (by rw [e])
theorem beq_at {l m : List Bool} {i : Nat} {x y : Bool} (hx : l[i]? = some x) (hy : m[i]? = some y) (h : x ≠ y) : (l == m) = false := by
  rw [beq_eq_false_iff_ne]; intro e; rw [e, hy] at hx; exact h (Option.some.inj hx).symm
theorem beq_all {l m : List Bool} (hl : l.length = m.length) (h : ∀ j, j < l.length → l[j]? = m[j]?) : (l == m) = true := by
  rw [beq_iff_eq]
  apply List.ext_getElem?
  intro j
  by_cases hj : j < l.length
  · exact h j hj
  · rw [List.getElem?_eq_none (by omega), List.getElem?_eq_none (by omega)]
set_option maxHeartbeats 1000000 in
theorem equal_any (v1 v2 : Value) (l m : List Bool) (w : World) (h1 : Rd BK w v1 l) (h2 : Rd BK w v2 m) :
    Calls Try.prog 17 #[v1, v2] w fun e w' => e = .returned (.bool (l == m)) ∧ Below w.heap.size w w' := by
  have hq := rd_len h1
  obtain ⟨sa1, sc1, rfl⟩ := h1.form
  obtain ⟨sa2, sc2, rfl⟩ := h2.form
  by_cases hlen : l.length = m.length
  rotate_left
  · have HR := beq_len hlen
    rw [HR]
    clear h1 h2 HR
    generalize l.length = p at *
    generalize m.length = q at *
    have hlen' : ¬ (p : Int) = (q : Int) := by omega
    go_enter Try.func17, Try.ntmps17
    go_wp2_with fail
    go_ret
    exact ⟨rfl, Below.refl _ _⟩
  have HX1 : Hid (0 < l.length → ∃ b off, sa1 = some ⟨b, off, none⟩ ∧ b < w.heap.size ∧ ∀ (j : Nat) x, l[j]? = some x → w.cell? ⟨b, off + j, none⟩ = some (.bool x)) := fun hp => bool_cells h1 hp
  have HX2 : Hid (0 < l.length → ∃ b off, sa2 = some ⟨b, off, none⟩ ∧ b < w.heap.size ∧ ∀ (j : Nat) x, m[j]? = some x → w.cell? ⟨b, off + j, none⟩ = some (.bool x)) := fun hp => bool_cells h2 (by omega)
  have HG : Hid (∀ i, i < l.length → ∃ x y, l[i]? = some x ∧ m[i]? = some y) := fun i hi => ⟨l[i], m[i]'(by omega), List.getElem?_eq_getElem hi, List.getElem?_eq_getElem _⟩
  have HN : Hid (∀ i x y, l[i]? = some x → m[i]? = some y → x ≠ y → (l == m) = false) := fun _ _ _ a b c => beq_at a b c
  have HY : Hid ((∀ j, j < l.length → l[j]? = m[j]?) → (l == m) = true) := fun h => beq_all hlen h
  have h1' := h1
  clear h1 h2 h1'
  rw [← hlen]
  clear hlen
  generalize (l == m) = R at *
  generalize l.length = n at *
  go_enter Try.func17, Try.ntmps17
  go_wp2_with fail
  go_loopw [13] (fun s13 wr => ∃ i : Nat, s13 = .int .i64 (i : Int) ∧ i ≤ n ∧ Hid (∀ j, j < i → l[j]? = m[j]?) ∧ Below w.heap.size w wr) (fun s _ => n - (intOf s).toNat)
  case atStart => exact ⟨0, rfl, Nat.zero_le _, fun j hj => absurd hj (by omega), Below.refl _ _⟩
  case round =>
    obtain ⟨i, rfl, hi, HJ, bel⟩ := hrel
    by_cases hlt : i < n
    · have hlt' : (i : Int) < (n : Int) := by omega
      obtain ⟨x, y, hx, hy⟩ := HG.out i hlt
      obtain ⟨b1, o1, rfl, hb1, hx1⟩ := HX1.out (by omega)
      obtain ⟨b2, o2, rfl, hb2, hx2⟩ := HX2.out (by omega)
      have c1 := (bel.cell (p := ⟨b1, o1 + i, none⟩) hb1).trans (hx1 i x hx)
      have c2 := (bel.cell (p := ⟨b2, o2 + i, none⟩) hb2).trans (hx2 i y hy)
      have HNi : Hid (x ≠ y → R = false) := fun h => HN.out i x y hx hy h
      have HJi : Hid (x = y → ∀ j, j < i + 1 → l[j]? = m[j]?) := fun h j hj => by
        by_cases e : j = i
        · rw [e, hx, hy, h]
        · exact HJ.out j (by omega)
      obtain ⟨W, hW⟩ : ∃ W, W = wr := ⟨_, rfl⟩
      subst hW
      have nn := ab.ne W
      have lt1 : b1 < W.heap.size := Nat.lt_of_lt_of_le hb1 bel.size
      have lt2 : b2 < W.heap.size := Nat.lt_of_lt_of_le hb2 bel.size
      have ca1 := ab.cell c1 lt1
      have ca2 := ab.cell c2 lt2
      clear HX1 HX2 HG hx1 hx2 hx hy HN HJ HY
      go_upto_region 6 with fail
      refine ab.region (by kernel_rfl) (by kernel_rfl) ?_
      repeat (go_big_quiet_step (fail))
      refine wpQuiet_nil ?_
      intro _ hx
      obtain ⟨u, rfl⟩ := hx
      have bel1 := bel.trans (Below.mono u.h bel.size)
      cases x <;> cases y
      all_goals first
        | (have HJ2 := show Hid _ from HJi.out rfl
           clear HJi HNi
           go_wp2_with fail
           go_roundw
           case rel => exact ⟨i + 1, by go_num, by omega, HJ2, bel1⟩
           case measure => simp [intOf]; omega)
        | (have HR := show Hid _ from HNi.out (by decide)
           clear HJi HNi
           go_wp2_with fail
           go_ret
           exact ⟨ret_bool (by rw [HR.out]), bel1⟩)
    · have hlt' : ¬ (i : Int) < (n : Int) := by omega
      have HR := show Hid _ from HY.out fun j hj => HJ.out j (by omega)
      clear HX1 HX2 HG HN HJ HY
      go_wp2_with fail
      go_ret
      exact ⟨ret_bool (by rw [HR.out]), bel⟩
set_option maxRecDepth 20000 in
theorem cloneD_any (v : Value) (ps : List Dp) (w : World) (h : Rd DK w v ps) (hb : ps.length * 16 ≤ 140737488355328) :
    Calls Try.prog 19 #[v] w fun e w' => ∃ v', e = .returned v' ∧ Own DK w' w.heap.size v' ps ∧ Below w.heap.size w w' := by
  have hm : ps.length ≤ maxLen := by unfold maxLen; omega
  obtain ⟨sa, sc, rfl, hm', hf, hc⟩ := h
  have q : ∀ (w : World) (a : Option Addr) (n c n' c' : Nat), (binOp .eql 24 (.slice a n c) (.slice none n' c')).run Try.prog w = .ok (.bool a.isNone) w := fun w a n c n' c' => Lib.run_eql_slice_nil w _ _ a n c n' c' Try.underlying24
  cases sa with
  | none =>
    have e0 := hf.nil rfl
    have e1 := hf.le
    have el : ps = [] := List.eq_nil_of_length_eq_zero (by omega)
    subst el
    clear hc hf hm hm' hb e1
    go_enter Try.func19, Try.ntmps19
    go_wp2_with fail
    go_ret
    exact ⟨_, rfl, Own.nil _ _ _, Below.refl _ _⟩
  | some a =>
    have b1 := (Below.refl w.heap.size w).alloc (Nat.le_refl _) (.cells #[] 40)
    have hr : Rd DK (w.alloc (.cells #[] 40)) (.slice (some a) ps.length sc) ps := Rd.below ⟨_, _, rfl, hm', hf, hc⟩ b1
    have ow : Own DK (w.alloc (.cells #[] 40)) w.heap.size (.slice (some ⟨w.heap.size, 0, none⟩) 0 0) [] := ⟨rfl, Or.inr ⟨w.heap.size, 0, #[], rfl, Nat.le_refl _, Blk.new _ _ _, Nat.le_refl _, Nat.zero_le _, rfl, rfl⟩⟩
    clear hc
    go_enter Try.func19, Try.ntmps19
    go_wp2_with (at_builtin; refine app_rd DK _ rfl _ _ rfl w.heap.size _ [] rfl ow (.slice (some a) ps.length sc) ps rfl hr (by simpa using hm) (by show ([].length + ps.length) * 16 ≤ _; simpa using hb) (by simp) ?_)
    intro v4 W4 O4 c4 _
    go_wp2_with fail
    go_ret
    exact ⟨_, rfl, O4, b1.trans c4⟩
set_option maxRecDepth 20000 in
theorem cloneB_any (v : Value) (ps : List Bool) (w : World) (h : Rd BK w v ps) (hb : ps.length * 1 ≤ 140737488355328) :
    Calls Try.prog 20 #[v] w fun e w' => ∃ v', e = .returned v' ∧ Own BK w' w.heap.size v' ps ∧ Below w.heap.size w w' := by
  have hm : ps.length ≤ maxLen := by unfold maxLen; omega
  obtain ⟨sa, sc, rfl, hm', hf, hc⟩ := h
  have q : ∀ (w : World) (a : Option Addr) (n c n' c' : Nat), (binOp .eql 28 (.slice a n c) (.slice none n' c')).run Try.prog w = .ok (.bool a.isNone) w := fun w a n c n' c' => Lib.run_eql_slice_nil w _ _ a n c n' c' Try.underlying28
  cases sa with
  | none =>
    have e0 := hf.nil rfl
    have e1 := hf.le
    have el : ps = [] := List.eq_nil_of_length_eq_zero (by omega)
    subst el
    clear hc hf hm hm' hb e1
    go_enter Try.func20, Try.ntmps20
    go_wp2_with fail
    go_ret
    exact ⟨_, rfl, Own.nil _ _ _, Below.refl _ _⟩
  | some a =>
    have b1 := (Below.refl w.heap.size w).alloc (Nat.le_refl _) (.cells #[] 4)
    have hr : Rd BK (w.alloc (.cells #[] 4)) (.slice (some a) ps.length sc) ps := Rd.below ⟨_, _, rfl, hm', hf, hc⟩ b1
    have ow : Own BK (w.alloc (.cells #[] 4)) w.heap.size (.slice (some ⟨w.heap.size, 0, none⟩) 0 0) [] := ⟨rfl, Or.inr ⟨w.heap.size, 0, #[], rfl, Nat.le_refl _, Blk.new _ _ _, Nat.le_refl _, Nat.zero_le _, rfl, rfl⟩⟩
    clear hc
    go_enter Try.func20, Try.ntmps20
    go_wp2_with (at_builtin; refine app_rd BK _ rfl _ _ rfl w.heap.size _ [] rfl ow (.slice (some a) ps.length sc) ps rfl hr (by simpa using hm) (by show ([].length + ps.length) * 1 ≤ _; simpa using hb) (by simp) ?_)
    intro v4 W4 O4 c4 _
    go_wp2_with fail
    go_ret
    exact ⟨_, rfl, O4, b1.trans c4⟩
end Go.Proofs.Ytfigjgefnmkkiaa.bkt
