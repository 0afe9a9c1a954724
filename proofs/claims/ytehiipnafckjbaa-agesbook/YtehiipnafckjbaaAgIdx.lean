/- Where a room is: ages.placeOf, ages.leastFree, custref.IsTaken; the small ones: ages.rightSize, custref.Between. -/
import Derived.Test.YtehiipnafckjbaaAgShelf
namespace Go.Proofs.Ytehiipnafckjbaa.ai
open Go.ChangeShapes Go.WideShapes Go.ChangeAt Go.RowKit Go.BigFrame
open Go.Proofs.Ytehiipnafckjbaa Go.Proofs.Ytehiipnafckjbaa.am Go.Proofs.Ytehiipnafckjbaa.ag Go.Proofs.Ytehiipnafckjbaa.boxes Go.Proofs.Ytehiipnafckjbaa.rwr
open Go.Proofs.Ytehiipnafckjbaa.rws (Knd Own)

theorem between_any (a b c : Int) (w : World) : Calls Try.prog 9 #[.int .i64 a, .int .i64 b, .int .i64 c] w fun e w' => e = .returned (.bool (decide (b ≤ a) && decide (a ≤ c))) ∧ w' = w := by
  by_cases h1 : b ≤ a
  · by_cases h2 : a ≤ c
    · go_enter Try.func9, Try.ntmps9
      go_wp2_with fail
      go_ret
      exact ⟨ret_bool (by simp [h1, h2]), rfl⟩
    · go_enter Try.func9, Try.ntmps9
      go_wp2_with fail
      go_ret
      exact ⟨ret_bool (by rw [decide_eq_false (show ¬ a ≤ c by omega)]), rfl⟩
  · go_enter Try.func9, Try.ntmps9
    go_wp2_with fail
    go_ret
    exact ⟨ret_bool (by rw [decide_eq_false (show ¬ b ≤ a by omega)]; rfl), rfl⟩
theorem right_any (n : Int) (w : World) : Calls Try.prog 24 #[.int .i64 n] w fun e w' => e = .returned (.bool (rs n)) ∧ w' = w := by
  unfold rs
  by_cases h1 : 1 ≤ n
  · by_cases h2 : n ≤ 64
    · go_enter Try.func24, Try.ntmps24
      go_wp2_with fail
      go_ret
      exact ⟨ret_bool (by simp [h1, h2]), rfl⟩
    · go_enter Try.func24, Try.ntmps24
      go_wp2_with fail
      go_ret
      exact ⟨ret_bool (by simp [h2]), rfl⟩
  · go_enter Try.func24, Try.ntmps24
    go_wp2_with fail
    go_ret
    exact ⟨ret_bool (by rw [decide_eq_false (show ¬ 1 ≤ n by omega)]; rfl), rfl⟩
def hit (r : Int) (x : Sy) : Bool := x.r == r
set_option maxRecDepth 20000 in
theorem pred1 (r : Int) (B : Nat) (t : TypeId) (w : World) (F : Blk w B #[.int .i64 r] t) :
    PredBelow Try.prog 35 #[.pointer (some ⟨B, 0, none⟩)] (fun x : Sy => .agg (Sy.cells x).toList.toArray) (hit r) w := fun W x hb => by
  have F1 := F.below hb F.lt
  have b1 := hb.alloc hb.size (.cells (Sy.cells x) 41)
  have F2 := F1.alloc (.cells (Sy.cells x) 41)
  have hB : B < W.heap.size := F1.lt
  have cF := F2.cell
  obtain ⟨sr, sa⟩ := x
  show Calls Try.prog 35 #[.agg #[.int .i64 sr, .int .i64 sa], .pointer (some ⟨B, 0, none⟩)] W fun e w' => e = .returned (.bool (hit r ⟨sr, sa⟩)) ∧ _
  unfold hit
  go_enter Try.func35, Try.ntmps35
  go_wp2_with fail
  go_ret
  exact ⟨rfl, b1⟩
set_option maxRecDepth 20000 in
theorem pred2 (r : Int) (B : Nat) (t : TypeId) (w : World) (F : Blk w B #[.int .i64 r] t) :
    PredBelow Try.prog 29 #[.pointer (some ⟨B, 0, none⟩)] (fun x : Sy => .agg (Sy.cells x).toList.toArray) (hit r) w := fun W x hb => by
  have F1 := F.below hb F.lt
  have b1 := hb.alloc hb.size (.cells (Sy.cells x) 41)
  have F2 := F1.alloc (.cells (Sy.cells x) 41)
  have hB : B < W.heap.size := F1.lt
  have cF := F2.cell
  obtain ⟨sr, sa⟩ := x
  show Calls Try.prog 29 #[.agg #[.int .i64 sr, .int .i64 sa], .pointer (some ⟨B, 0, none⟩)] W fun e w' => e = .returned (.bool (hit r ⟨sr, sa⟩)) ∧ _
  unfold hit
  go_enter Try.func29, Try.ntmps29
  go_wp2_with fail
  go_ret
  exact ⟨rfl, b1⟩
/-- what placeOf tells -/
def pi (l : List Sy) (r : Int) : Int := if tk l r = true then (ix r l : Int) else -1
theorem pi_no {l : List Sy} {r : Int} (h : tk l r = false) : pi l r = -1 := by unfold pi; rw [if_neg (by rw [h]; decide)]
theorem pi_yes {l : List Sy} {r : Int} (h : tk l r = true) : pi l r = (ix r l : Int) := if_pos h
theorem pi_nil (r : Int) : pi [] r = -1 := rfl
theorem by_pi (r : Int) (x : Sy) : ∀ (X : List Sy) (i : Nat), Lib.idxByFrom (fun _ y : Sy => hit r y) x X i = if tk X r = true then ((i + ix r X : Nat) : Int) else -1
  | [], _ => rfl
  | y :: l, i => by
    show (if hit r y = true then (i : Int) else Lib.idxByFrom _ x l (i + 1)) = _
    have e2 : ix r (y :: l) = if y.r = r then 0 else ix r l + 1 := rfl
    rw [by_pi r x l (i + 1), tk_cons, e2]
    unfold hit
    by_cases e : y.r = r
    · simp [e]
    · have e1 : (y.r == r) = false := by simpa using e
      rw [e1, Bool.false_or, if_neg e, if_neg (by decide), show i + (ix r l + 1) = i + 1 + ix r l by omega]
theorem idx_none (sa : Option Addr) (sc : Nat) (f : Value) (w : World) : Calls Try.prog 34 #[.slice sa 0 sc, f] w fun e w' => e = .returned (.int .i64 (-1)) ∧ Below w.heap.size w w' := by
  go_enter Try.func34, Try.ntmps34
  go_wp2
  go_loopg [8] 0 (fun g s13 wr => s13 = .int .i64 0 ∧ wr = w)
  case atStart => exact ⟨rfl, rfl⟩
  case round =>
    obtain ⟨rfl, rfl⟩ := hrel
    go_wp2
    go_ret
    exact ⟨rfl, Below.refl _ _⟩
theorem any_none (sa : Option Addr) (sc : Nat) (f : Value) (w : World) : Calls Try.prog 28 #[.slice sa 0 sc, f] w fun e w' => e = .returned (.bool false) ∧ Below w.heap.size w w' := by
  go_enter Try.func28, Try.ntmps28
  go_wp2_with fail
  refine (idx_none sa sc f _).mono ?_
  rintro e w' ⟨rfl, hb⟩
  go_wp2_with fail
  go_ret
  exact ⟨rfl, hb⟩
theorem index_any (v : Value) (X : List Sy) (r : Int) (B : Nat) (t : TypeId) (w : World) (hr : Rd SK w v X) (F : Blk w B #[.int .i64 r] t) :
    Calls Try.prog 34 #[v, .func (.func 35) #[] #[.pointer (some ⟨B, 0, none⟩)]] w fun e w' => e = .returned (.int .i64 (pi X r)) ∧ Below w.heap.size w w' := by
  obtain ⟨sa, sc, rfl, hm, hn, hc⟩ := hr
  by_cases hX : 0 < X.length
  · obtain ⟨b, off, rfl, hlt, hx⟩ := hc hX
    have eg : ∀ args w, (callFunc 35 args).run Try.prog w = .ok (.enter 35 args) w := enters_of Try.func35 (by kernel_rfl) rfl
    refine (AnyQ.slices_IndexFunc Try.idxAg 2 Try.isAgg41 Try.sizeOf41 (fun x : Sy => (Sy.cells x).toList) (fun _ => rfl) (hit r) 35 #[.pointer (some ⟨B, 0, none⟩)] eg b off X.length sc X _ (pred1 r B t _ F) (Nat.le_refl _) (by unfold maxLen at hm; omega) hlt (rd_cells (K := SK) hx)).mono ?_
    rintro e w' ⟨rfl, hb⟩
    refine ⟨?_, hb⟩
    rw [List.take_length]
    unfold Lib.idxBy pi
    rw [by_pi, Nat.zero_add]
  · have : X = [] := List.eq_nil_of_length_eq_zero (by omega)
    subst this
    exact idx_none sa sc _ _
theorem some_any (v : Value) (X : List Sy) (r : Int) (B : Nat) (t : TypeId) (w : World) (hr : Rd SK w v X) (F : Blk w B #[.int .i64 r] t) :
    Calls Try.prog 28 #[v, .func (.func 29) #[] #[.pointer (some ⟨B, 0, none⟩)]] w fun e w' => e = .returned (.bool (tk X r)) ∧ Below w.heap.size w w' := by
  obtain ⟨sa, sc, rfl, hm, hn, hc⟩ := hr
  by_cases hX : 0 < X.length
  · obtain ⟨b, off, rfl, hlt, hx⟩ := hc hX
    have eg : ∀ args w, (callFunc 29 args).run Try.prog w = .ok (.enter 29 args) w := enters_of Try.func29 (by kernel_rfl) rfl
    refine (AnyQ.slices_ContainsFunc Try.anyAg 2 Try.isAgg41 Try.sizeOf41 (fun x : Sy => (Sy.cells x).toList) (fun _ => rfl) (hit r) 29 #[.pointer (some ⟨B, 0, none⟩)] eg b off X.length sc X _ (pred2 r B t _ F) (Nat.le_refl _) (by unfold maxLen at hm; omega) hlt (rd_cells (K := SK) hx)).mono ?_
    rintro e w' ⟨rfl, hb⟩
    refine ⟨?_, hb⟩
    rw [List.take_length]
    rfl
  · have : X = [] := List.eq_nil_of_length_eq_zero (by omega)
    subst this
    exact any_none sa sc _ _
theorem placeOf_any (v : Value) (l : List Sy) (r : Int) (w : World) (h : Rd SK w v l) : Calls Try.prog 31 #[v, .int .i64 r] w fun e w' => e = .returned (.int .i64 (pi l r)) ∧ Below w.heap.size w w' := by
  have G0 := Blk.new w #[.int .i64 r] 3
  have b0 := (Below.refl w.heap.size w).alloc (Nat.le_refl _) (.cells #[.int .i64 r] 3)
  have CI := index_any v l r w.heap.size 3 _ (h.below b0) G0
  obtain ⟨sa, sc, rfl⟩ := h.form
  clear h
  generalize pi l r = R at *
  generalize l.length = n at *
  go_enter Try.func31, Try.ntmps31
  go_wp2_with fail
  refine CI.mono ?_
  rintro e w1 ⟨rfl, z⟩
  have b1 := b0.trans (z.mono b0.size)
  go_wp2_with fail
  go_ret
  exact ⟨rfl, b1⟩
theorem isTaken_any (n : Int) (v : Value) (l : List Sy) (r : Int) (w : World) (h : Rd SK w v l) : Calls Try.prog 14 #[.agg (AC n v), .int .i64 r] w fun e w' => e = .returned (.bool (tk l r)) ∧ Below w.heap.size w w' := by
  have F0 := (Blk.new w (AC n v) 24).alloc (.cells #[.int .i64 r] 3)
  have G0 := Blk.newAt (w.alloc (.cells (AC n v) 24)) #[.int .i64 r] 3 (b := w.heap.size + 1) (by simp)
  have b0 := ((Below.refl w.heap.size w).alloc (Nat.le_refl _) (.cells (AC n v) 24)).alloc (by simp) (.cells #[.int .i64 r] 3)
  have CI := some_any v l r (w.heap.size + 1) 3 _ (h.below b0) G0
  obtain ⟨sa, sc, rfl⟩ := h.form
  have c0 := F0.cell
  clear h
  generalize tk l r = R at *
  generalize l.length = m at *
  go_enter Try.func14, Try.ntmps14
  go_wp2_with fail
  refine CI.mono ?_
  rintro e w1 ⟨rfl, z⟩
  have b1 := b0.trans (z.mono b0.size)
  go_wp2_with fail
  go_ret
  exact ⟨rfl, b1⟩
theorem least_any (v : Value) (l : List Sy) (w : World) (h : Rd SK w v l) (hs : l.length ≤ 1000) : Calls Try.prog 26 #[v] w fun e w' => e = .returned (.int .i64 (lf l : Int)) ∧ Below w.heap.size w w' := by
  have HT : Hid (∀ k : Nat, tk l k = false → (∀ j : Nat, j < k → tk l j = true) → lf l = k) := fun k h1 h2 => lf_eq ⟨h1, h2⟩
  have HR : Hid (∀ k : Nat, (∀ j : Nat, j < k → tk l j = true) → k ≤ l.length) := fun k h => run_le h
  have CP : ∀ u, Below w.heap.size w u → ∀ r, _ := fun u hu r => placeOf_any v l r u (h.below hu)
  obtain ⟨sa, sc, rfl⟩ := h.form
  clear h
  generalize lf l = R at *
  generalize l.length = n at *
  go_enter Try.func26, Try.ntmps26
  go_wp2_with fail
  go_loopw [3] (fun s3 wr => ∃ k : Nat, s3 = .int .i64 (k : Int) ∧ Hid (∀ j : Nat, j < k → tk l j = true) ∧ Below w.heap.size w wr) (fun s _ => n + 1 - (intOf s).toNat)
  case atStart => exact ⟨0, rfl, fun j hj => absurd hj (by omega), Below.refl _ _⟩
  case round =>
    obtain ⟨k, rfl, HK, bel⟩ := hrel
    have hk := HR.out k HK.out
    have CPk := CP _ bel (k : Int)
    clear CP
    cases ht : tk l k
    · have HE : Hid (R = k) := HT.out k ht HK.out
      rw [pi_no ht] at CPk
      clear ht HK HT HR
      go_wp2_with fail
      refine CPk.mono ?_
      rintro e w1 ⟨rfl, z⟩
      have b1 := bel.trans (z.mono bel.size)
      go_wp2_with fail
      go_ret
      exact ⟨ret_int (by rw [HE.out]), b1⟩
    · have HK' : Hid (∀ j : Nat, j < k + 1 → tk l j = true) := fun j hj => by
        by_cases e : j = k
        · rw [e]; exact ht
        · exact HK.out j (by omega)
      have hk' := HR.out (k + 1) HK'.out
      rw [pi_yes ht] at CPk
      clear ht HK HT HR
      generalize ix k l = X at *
      go_wp2_with fail
      refine CPk.mono ?_
      rintro e w1 ⟨rfl, z⟩
      have b1 := bel.trans (z.mono bel.size)
      go_wp2_with fail
      go_roundw
      case rel => exact ⟨k + 1, by go_num, HK', b1⟩
      case measure => simp [intOf]; omega
end Go.Proofs.Ytehiipnafckjbaa.ai
