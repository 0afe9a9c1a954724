/- slices.DeleteFunc of the rows of one path, in place; slices.Clone of rows. -/
import Derived.Test.YtiddpkppfpdfhaaPrOf
import Derived.Shelf.SlicesQ.IndexFunc
import Derived.Lib.SlBy
namespace Go.Proofs.Ytiddpkppfpdfhaa.pf
open Go.ChangeShapes Go.WideShapes Go.ChangeAt Go.RowKit Go.BigFrame
open Go.Proofs.Ytiddpkppfpdfhaa Go.Proofs.Ytiddpkppfpdfhaa.pm Go.Proofs.Ytiddpkppfpdfhaa.boxes Go.Proofs.Ytiddpkppfpdfhaa.rwr Go.Proofs.Ytiddpkppfpdfhaa.rwat
open Go.Proofs.Ytiddpkppfpdfhaa.rws (Knd Own)

theorem but_nil' (q : Pth) : but q [] = [] := rfl
theorem idx_cases (q : Pth) (d : Rw) : ∀ (X : List Rw) (k : Nat), (Lib.idxByFrom (fun _ y : Rw => decide (q = y.1)) d X k = -1 ∧ but q X = X) ∨ ∃ i : Nat, i < X.length ∧ Lib.idxByFrom (fun _ y : Rw => decide (q = y.1)) d X k = ((k + i : Nat) : Int) ∧ but q (X.take (i + 1)) = X.take i := by
  intro X
  induction X with
  | nil => intro k; exact Or.inl ⟨rfl, rfl⟩
  | cons y X ih =>
    intro k
    have e : Lib.idxByFrom (fun _ y : Rw => decide (q = y.1)) d (y :: X) k = if decide (q = y.1) = true then (k : Int) else Lib.idxByFrom (fun _ y : Rw => decide (q = y.1)) d X (k + 1) := rfl
    rw [e]
    by_cases h : q = y.1
    · refine Or.inr ⟨0, by simp, by rw [if_pos (decide_eq_true h)]; rfl, ?_⟩
      simp [but, h]
    · rw [if_neg (by simpa using h)]
      rcases ih (k + 1) with ⟨h1, h2⟩ | ⟨i, h1, h2, h3⟩
      · refine Or.inl ⟨h1, ?_⟩
        have : but q (y :: X) = y :: but q X := by
          simp only [but, List.filter_cons]
          rw [if_pos (by simpa using fun e => h e.symm)]
        rw [this, h2]
      · refine Or.inr ⟨i + 1, by simpa using h1, by rw [h2]; congr 1; omega, ?_⟩
        have : but q ((y :: X).take (i + 1 + 1)) = y :: but q (X.take (i + 1)) := by
          simp only [but, List.take_succ_cons, List.filter_cons]
          rw [if_pos (by simpa using fun e => h e.symm)]
        rw [this, h3]
        rfl
theorem ixr_none (sa : Option Addr) (sc : Nat) (f : Value) (w : World) : Calls Try.prog 49 #[.slice sa 0 sc, f] w fun e w' => e = .returned (.int .i64 (-1)) ∧ Below w.heap.size w w' := by
  go_enter Try.func49, Try.ntmps49
  go_wp2
  go_loopg [8] 0 (fun g s13 wr => s13 = .int .i64 0 ∧ wr = w)
  case atStart => exact ⟨rfl, rfl⟩
  case round =>
    obtain ⟨rfl, rfl⟩ := hrel
    go_wp2
    go_ret
    exact ⟨rfl, Below.refl _ _⟩
/-- a closure that tells whether a row is of a path -/
structure Prd (G : FuncId) : Prop where
  enters : ∀ args w, (callFunc G args).run Try.prog w = .ok (.enter G args) w
  pred : ∀ (q : Pth) (bx : Nat) (w : World), Blk w bx #[.string (en q)] 9 → PredBelow Try.prog G #[.pointer (some ⟨bx, 0, none⟩)] (fun x : Rw => .agg (rwc x).toList.toArray) (fun x => decide (q = x.1)) w
theorem ixr_any {G : FuncId} (H : Prd G) (v : Value) (X : List Rw) (q : Pth) (bx : Nat) (w : World) (hr : Rd RK w v X) (F : Blk w bx #[.string (en q)] 9) :
    Calls Try.prog 49 #[v, .func (.func G) #[] #[.pointer (some ⟨bx, 0, none⟩)]] w fun e w' => e = .returned (.int .i64 (Lib.idxBy (fun _ y : Rw => decide (q = y.1)) X default)) ∧ Below w.heap.size w w' := by
  obtain ⟨sa, sc, rfl, hm, hn, hc⟩ := hr
  by_cases hX : 0 < X.length
  · obtain ⟨b, off, rfl, hlt, hx⟩ := hc hX
    refine (AnyQ.slices_IndexFunc Try.idxRw 2 Try.isAgg45 Try.sizeOf45 (fun x : Rw => (rwc x).toList) (fun _ => rfl) (fun x => decide (q = x.1)) G #[.pointer (some ⟨bx, 0, none⟩)] H.enters b off X.length sc X _ (H.pred q bx _ F) (Nat.le_refl _) (by unfold maxLen at hm; omega) hlt (rd_cells (K := RK) hx)).mono ?_
    rintro e w' ⟨rfl, hb⟩
    rw [List.take_length]
    exact ⟨rfl, hb⟩
  · have : X = [] := List.eq_nil_of_length_eq_zero (by omega)
    subst this
    exact ixr_none sa sc _ _
def preds (G : FuncId) : Prop := Prd G
set_option maxRecDepth 20000 in
theorem prd_put : Prd 34 := by
  refine ⟨enters_of Try.func34 (by kernel_rfl) rfl, fun q bx w F W x hb => ?_⟩
  obtain ⟨xp, xv⟩ := x
  have F1 := F.below hb F.lt
  have b1 := hb.alloc hb.size (.cells #[.string (en xp), .int .i64 xv] 45)
  have F2 := F1.alloc (.cells #[.string (en xp), .int .i64 xv] 45)
  have hB : bx < W.heap.size := F1.lt
  have cF := F2.cell
  have hq := txt_eq xp q
  show Calls Try.prog 34 #[.agg #[.string (en xp), .int .i64 xv], .pointer (some ⟨bx, 0, none⟩)] W fun e w' => e = .returned (.bool (decide (q = xp))) ∧ _
  rw [← hq]
  clear hq
  generalize en xp = P at *
  generalize en q = Q at *
  go_enter Try.func34, Try.ntmps34
  go_wp2_with fail
  go_ret
  exact ⟨rfl, b1⟩
set_option maxRecDepth 20000 in
theorem prd_rem : Prd 38 := by
  refine ⟨enters_of Try.func38 (by kernel_rfl) rfl, fun q bx w F W x hb => ?_⟩
  obtain ⟨xp, xv⟩ := x
  have F1 := F.below hb F.lt
  have b1 := hb.alloc hb.size (.cells #[.string (en xp), .int .i64 xv] 45)
  have F2 := F1.alloc (.cells #[.string (en xp), .int .i64 xv] 45)
  have hB : bx < W.heap.size := F1.lt
  have cF := F2.cell
  have hq := txt_eq xp q
  show Calls Try.prog 38 #[.agg #[.string (en xp), .int .i64 xv], .pointer (some ⟨bx, 0, none⟩)] W fun e w' => e = .returned (.bool (decide (q = xp))) ∧ _
  rw [← hq]
  clear hq
  generalize en xp = P at *
  generalize en q = Q at *
  go_enter Try.func38, Try.ntmps38
  go_wp2_with fail
  go_ret
  exact ⟨rfl, b1⟩
set_option maxRecDepth 20000 in
set_option maxHeartbeats 8000000 in
theorem delR_any {G : FuncId} (H : Prd G) (v : Value) (X : List Rw) (q : Pth) (bx B : Nat) (w : World) (h : Own RK w B v X) (F : Blk w bx #[.string (en q)] 9) (hne : v.ownBlock ≠ some bx) (hB : B ≤ w.heap.size) (hl : X.length ≤ 1000000) :
    Calls Try.prog 33 #[v, .func (.func G) #[] #[.pointer (some ⟨bx, 0, none⟩)]] w fun e w' => ∃ v', e = .returned v' ∧ Own RK w' B v' (but q X) ∧ Only v v' w w' := by
  have CI := ixr_any H v X q bx w (Own.rd h) F
  have eG := H.enters
  rcases idx_cases q default X 0 with ⟨h1, h2⟩ | ⟨i, hi, h1, h2⟩
  · have h1' : Lib.idxBy (fun _ y : Rw => decide (q = y.1)) X default = -1 := h1
    rw [h1'] at CI
    rw [h2]
    clear h1 h1' h2 eG
    go_enter Try.func33, Try.ntmps33
    go_wp2_with fail
    refine CI.mono ?_
    rintro e W1 ⟨rfl, z⟩
    go_wp2_with fail
    go_ret
    exact ⟨_, rfl, h.kept z, Only.of_below z⟩
  · have h1' : Lib.idxBy (fun _ y : Rw => decide (q = y.1)) X default = (i : Int) := by
      show Lib.idxByFrom _ _ _ 0 = _
      rw [h1, Nat.zero_add]
    rw [h1'] at CI
    clear h1 h1'
    obtain ⟨g, cap, e_v, hBg, hgl, hnc, hcm, _⟩ := h.form (by omega)
    have hcm' : cap ≤ 9223372036854775807 := by unfold maxLen at hcm; omega
    obtain ⟨n, hn⟩ : ∃ n, n = X.length := ⟨_, rfl⟩
    have HN : Hid (n = X.length) := hn
    rw [← hn] at e_v hnc hi hl
    subst e_v
    have hgx : g ≠ bx := fun e => hne (by rw [e]; rfl)
    have HX : Hid (∀ j, j < n → ∃ y, X[j]? = some y) := fun j hj => ⟨_, List.getElem?_eq_getElem (by omega)⟩
    have H0 : Hid (X.length = n ∧ X.take i = but q (X.take (i + 1))) := ⟨hn.symm, h2.symm⟩
    have hi1 : ((i : Int) == -1) = false := by simp
    clear hn h2
    go_enter Try.func33, Try.ntmps33
    go_wp2_with fail
    refine CI.mono ?_
    rintro e W1 ⟨rfl, z⟩
    have O1 := h.kept z
    have F1 := F.below z F.lt
    have o1 : Only (.slice (some ⟨g, 0, none⟩) n cap) (.slice (some ⟨g, 0, none⟩) n cap) w W1 := Only.of_below z
    have hB1 := Nat.le_trans hB z.size
    clear CI h F z
    go_wp2_with fail
    go_loopw [5, 6] (fun s5 s6 wr => ∃ (ic j : Nat) (M : List Rw), s5 = .int .i64 (ic : Int) ∧ s6 = .int .i64 (j : Int) ∧ ic < j ∧ j ≤ n ∧ Own RK wr B (.slice (some ⟨g, 0, none⟩) n cap) M ∧ Blk wr bx #[.string (en q)] 9 ∧ Only (.slice (some ⟨g, 0, none⟩) n cap) (.slice (some ⟨g, 0, none⟩) n cap) w wr ∧ B ≤ wr.heap.size ∧ Hid (M.length = n ∧ M.take ic = but q (X.take j) ∧ M.drop j = X.drop j)) (fun _ s _ => n - (intOf s).toNat)
    case atStart => exact ⟨i, i + 1, X, rfl, by go_num, by omega, by omega, O1, F1, o1, hB1, (show Hid (_ ∧ _ ∧ _) from ⟨H0.out.1, H0.out.2, rfl⟩)⟩
    case round =>
      clear O1 F1 o1 hB1 H0
      obtain ⟨ic, j, M, rfl, rfl, hij, hj, O2, F2, o2, hB2, HM⟩ := hrel
      by_cases hlt : j < n
      · have hlt' : (j : Int) < (n : Int) := by omega
        obtain ⟨y, hy⟩ := HX.out j hlt
        have hMy : M[j]? = some y := by
          have := congrArg (fun l => l[0]?) HM.out.2.2
          simpa [List.getElem?_drop, hy] using this
        have c0 : wr.cell? ⟨g, j * 2, none⟩ = some (.string (en y.1)) := O2.cell hMy (i := 0) (by decide)
        have c1 : wr.cell? ⟨g, j * 2 + 1, none⟩ = some (.int .i64 y.2) := O2.cell hMy (i := 1) (by decide)
        have dA := (Below.refl wr.heap.size wr).alloc (Nat.le_refl _) (.cells ZR 45)
        go_upto_region 8 with (refine blk_store _ rfl 45 _ _ rfl wr.heap.size (rwc y) rfl rfl _ _ (Blk.new wr ZR 45) 2 rw_info rfl rfl (rw_one y) ?_; intro W5 N5 p5)
        have zz := p5.below dA (Nat.le_refl _)
        have N5' : Blk W5 wr.heap.size #[.string (en y.1), .int .i64 y.2] 45 := N5
        have O5 := O2.kept zz
        have F5 := F2.below zz F2.lt
        have o5 := o2.trans (Only.of_below zz)
        have hB5 := Nat.le_trans hB2 zz.size
        have CG : Calls Try.prog G #[.agg #[.string (en y.1), .int .i64 y.2], .pointer (some ⟨bx, 0, none⟩)] W5 fun e w' => e = .returned (.bool (decide (q = y.1))) ∧ Below W5.heap.size W5 w' := H.pred q bx W5 F5 W5 y (Below.refl _ _)
        have hbs := but_snoc q (X.take j) y
        rw [← take_succ X j y hy] at hbs
        clear c0 c1 dA p5 zz N5 O2 F2 o2 hB2 hy
        have cN := N5'.cell
        by_cases hq : q = y.1
        · rw [decide_eq_true hq] at CG
          rw [if_pos hq.symm] at hbs
          have HM2 : Hid (M.length = n ∧ M.take ic = but q (X.take (j + 1)) ∧ M.drop (j + 1) = X.drop (j + 1)) := by
            obtain ⟨m1, m2, m3⟩ := HM.out
            refine ⟨m1, by rw [m2, hbs], ?_⟩
            have := congrArg (fun l => l.drop 1) m3
            simpa [List.drop_drop] using this
          clear hq hbs HM
          go_wp2_with fail
          refine CG.mono ?_
          rintro e W6 ⟨rfl, z⟩
          have O6 := O5.kept z
          have F6 := F5.below z F5.lt
          have o6 := o5.trans (Only.of_below z)
          have hB6 := Nat.le_trans hB5 z.size
          clear CG O5 F5 o5 hB5 z cN N5'
          go_wp2_with fail
          go_roundw
          case rel => exact ⟨ic, j + 1, M, rfl, by go_num, by omega, by omega, O6, F6, o6, hB6, HM2⟩
          case measure => simp [intOf]; omega
        · rw [decide_eq_false hq] at CG
          rw [if_neg (fun e => hq e.symm)] at hbs
          have hml : M.length = n := HM.out.1
          have HM2 : Hid ((M.set ic y).length = n ∧ (M.set ic y).take (ic + 1) = but q (X.take (j + 1)) ∧ (M.set ic y).drop (j + 1) = X.drop (j + 1)) := by
            obtain ⟨m1, m2, m3⟩ := HM.out
            refine ⟨by rw [List.length_set]; exact m1, ?_, ?_⟩
            · rw [hbs, ← m2, List.take_add_one, List.getElem?_set_self (by omega), List.take_set_of_le (Nat.le_refl _)]
              rfl
            · rw [List.drop_set_of_lt (by omega)]
              have := congrArg (fun l => l.drop 1) m3
              simpa [List.drop_drop] using this
          have HML : Hid (M.length = n) := hml
          clear hq hbs HM hml
          go_wp2_with fail
          refine CG.mono ?_
          rintro e W6 ⟨rfl, z⟩
          have O6 := O5.kept z
          have F6 := F5.below z F5.lt
          have o6 := o5.trans (Only.of_below z)
          have hB6 := Nat.le_trans hB5 z.size
          have N6 := N5'.below z N5'.lt
          clear CG O5 F5 o5 hB5 z cN N5'
          have cN := N6.cell
          go_upto_region 9 with fail
          go_wp2_with (refine rwr.elem_store RK _ rfl _ _ rfl B g n cap M O6 ic _ rfl rfl (by rw [HML.out]; omega) y rfl ?_; intro W8 O8 bu)
          have F8 := bu.blk F6 (fun e => hgx e.symm)
          have o8 := o6.trans (Only.of_but bu rfl)
          have hB8 : B ≤ W8.heap.size := by rw [bu.size]; exact hB6
          clear O6 F6 o6 hB6 bu cN N6
          go_wp2_with fail
          go_roundw
          case rel => exact ⟨ic + 1, j + 1, M.set ic y, by go_num, by go_num, by omega, by omega, O8, F8, o8, hB8, HM2⟩
          case measure => simp [intOf]; omega
      · obtain rfl : j = n := by omega
        have hml := HM.out.1
        have hmt := HM.out.2.1
        rw [List.take_of_length_le (l := X) (by have := HN.out; omega)] at hmt
        have OT := rwc.own_take O2 ic (by omega)
        rw [hmt] at OT
        have hz : ∀ w, (zeroValue RK.e).run Try.prog w = .ok RK.z w := Try.zeroValue45
        obtain ⟨w2, hrun, O3, bu⟩ := rwc.run_clear RK wr 0 hz ([], 0) rfl B g ic cap (j - ic) (cap - ic) _ OT (by omega) (by omega)
        have hr2 : ∀ ty, (Builtin.clear_ #[41] ty #[.slice (some ⟨g, ic * 2, none⟩) (j - ic) (cap - ic)]).run Try.prog wr = .ok (.tuple #[]) w2 := fun _ => hrun
        have o3 := o2.trans (Only.of_but bu rfl)
        have hci : ¬ cap = ic := by omega
        have hij' : ic ≤ j := by omega
        have hicc : ic ≤ cap := by omega
        clear hrun OT hmt hml HM O2 F2 o2 bu HX HN hz
        go_wp2_with fail
        go_ret
        exact ⟨_, rfl, O3, ⟨o3.1, fun g' hg' => Or.inl hg'⟩⟩
end Go.Proofs.Ytiddpkppfpdfhaa.pf
