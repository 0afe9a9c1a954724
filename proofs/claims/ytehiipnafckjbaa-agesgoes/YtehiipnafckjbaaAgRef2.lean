/- What custref's AgesTouched answers. -/
import Derived.Test.YtehiipnafckjbaaAgRef
namespace Go.Proofs.Ytehiipnafckjbaa.agr
open Go.ChangeShapes Go.WideShapes Go.ChangeAt Go.RowKit Go.BigFrame
open Go.Proofs.Ytehiipnafckjbaa Go.Proofs.Ytehiipnafckjbaa.am Go.Proofs.Ytehiipnafckjbaa.ag Go.Proofs.Ytehiipnafckjbaa.ai Go.Proofs.Ytehiipnafckjbaa.ash Go.Proofs.Ytehiipnafckjbaa.agw Go.Proofs.Ytehiipnafckjbaa.boxes Go.Proofs.Ytehiipnafckjbaa.rwr
open Go.Proofs.Ytehiipnafckjbaa.rws (Knd Own)

def qe (l : List Sy) (now : Int) : Int := if late l now = true then 1 else 0
def qn (n : Int) (l : List Sy) (now : Int) : Int := if late l now = true then 0 else n
def ql (l : List Sy) (r now : Int) : List Sy := if late l now = true then [] else wo l r ++ [⟨r, now⟩]
theorem q_late {l : List Sy} {now : Int} (h : late l now = true) (n r : Int) : qe l now = 1 ∧ qn n l now = 0 ∧ ql l r now = [] := ⟨if_pos h, if_pos h, if_pos h⟩
theorem q_no {l : List Sy} {now : Int} (h : late l now = false) (n r : Int) : qe l now = 0 ∧ qn n l now = n ∧ ql l r now = wo l r ++ [⟨r, now⟩] := by
  have h' : ¬ late l now = true := by rw [h]; decide
  exact ⟨if_neg h', if_neg h', if_neg h'⟩
theorem late_at {l : List Sy} {now : Int} {i : Nat} (hi : i < l.length) (h : now < (ax l i).a) : late l now = true := late_iff.2 ⟨_, ax_mem hi, h⟩
theorem late_all {l : List Sy} {now : Int} (h : ∀ j, j < l.length → (ax l j).a ≤ now) : late l now = false := late_no.2 fun s hs => by
  obtain ⟨q, hq, rfl⟩ := mem_ax hs
  exact h q hq
set_option maxRecDepth 20000 in
set_option maxHeartbeats 8000000 in
theorem touched_any (n : Int) (v : Value) (l : List Sy) (r now : Int) (w : World) (h : Rd SK w v l) (hb : l.length ≤ 999) : Calls Try.prog 15 #[.agg (AC n v), .int .i64 r, .int .i64 now] w fun e w' => ∃ v', e = .returned (.tuple #[.agg (AC (qn n l now) v'), .int .i64 (qe l now)]) ∧ Own SK w' w.heap.size v' (ql l r now) ∧ Below w.heap.size w w' := by
  have F0 := (Blk.new w (AC n v) 24).alloc (.cells Z2 24)
  have G0 := Blk.newAt (w.alloc (.cells (AC n v) 24)) Z2 24 (b := w.heap.size + 1) (by simp)
  have b0 := ((Below.refl w.heap.size w).alloc (Nat.le_refl _) (.cells (AC n v) 24)).alloc (by simp) (.cells Z2 24)
  have r0 := h.below b0
  obtain ⟨V, HV⟩ : ∃ V, Hid ((w.alloc (.cells (AC n v) 24)).alloc (.cells Z2 24) = V) := ⟨_, rfl⟩
  rw [HV.out] at F0 G0 b0 r0
  have CO : ∀ u, Below V.heap.size V u → _ := fun u hu => others_any n v l r u (r0.below hu) (by omega)
  have HL1 : Hid (∀ i, i < l.length → now < (ax l i).a → late l now = true) := fun i h1 h2 => late_at h1 h2
  have HL2 : Hid ((∀ j, j < l.length → (ax l j).a ≤ now) → late l now = false) := fun h => late_all h
  have HQ1 : Hid (late l now = true → qe l now = 1 ∧ qn n l now = 0 ∧ ql l r now = []) := fun h => q_late h n r
  have HQ2 : Hid (late l now = false → qe l now = 0 ∧ qn n l now = n ∧ ql l r now = wo l r ++ [⟨r, now⟩]) := fun h => q_no h n r
  have HG : Hid (∀ i, i < l.length → l[i]? = some (ax l i)) := fun i hi => ax_get hi
  have HWl : Hid ((wo l r).length ≤ l.length) := by unfold wo; exact List.length_filter_le _ _
  obtain ⟨sa, sc, rfl⟩ := h.form
  have HX : Hid (∀ u, Below w.heap.size w u → 0 < l.length → ∃ b off, sa = some ⟨b, off, none⟩ ∧ b < u.heap.size ∧ ∀ j x, l[j]? = some x → ∀ i, i < SK.k → u.cell? ⟨b, off + j * SK.k + i, none⟩ = (SK.enc x)[i]?) := fun u hu hp => rd_spot (h.below hu) hp
  have hle : l.length ≤ sc := (rd_cap h).2
  have c0 := F0.cell
  have hBV := b0.size
  have sz : w.heap.size + 1 < V.heap.size := G0.lt
  clear h r0
  generalize late l now = LT at *
  generalize qe l now = QE at *
  generalize qn n l now = QN at *
  generalize ql l r now = QL at *
  generalize hm : l.length = m at *
  clear hm
  go_enter Try.func15, Try.ntmps15
  go_upto_region 1 with fail
  rw [HV.out]
  go_wp2_with fail
  clear c0
  go_loopw [13] (fun s13 wr => ∃ i : Nat, s13 = .int .i64 (i : Int) ∧ i ≤ m ∧ Hid (∀ j, j < i → (ax l j).a ≤ now) ∧ Below V.heap.size V wr) (fun s _ => m - (intOf s).toNat)
  case atStart => exact ⟨0, rfl, Nat.zero_le _, fun j hj => absurd hj (by omega), Below.refl _ _⟩
  case round =>
    obtain ⟨i, rfl, hi, HJ, bel⟩ := hrel
    have b1 := b0.trans (bel.mono (by omega))
    have F1 := F0.below bel F0.lt
    have G1 := G0.below bel G0.lt
    have hB1 := bel.size
    by_cases hlt : i < m
    · have hlt' : (i : Int) < (m : Int) := by omega
      have gi := HG.out i hlt
      obtain ⟨b, off, rfl, hb2, hx⟩ := HX.out wr b1 (by omega)
      have HLi : Hid (now < (ax l i).a → LT = true) := HL1.out i hlt
      have HJ2 : Hid ((ax l i).a ≤ now → ∀ j, j < i + 1 → (ax l j).a ≤ now) := fun h j hj => by
        by_cases e : j = i
        · rw [e]; exact h
        · exact HJ.out j (by omega)
      obtain ⟨⟨sr, sv⟩, hs⟩ : ∃ s, ax l i = s := ⟨_, rfl⟩
      rw [hs] at gi
      have HLi' : Hid (now < sv → LT = true) := fun h => HLi.out (by rw [hs]; exact h)
      have HJ3 : Hid (sv ≤ now → ∀ j, j < i + 1 → (ax l j).a ≤ now) := fun h => HJ2.out (by rw [hs]; exact h)
      obtain ⟨A, HA⟩ : ∃ A, Hid (wr.alloc (.cells #[.int .i64 sr, .int .i64 sv] 41) = A) := ⟨_, rfl⟩
      have S2 := Blk.new wr #[.int .i64 sr, .int .i64 sv] 41
      have G2 := G1.alloc (.cells #[.int .i64 sr, .int .i64 sv] 41)
      have b2 := bel.alloc bel.size (.cells #[.int .i64 sr, .int .i64 sv] 41)
      rw [HA.out] at S2 G2 b2
      have cS := S2.cell
      clear hs HX HG HL1 HL2 HLi HJ2 bel b1 CO F0 G0 F1 G1 HJ HWl
      by_cases e : now < sv
      · obtain ⟨x1, x2, x3⟩ := HQ1.out (HLi'.out e)
        subst x1 x2 x3
        have hd : decide (now < sv) = true := decide_eq_true e
        have b3 := b0.trans (b2.mono (by omega))
        clear HQ1 HQ2 HLi' HJ3 e
        go_upto_region 4 with (refine rd_load SK _ rfl _ rfl b off l hx i _ rfl rfl _ gi #[.int .i64 sr, .int .i64 sv] rfl _ Try.underlying41 rfl ?_)
        rw [HA.out]
        go_wp2_with (refine blk_store _ rfl 24 _ _ rfl (w.heap.size + 1) Z2 rfl rfl _ _ G2 2 ag_info rfl rfl (ag_one _ _ _ _) ?_; intro W3 K3 p3)
        have d1 := p3.below b3 (by omega)
        exact blk_ret2 rfl rfl (w.heap.size + 1) Z2 24 rfl K3 _ Try.underlying24 rfl 2 ag_info rfl ⟨_, rfl, Own.nil _ _ _, d1⟩
      · have hd : decide (now < sv) = false := decide_eq_false e
        have HJ4 : Hid (∀ j, j < i + 1 → (ax l j).a ≤ now) := HJ3.out (by omega)
        clear HQ1 HQ2 HLi' HJ3 e G2
        go_upto_region 4 with (refine rd_load SK _ rfl _ rfl b off l hx i _ rfl rfl _ gi #[.int .i64 sr, .int .i64 sv] rfl _ Try.underlying41 rfl ?_)
        rw [HA.out]
        go_wp2_with fail
        go_roundw
        case rel => exact ⟨i + 1, by go_num, by omega, HJ4, b2⟩
        case measure => simp [intOf]; omega
    · have hlt' : ¬ (i : Int) < (m : Int) := by omega
      obtain ⟨x1, x2, x3⟩ := HQ2.out (HL2.out fun j hj => HJ.out j (by omega))
      replace x2 := x2.symm
      subst x1 x2 x3
      obtain ⟨W, hW⟩ : ∃ W, W = wr := ⟨_, rfl⟩
      subst hW
      have CO' : ∀ u, Below W.heap.size W u → _ := fun u hu => CO u (bel.trans (hu.mono hB1))
      have hl2 := HWl.out
      have sz1 := G1.lt
      have cF0 := F1.cell
      have cF5 := (F1.alloc (.cells #[.int .i64 r, .int .i64 now] 41)).cell
      clear HX HG HL1 HL2 HQ1 HQ2 CO F0 G0 HJ HWl
      obtain ⟨l2, he2⟩ : ∃ l2, l2 = wo l r := ⟨_, rfl⟩
      have HW2 : Hid (wo l r = l2) := he2.symm
      rw [← he2] at CO' hl2
      clear he2
      go_upto_region 7 with fail
      go_region_law (first
        | (refine step_one SK rfl (.tmp 27) (.tmp 31) rfl W.heap.size v1 l2 (by simp [Act.eval]) (o1.alloc _) w1.heap.size 1 ⟨r, now⟩ 41 (by simp [Act.eval]) (Blk.new _ _ _) (by unfold maxLen; omega) (by show (l2.length + 1) * 16 ≤ _; omega) (by simp; omega) ?_; intro v4 w4 o4 l4 _; have B4 := (B1.alloc (by omega) _).trans l4; obtain ⟨sa4, sc4, rfl⟩ := (Own.rd o4).form; have cF4 := (F1.below B4 F1.lt).cell; have cG4 := (G1.below B4 G1.lt).cell; have fG4 := (G1.below B4 G1.lt).free)
        | (refine step_one SK rfl (.tmp 27) (.tmp 31) rfl W.heap.size v1 l2 (by simp [Act.eval]) o1 W.heap.size 1 ⟨r, now⟩ 41 (by simp [Act.eval]) ((Blk.new W.drew _ _).below l1 (by simp)) (by unfold maxLen; omega) (by show (l2.length + 1) * 16 ≤ _; omega) (by omega) ?_; intro v4 w4 o4 l4 _; have B4 := B1.trans l4; obtain ⟨sa4, sc4, rfl⟩ := (Own.rd o4).form; have cF4 := (F1.below B4 F1.lt).cell; have cG4 := (G1.below B4 G1.lt).cell; have fG4 := (G1.below B4 G1.lt).free)
        | (go_simp; go_wp2_with (go_at_call 30; refine (CO' _ (by first | exact (Below.refl _ _).drew | exact ((Below.refl _ _).drew).alloc (Nat.le_refl _) _)).mono ?_; rintro e w1 ⟨v1, rfl, o1', l1⟩; have o1 := o1'.mono (B' := W.heap.size) (by simp); have B1 : Below W.heap.size W w1 := (by first | exact ((Below.refl _ _).drew).trans l1 | exact (((Below.refl _ _).drew).alloc (Nat.le_refl _) _).trans (l1.mono (by simp))); have hB1 := B1.size; have cF1 := (F1.below B1 F1.lt).cell; have cF6 := ((F1.below B1 F1.lt).alloc (.cells #[.int .i64 r, .int .i64 now] 41)).cell)))
      all_goals
        simp only [List.length_append, List.length_cons, List.length_nil, Nat.zero_add] at o4
        have G4 := (G1.below B4 G1.lt).setCell 0 (.int .i64 n)
        have hne := own_ne o4 sz1
        have O5 := o4.setCell (i := 0) (u := .int .i64 n) hne
        have O6 := O5.setCell (i := 1) (u := .slice sa4 (l2.length + 1) sc4) hne
        have d4 := b1.trans (B4.mono b1.size)
        have d6 := (but_setCell _ (w.heap.size + 1) 1 (.slice sa4 (l2.length + 1) sc4)).below ((but_setCell w4 (w.heap.size + 1) 0 (.int .i64 n)).below d4 (by omega)) (by omega)
        have G6 : Blk _ (w.heap.size + 1) (AC n (.slice sa4 (l2.length + 1) sc4)) 24 := G4.setCell 1 (.slice sa4 (l2.length + 1) sc4)
        have hb1 := b1.size
        clear o4 O5 d4 cF4 cG4 fG4 cF1 cF6 cF0 cF5 B1 B4 l4 l1 o1 CO' G4 F1 G1
        go_wp2_with fail
        refine blk_ret2 rfl rfl (w.heap.size + 1) (AC n (.slice sa4 (l2.length + 1) sc4)) 24 rfl G6 _ Try.underlying24 rfl 2 ag_info rfl ?_
        exact ⟨.slice sa4 (l2.length + 1) sc4, by simp [Act.put], by rw [HW2.out]; exact O6.mono hb1, d6⟩
end Go.Proofs.Ytehiipnafckjbaa.agr
