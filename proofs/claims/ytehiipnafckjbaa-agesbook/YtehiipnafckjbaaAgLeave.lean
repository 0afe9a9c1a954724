/- What package ages' Leave and Touch answer. -/
import Derived.Test.YtehiipnafckjbaaAgTake
namespace Go.Proofs.Ytehiipnafckjbaa.agl
open Go.ChangeShapes Go.WideShapes Go.ChangeAt Go.RowKit Go.BigFrame
open Go.Proofs.Ytehiipnafckjbaa Go.Proofs.Ytehiipnafckjbaa.am Go.Proofs.Ytehiipnafckjbaa.ag Go.Proofs.Ytehiipnafckjbaa.ai Go.Proofs.Ytehiipnafckjbaa.ash Go.Proofs.Ytehiipnafckjbaa.agc Go.Proofs.Ytehiipnafckjbaa.agi Go.Proofs.Ytehiipnafckjbaa.agw Go.Proofs.Ytehiipnafckjbaa.agd Go.Proofs.Ytehiipnafckjbaa.boxes Go.Proofs.Ytehiipnafckjbaa.rwr
open Go.Proofs.Ytehiipnafckjbaa.rws (Knd Own)

theorem grown_blk {w w' : World} {g b : Nat} {F : Array Value} {t : TypeId} (h : w.grownBy w' (some g)) (k : Blk w b F t) (hb : b ≠ g) : Blk w' b F t := (h.block b k.lt (fun e => hb (Option.some.inj e))).trans k
theorem grown_below {w W W' : World} {B g : Nat} (h : W.grownBy W' (some g)) (b : Below B w W) (hB : B ≤ W.heap.size) (hg : B ≤ g) : Below B w W' :=
  b.grown h hB (fun k hk => by cases hk; exact hg)
set_option maxRecDepth 20000 in
set_option maxHeartbeats 4000000 in
theorem leave_any (n : Int) (v : Value) (l : List Sy) (r : Int) (w : World) (h : Rd SK w v l) : Calls Try.prog 17 #[.agg (AC n v), .int .i64 r] w fun e w' => ∃ v', e = .returned (.tuple #[.agg (AC (ln n l r) v'), .int .i64 (le n l r)]) ∧ Own SK w' w.heap.size v' (ll n l r) ∧ Below w.heap.size w w' := by
  have F0 := (Blk.new w (AC n v) 24).alloc (.cells Z2 24)
  have G0 := Blk.newAt (w.alloc (.cells (AC n v) 24)) Z2 24 (b := w.heap.size + 1) (by simp)
  have b0 := ((Below.refl w.heap.size w).alloc (Nat.le_refl _) (.cells (AC n v) 24)).alloc (by simp) (.cells Z2 24)
  have r0 := h.below b0
  have CC := check_any n v l _ r0
  obtain ⟨V, HV⟩ : ∃ V, Hid ((w.alloc (.cells (AC n v) 24)).alloc (.cells Z2 24) = V) := ⟨_, rfl⟩
  rw [HV.out] at F0 G0 b0 r0 CC
  have c0 := F0.cell
  have sz : w.heap.size + 1 < V.heap.size := G0.lt
  rcases le_cases n l r with ⟨e1, e2⟩ | ⟨e1, e2, e3⟩ | ⟨e1, e2, e3⟩
  · obtain ⟨z1, z3⟩ := le_zeros (n := n) (l := l) (r := r) (by rw [e1]; exact e2)
    rw [z1, z3, e1]
    have e2' : (aerr n l != 0) = true := by simpa using e2
    obtain ⟨sa, sc, rfl⟩ := h.form
    clear h r0 e1 e2 z1 z3
    generalize aerr n l = E at *
    generalize l.length = m at *
    go_enter Try.func17, Try.ntmps17
    go_upto_region 1 with fail
    rw [HV.out]
    go_wp2_with fail
    refine CC.mono ?_
    rintro e w1 ⟨rfl, z⟩
    have b1 := b0.trans (z.mono b0.size)
    have G1 := G0.below z G0.lt
    clear c0 F0 G0 b0 z CC HV
    go_wp2_with (refine blk_store _ rfl 24 _ _ rfl (w.heap.size + 1) Z2 rfl rfl _ _ G1 2 ag_info rfl rfl (ag_one _ _ _ _) ?_; intro W3 K3 p3)
    have d1 := p3.below b1 (by omega)
    exact blk_ret2 rfl rfl (w.heap.size + 1) Z2 24 rfl K3 _ Try.underlying24 rfl 2 ag_info rfl ⟨_, rfl, Own.nil _ _ _, d1⟩
  · obtain ⟨z1, z3⟩ := le_zeros (n := n) (l := l) (r := r) (by rw [e1]; decide)
    rw [z1, z3, e1]
    rw [e2] at CC
    have CP := fun u hu => placeOf_any v l r u hu
    rw [pi_no e3] at CP
    obtain ⟨sa, sc, rfl⟩ := h.form
    clear h e1 e2 e3 z1 z3
    go_enter Try.func17, Try.ntmps17
    go_upto_region 1 with fail
    rw [HV.out]
    go_wp2_with fail
    refine CC.mono ?_
    rintro e w1 ⟨rfl, z⟩
    have b1 := b0.trans (z.mono b0.size)
    have G1 := G0.below z G0.lt
    have F1 := F0.below z F0.lt
    have c1 := F1.cell
    have CP1 := CP _ (r0.below z)
    clear c0 F0 G0 b0 z CC HV r0 CP
    go_wp2_with fail
    refine CP1.mono ?_
    rintro e w2 ⟨rfl, z⟩
    have b2 := b1.trans (z.mono b1.size)
    have G2 := G1.below z G1.lt
    clear c1 F1 G1 b1 z CP1
    go_wp2_with (refine blk_store _ rfl 24 _ _ rfl (w.heap.size + 1) Z2 rfl rfl _ _ G2 2 ag_info rfl rfl (ag_one _ _ _ _) ?_; intro W3 K3 p3)
    have d1 := p3.below b2 (by omega)
    exact blk_ret2 rfl rfl (w.heap.size + 1) Z2 24 rfl K3 _ Try.underlying24 rfl 2 ag_info rfl ⟨_, rfl, Own.nil _ _ _, d1⟩
  · obtain ⟨z1, z3⟩ := le_ones (n := n) (l := l) (r := r) e1
    obtain ⟨m, hm, _, hm64, hok, hlm⟩ := aerr_nat e2
    have hcut := ix_cut hok e3
    have hlt := ix_lt e3
    rw [z1, z3, e1, ← hcut]
    rw [e2] at CC
    have CP := fun u hu => placeOf_any v l r u hu
    rw [pi_yes e3] at CP
    have CL := fun u hu => clone_any v l u hu (by omega)
    have CD := fun B g cap u hu => del_any l B g cap (ix r l) u hu hlt
    have HD : Hid (∀ w B v, Own SK w B v l → ∃ g cap, v = .slice (some ⟨g, 0, none⟩) l.length cap ∧ B ≤ g ∧ g < w.heap.size) := fun w B v h => by
      obtain ⟨g, cap, e, h1, h2, _⟩ := h.form (by omega)
      exact ⟨g, cap, e, h1, h2⟩
    have hx1 : IntKind.i64.wrap ((ix r l : Int) + 1) = (ix r l : Int) + 1 := by rw [IntKind.wrap_i64]; omega
    have hx0 : ¬ ((ix r l : Int) < 0) := by omega
    obtain ⟨sa, sc, rfl⟩ := h.form
    clear h e1 e2 e3 z1 z3 hcut hm hok hlm hlt
    generalize hp : ix r l = p at *
    clear hp
    generalize hl2 : l.take p ++ l.drop (p + 1) = l2 at *
    clear hl2
    generalize l.length = m at *
    go_enter Try.func17, Try.ntmps17
    go_upto_region 1 with fail
    rw [HV.out]
    go_wp2_with fail
    refine CC.mono ?_
    rintro e w1 ⟨rfl, z⟩
    have b1 := b0.trans (z.mono b0.size)
    have G1 := G0.below z G0.lt
    have F1 := F0.below z F0.lt
    have c1 := F1.cell
    have r1 := r0.below z
    have CP1 := CP _ r1
    clear c0 F0 G0 b0 z CC HV r0 CP
    go_wp2_with fail
    refine CP1.mono ?_
    rintro e w2 ⟨rfl, z⟩
    have b2 := b1.trans (z.mono b1.size)
    have G2 := G1.below z G1.lt
    have F2 := F1.below z F1.lt
    have r2 := r1.below z
    have c2 := F2.cell
    have hB2 := b2.size
    have CL2 := CL w2.drew (show Rd SK w2.drew _ l from r2)
    have sz2 := G2.lt
    clear c1 F1 G1 b1 z CP1 r1 CL
    go_upto_region 7 with fail
    go_region_with (first
      | (go_at_call 22; refine CL2.mono ?_; rintro e w3 ⟨v3, rfl, o3, z3⟩; obtain ⟨g, cap, rfl, hg1, hg2⟩ := HD.out _ _ _ o3; have F3 := F2.drew.below z3 F2.lt; have c3 := F3.cell)
      | (go_at_call 32; refine (CD _ g cap _ o3).mono ?_; rintro e w4 ⟨rfl, o4, g4⟩; have c4 := (grown_blk g4 F3 (by have := F2.lt; simp at hg1; omega)).cell; have G4 := grown_blk g4 (G2.drew.below z3 G2.lt) (by simp at hg1; omega); have cG4 := G4.cell; have fG4 := G4.free))
    all_goals
      have hg3 : w2.heap.size ≤ g := hg1
      have d3 : Below w.heap.size w w3 := b2.drew.trans (z3.mono hB2)
      have d4 : Below w.heap.size w w4 := grown_below g4 d3 d3.size (by omega)
      have hne : (Value.slice (some ⟨g, 0, none⟩) (m - 1) cap).ownBlock ≠ some (w.heap.size + 1) := by simp [Value.ownBlock]; omega
      have G5 := G4.setCell 0 (.int .i64 n)
      have O5 := o4.setCell (i := 0) (u := .int .i64 n) hne
      have O6 := O5.setCell (i := 1) (u := .slice (some ⟨g, 0, none⟩) (m - 1) cap) hne
      have d6 := (but_setCell _ (w.heap.size + 1) 1 (.slice (some ⟨g, 0, none⟩) (m - 1) cap)).below ((but_setCell w4 (w.heap.size + 1) 0 (.int .i64 n)).below d4 (by omega)) (by omega)
      clear c2 c3 c4 cG4 fG4 o3 o4 z3 d3 d4 G2 F2 F3 O5 CL2 CD HD r2
      go_wp2_with fail
      exact blk_ret2 rfl rfl (w.heap.size + 1) _ 24 rfl (G5.setCell 1 _) _ Try.underlying24 rfl 2 ag_info rfl ⟨_, rfl, O6.mono hB2, d6⟩
end Go.Proofs.Ytehiipnafckjbaa.agl
