/- What package table's slotOf, Get and New answer. -/
import Derived.Test.YtmnmjmbfnecmoaaTabCheck
namespace Go.Proofs.Ytmnmjmbfnecmoaa.tg
open Go.ChangeShapes Go.WideShapes Go.ChangeAt Go.RowKit Go.BigFrame
open Go.Proofs.Ytmnmjmbfnecmoaa Go.Proofs.Ytmnmjmbfnecmoaa.tm Go.Proofs.Ytmnmjmbfnecmoaa.tb Go.Proofs.Ytmnmjmbfnecmoaa.ti Go.Proofs.Ytmnmjmbfnecmoaa.tsh Go.Proofs.Ytmnmjmbfnecmoaa.tc Go.Proofs.Ytmnmjmbfnecmoaa.boxes Go.Proofs.Ytmnmjmbfnecmoaa.rwr
open Go.Proofs.Ytmnmjmbfnecmoaa.rws (Knd Own)

open Classical in
/-- the error where a key is looked for -/
noncomputable def fe (l : List St) (k : Nat) : Int := if terr l = 0 then (if (ax l (fnd (hl l) l k)).u = true then 0 else 7) else terr l
noncomputable def fp (l : List St) (k : Nat) : Int := if fe l k = 0 then (fnd (hl l) l k : Int) else 0
noncomputable def gv (l : List St) (k : Nat) : Int := if fe l k = 0 then (ax l (fnd (hl l) l k)).v else 0
theorem fe_cases (l : List St) (k : Nat) : (fe l k = terr l ∧ terr l ≠ 0 ∧ fp l k = 0 ∧ gv l k = 0) ∨ (fe l k = 7 ∧ terr l = 0 ∧ (ax l (fnd (hl l) l k)).u = false ∧ fp l k = 0 ∧ gv l k = 0) ∨ (fe l k = 0 ∧ terr l = 0 ∧ (ax l (fnd (hl l) l k)).u = true ∧ fp l k = (fnd (hl l) l k : Int) ∧ gv l k = (ax l (fnd (hl l) l k)).v) := by
  by_cases h : terr l = 0
  · cases hu : (ax l (fnd (hl l) l k)).u
    · have e : fe l k = 7 := by unfold fe; rw [if_pos h, if_neg (by rw [hu]; decide)]
      exact Or.inr (Or.inl ⟨e, h, rfl, by unfold fp; rw [e]; rfl, by unfold gv; rw [e]; rfl⟩)
    · have e : fe l k = 0 := by unfold fe; rw [if_pos h, if_pos hu]
      exact Or.inr (Or.inr ⟨e, h, rfl, by unfold fp; rw [if_pos e], by unfold gv; rw [if_pos e]⟩)
  · have e : fe l k = terr l := by unfold fe; rw [if_neg h]
    exact Or.inl ⟨e, h, by unfold fp; rw [e, if_neg h], by unfold gv; rw [e, if_neg h]⟩
set_option maxHeartbeats 1000000 in
theorem slotOf_any (v : Value) (l : List St) (k : Nat) (w : World) (h : Rd SK w v l) : Calls Try.prog 34 #[.agg #[v], .int .u64 (k : Int)] w fun e w' => e = .returned (.tuple #[.int .i64 (fp l k), .int .i64 (fe l k)]) ∧ Below w.heap.size w w' := by
  have F0 := Blk.new w #[v] 24
  have b0 := (Below.refl w.heap.size w).alloc (Nat.le_refl _) (.cells #[v] 24)
  have r0 := h.below b0
  have CC := check_any v l _ r0
  rcases fe_cases l k with ⟨e1, e2, e3, _⟩ | ⟨e1, e2, e3, e4, _⟩ | ⟨e1, e2, e3, e4, _⟩
  · rw [e1, e3]
    have e2' : (terr l != 0) = true := by simpa using e2
    have c0 := F0.cell
    obtain ⟨sa, sc, rfl⟩ := h.form
    clear h r0 e1 e3 e2
    generalize terr l = E at *
    generalize l.length = n at *
    go_enter Try.func34, Try.ntmps34
    go_wp2_with fail
    refine CC.mono ?_
    rintro e w1 ⟨rfl, z⟩
    have b1 := b0.trans (z.mono b0.size)
    go_wp2_with fail
    go_ret2
    exact ⟨ret_two rfl rfl, b1⟩
  all_goals
    obtain ⟨hb, hr⟩ := terr_zero e2
    have hbd := bn_bd hb
    have hf := fnd_spec (hl_lt hb) hr.free k
    have CF := fun u hu => find_any v l k u hu hb hr.free
    rw [e1, e4]
    rw [e2] at CC
    obtain ⟨b, off, sc, rfl, hlt, hm', hsc, hx⟩ := rd_at h (by omega)
    have hlt2 := hf.lt
    have hxi := cell_u hx hlt2
    rw [e3] at hxi
    have HR := r0
    have c0 := F0.cell
    clear h e1 e2 e3 e4 hf hx hr hb
    generalize fnd (hl l) l k = R at *
    have hR : (R : Int) < (l.length : Int) := by omega
    go_enter Try.func34, Try.ntmps34
    go_wp2_with fail
    refine CC.mono ?_
    rintro e w1 ⟨rfl, z⟩
    have b1 := b0.trans (z.mono b0.size)
    have r1 := r0.below z
    have F1 := F0.below z F0.lt
    have c1 := F1.cell
    have hx1 := (b1.cell (p := ⟨b, off + R * 3, none⟩) hlt).trans hxi
    have CF1 := CF w1 r1
    clear CF r0 r1 F0 F1 c0 z b0 CC HR
    generalize l.length = n at *
    go_wp2_with fail
    refine CF1.mono ?_
    rintro e w2 ⟨rfl, rfl⟩
    go_wp2_with fail
    go_ret2
    exact ⟨ret_two rfl rfl, b1⟩
set_option maxHeartbeats 1000000 in
theorem get_any (v : Value) (l : List St) (k : Nat) (w : World) (h : Rd SK w v l) : Calls Try.prog 20 #[.agg #[v], .int .u64 (k : Int)] w fun e w' => e = .returned (.tuple #[.int .i64 (gv l k), .int .i64 (fe l k)]) ∧ Below w.heap.size w w' := by
  have F0 := Blk.new w #[v] 24
  have b0 := (Below.refl w.heap.size w).alloc (Nat.le_refl _) (.cells #[v] 24)
  have r0 := h.below b0
  have CC := slotOf_any v l k _ r0
  have c0 := F0.cell
  have hno : (fe l k ≠ 0 ∧ gv l k = 0) ∨ (fe l k = 0 ∧ terr l = 0 ∧ (ax l (fnd (hl l) l k)).u = true ∧ fp l k = (fnd (hl l) l k : Int) ∧ gv l k = (ax l (fnd (hl l) l k)).v) := by
    rcases fe_cases l k with ⟨e1, e2, e3, e4⟩ | ⟨e1, e2, e3, e4, e5⟩ | c
    · exact Or.inl ⟨by rw [e1]; exact e2, e4⟩
    · exact Or.inl ⟨by rw [e1]; decide, e5⟩
    · exact Or.inr c
  rcases hno with ⟨e1, e2⟩ | ⟨e1, e2, e3, e4, e5⟩
  · rw [e2]
    have e2' : (fe l k != 0) = true := by simpa using e1
    obtain ⟨sa, sc, rfl⟩ := h.form
    clear h r0 e1 e2
    generalize fe l k = E at *
    generalize fp l k = X at *
    generalize l.length = n at *
    go_enter Try.func20, Try.ntmps20
    go_wp2_with fail
    refine CC.mono ?_
    rintro e w1 ⟨rfl, z⟩
    have b1 := b0.trans (z.mono b0.size)
    go_wp2_with fail
    go_ret2
    exact ⟨ret_two rfl rfl, b1⟩
  · obtain ⟨hb, hr⟩ := terr_zero e2
    have hbd := bn_bd hb
    have hf := fnd_spec (hl_lt hb) hr.free k
    rw [e1, e4] at CC
    rw [e1, e5]
    obtain ⟨b, off, sc, rfl, hlt, hm', hsc, hx⟩ := rd_at h (by omega)
    have hlt2 := hf.lt
    have hxi := cell_v hx hlt2
    clear h e1 e2 e3 e4 e5 hf hx hr hb
    generalize (ax l (fnd (hl l) l k)).v = Y at *
    generalize fnd (hl l) l k = R at *
    have hR : (R : Int) < (l.length : Int) := by omega
    clear r0
    generalize l.length = n at *
    go_enter Try.func20, Try.ntmps20
    go_wp2_with fail
    refine CC.mono ?_
    rintro e w1 ⟨rfl, z⟩
    have b1 := b0.trans (z.mono b0.size)
    have F1 := F0.below z F0.lt
    have c1 := F1.cell
    have hx1 := (b1.cell (p := ⟨b, off + R * 3 + 2, none⟩) hlt).trans hxi
    clear F0 F1 c0 z b0 CC
    go_wp2_with fail
    go_ret2
    exact ⟨ret_two rfl rfl, b1⟩
abbrev Z1 : Array Value := #[.slice none 0 0]
theorem tb_one (sa : Option Addr) (n c : Nat) : (#[Value.slice sa n c]).all (·.oneCell') = true := by simp [Value.oneCell']
theorem new_no (b : Int) (w : World) (h : rb b = false) : Calls Try.prog 10 #[.int .i64 b] w fun e w' => e = .returned (.tuple #[.agg #[.slice none 0 0], .int .i64 1]) ∧ Below w.heap.size w w' := by
  have CR := fun u => right_any b u
  rw [h] at CR
  clear h
  have d0 := (Below.refl w.heap.size w).alloc (Nat.le_refl _) (.cells Z1 24)
  go_enter Try.func10, Try.ntmps10
  go_wp2_with fail
  refine (CR _).mono ?_
  rintro e w1 ⟨rfl, rfl⟩
  go_wp2_with (refine blk_store _ rfl 24 _ _ rfl w.heap.size Z1 rfl rfl _ _ (Blk.new w Z1 24) 1 tb_info rfl rfl (tb_one _ _ _) ?_; intro W3 K3 p3)
  have d1 := p3.below d0 (Nat.le_refl _)
  exact blk_ret2 rfl rfl w.heap.size Z1 24 rfl K3 _ Try.underlying24 rfl 1 tb_info rfl ⟨rfl, d1⟩
theorem new_ok (b : Nat) (w : World) (h1 : 1 ≤ b) (h2 : b ≤ 6) : Calls Try.prog 10 #[.int .i64 (b : Int)] w fun e w' => ∃ v', e = .returned (.tuple #[.agg #[v'], .int .i64 0]) ∧ Own SK w' w.heap.size v' (List.replicate (2 ^ b) z0) ∧ Below w.heap.size w w' := by
  have CR := fun u => right_any (b : Int) u
  have er : rb (b : Int) = true := by unfold rb; simp; omega
  rw [er] at CR
  have hb : b = 1 ∨ b = 2 ∨ b = 3 ∨ b = 4 ∨ b = 5 ∨ b = 6 := by omega
  clear er h1 h2
  have F0 := Blk.new w Z1 24
  have d0 := (Below.refl w.heap.size w).alloc (Nat.le_refl _) (.cells Z1 24)
  have s0 : (w.alloc (.cells Z1 24)).heap.size = w.heap.size + 1 := by simp
  rcases hb with rfl | rfl | rfl | rfl | rfl | rfl
  · go_enter Try.func10, Try.ntmps10
    go_wp2_with fail
    refine (CR _).mono ?_
    rintro e w1 ⟨rfl, rfl⟩
    go_wp2_with (at_make; refine make_full SK z0 rfl _ rfl _ _ rfl (w.heap.size + 1) _ _ 2 rfl rfl (by show 24 * 2 ≤ _; omega) (by unfold maxLen; omega) (by simp) ?_)
    intro w4 O4 p4
    have F4 := F0.below p4 (by omega)
    go_wp2_with (refine blk_store _ rfl 24 _ _ rfl w.heap.size _ rfl rfl _ _ F4 1 tb_info rfl rfl (tb_one _ _ _) ?_; intro W3 K3 p3)
    have d1 := p3.below (d0.trans (p4.mono (by omega))) (Nat.le_refl _)
    have O5 := (O4.but p3 (by simp [Value.ownBlock])).mono (show w.heap.size ≤ w.heap.size + 1 by omega)
    exact blk_ret2 rfl rfl w.heap.size _ 24 rfl K3 _ Try.underlying24 rfl 1 tb_info rfl ⟨_, rfl, O5, d1⟩
  · go_enter Try.func10, Try.ntmps10
    go_wp2_with fail
    refine (CR _).mono ?_
    rintro e w1 ⟨rfl, rfl⟩
    go_wp2_with (at_make; refine make_full SK z0 rfl _ rfl _ _ rfl (w.heap.size + 1) _ _ 4 rfl rfl (by show 24 * 4 ≤ _; omega) (by unfold maxLen; omega) (by simp) ?_)
    intro w4 O4 p4
    have F4 := F0.below p4 (by omega)
    go_wp2_with (refine blk_store _ rfl 24 _ _ rfl w.heap.size _ rfl rfl _ _ F4 1 tb_info rfl rfl (tb_one _ _ _) ?_; intro W3 K3 p3)
    have d1 := p3.below (d0.trans (p4.mono (by omega))) (Nat.le_refl _)
    have O5 := (O4.but p3 (by simp [Value.ownBlock])).mono (show w.heap.size ≤ w.heap.size + 1 by omega)
    exact blk_ret2 rfl rfl w.heap.size _ 24 rfl K3 _ Try.underlying24 rfl 1 tb_info rfl ⟨_, rfl, O5, d1⟩
  · go_enter Try.func10, Try.ntmps10
    go_wp2_with fail
    refine (CR _).mono ?_
    rintro e w1 ⟨rfl, rfl⟩
    go_wp2_with (at_make; refine make_full SK z0 rfl _ rfl _ _ rfl (w.heap.size + 1) _ _ 8 rfl rfl (by show 24 * 8 ≤ _; omega) (by unfold maxLen; omega) (by simp) ?_)
    intro w4 O4 p4
    have F4 := F0.below p4 (by omega)
    go_wp2_with (refine blk_store _ rfl 24 _ _ rfl w.heap.size _ rfl rfl _ _ F4 1 tb_info rfl rfl (tb_one _ _ _) ?_; intro W3 K3 p3)
    have d1 := p3.below (d0.trans (p4.mono (by omega))) (Nat.le_refl _)
    have O5 := (O4.but p3 (by simp [Value.ownBlock])).mono (show w.heap.size ≤ w.heap.size + 1 by omega)
    exact blk_ret2 rfl rfl w.heap.size _ 24 rfl K3 _ Try.underlying24 rfl 1 tb_info rfl ⟨_, rfl, O5, d1⟩
  · go_enter Try.func10, Try.ntmps10
    go_wp2_with fail
    refine (CR _).mono ?_
    rintro e w1 ⟨rfl, rfl⟩
    go_wp2_with (at_make; refine make_full SK z0 rfl _ rfl _ _ rfl (w.heap.size + 1) _ _ 16 rfl rfl (by show 24 * 16 ≤ _; omega) (by unfold maxLen; omega) (by simp) ?_)
    intro w4 O4 p4
    have F4 := F0.below p4 (by omega)
    go_wp2_with (refine blk_store _ rfl 24 _ _ rfl w.heap.size _ rfl rfl _ _ F4 1 tb_info rfl rfl (tb_one _ _ _) ?_; intro W3 K3 p3)
    have d1 := p3.below (d0.trans (p4.mono (by omega))) (Nat.le_refl _)
    have O5 := (O4.but p3 (by simp [Value.ownBlock])).mono (show w.heap.size ≤ w.heap.size + 1 by omega)
    exact blk_ret2 rfl rfl w.heap.size _ 24 rfl K3 _ Try.underlying24 rfl 1 tb_info rfl ⟨_, rfl, O5, d1⟩
  · go_enter Try.func10, Try.ntmps10
    go_wp2_with fail
    refine (CR _).mono ?_
    rintro e w1 ⟨rfl, rfl⟩
    go_wp2_with (at_make; refine make_full SK z0 rfl _ rfl _ _ rfl (w.heap.size + 1) _ _ 32 rfl rfl (by show 24 * 32 ≤ _; omega) (by unfold maxLen; omega) (by simp) ?_)
    intro w4 O4 p4
    have F4 := F0.below p4 (by omega)
    go_wp2_with (refine blk_store _ rfl 24 _ _ rfl w.heap.size _ rfl rfl _ _ F4 1 tb_info rfl rfl (tb_one _ _ _) ?_; intro W3 K3 p3)
    have d1 := p3.below (d0.trans (p4.mono (by omega))) (Nat.le_refl _)
    have O5 := (O4.but p3 (by simp [Value.ownBlock])).mono (show w.heap.size ≤ w.heap.size + 1 by omega)
    exact blk_ret2 rfl rfl w.heap.size _ 24 rfl K3 _ Try.underlying24 rfl 1 tb_info rfl ⟨_, rfl, O5, d1⟩
  · go_enter Try.func10, Try.ntmps10
    go_wp2_with fail
    refine (CR _).mono ?_
    rintro e w1 ⟨rfl, rfl⟩
    go_wp2_with (at_make; refine make_full SK z0 rfl _ rfl _ _ rfl (w.heap.size + 1) _ _ 64 rfl rfl (by show 24 * 64 ≤ _; omega) (by unfold maxLen; omega) (by simp) ?_)
    intro w4 O4 p4
    have F4 := F0.below p4 (by omega)
    go_wp2_with (refine blk_store _ rfl 24 _ _ rfl w.heap.size _ rfl rfl _ _ F4 1 tb_info rfl rfl (tb_one _ _ _) ?_; intro W3 K3 p3)
    have d1 := p3.below (d0.trans (p4.mono (by omega))) (Nat.le_refl _)
    have O5 := (O4.but p3 (by simp [Value.ownBlock])).mono (show w.heap.size ≤ w.heap.size + 1 by omega)
    exact blk_ret2 rfl rfl w.heap.size _ 24 rfl K3 _ Try.underlying24 rfl 1 tb_info rfl ⟨_, rfl, O5, d1⟩
end Go.Proofs.Ytmnmjmbfnecmoaa.tg
