/- What package table's Remove answers. -/
import Derived.Test.YtmnmjmbfnecmoaaTabPut
namespace Go.Proofs.Ytmnmjmbfnecmoaa.tr
open Go.ChangeShapes Go.WideShapes Go.ChangeAt Go.RowKit Go.BigFrame
open Go.Proofs.Ytmnmjmbfnecmoaa Go.Proofs.Ytmnmjmbfnecmoaa.tm Go.Proofs.Ytmnmjmbfnecmoaa.tb Go.Proofs.Ytmnmjmbfnecmoaa.ti Go.Proofs.Ytmnmjmbfnecmoaa.tsh Go.Proofs.Ytmnmjmbfnecmoaa.tc Go.Proofs.Ytmnmjmbfnecmoaa.tg Go.Proofs.Ytmnmjmbfnecmoaa.boxes Go.Proofs.Ytmnmjmbfnecmoaa.rwr
open Go.Proofs.Ytmnmjmbfnecmoaa.rws (Knd Own elem_load)

noncomputable def rl (l : List St) (k : Nat) : List St := if fe l k = 0 then rmv (hl l) l (fnd (hl l) l k) else []
/-- what is known on the way -/
structure Wy (l : List St) (i k n : Nat) (R : List St) (lc : List St) (hole p : Nat) : Prop where
  kv : Kv (hm n) l i k lc hole p
  len : lc.length = n
  kn : ∃ f, kn (hm n) f lc hole p = R ∧ f + stp n i p = n + 1
theorem wy_end {l : List St} {i k n : Nat} {R lc : List St} {hole p : Nat} (h : Wy l i k n R lc hole p) (hu : (ax lc p).u = false) : lc.set hole z0 = R := by
  obtain ⟨f, h1, _⟩ := h.kn
  rw [← h1, kn_end hu]
theorem wy_step {l : List St} {i k n : Nat} {R lc : List St} {hole p : Nat} (hH : ∀ k, hm n k < n) (h : Wy l i k n R lc hole p) (hu : (ax lc p).u = true) : stp n i (nx n p) = stp n i p + 1 ∧
    (fit n (hm n (ax lc p).k) hole p = false → Wy l i k n R lc hole (nx n p)) ∧ (fit n (hm n (ax lc p).k) hole p = true → Wy l i k n R (lc.set hole (ax lc p)) p (nx n p)) := by
  obtain ⟨f, h1, h2⟩ := h.kn
  have hs := kv_step h.kv hu
  have hl := h.len
  rw [hl] at hs
  have hp : stp n i p < n := stp_lt (by rw [← hl]; exact h.kv.ilt)
  have hH' : ∀ k, hm n k < lc.length := by rw [hl]; exact hH
  match f, h2 with
  | 0, h2 => exact absurd h2 (by omega)
  | f + 1, h2 =>
    refine ⟨hs, fun hf => ?_, fun hf => ?_⟩
    · have hf' : fit lc.length (hm n (ax lc p).k) hole p = false := by rw [hl]; exact hf
      have a := kv_stay hH' h.kv hu hf'
      have b := kn_stay (f := f) hu hf'
      rw [hl] at a b
      exact ⟨a, hl, f, by rw [← b]; exact h1, by omega⟩
    · have hf' : fit lc.length (hm n (ax lc p).k) hole p = true := by rw [hl]; exact hf
      have a := kv_move hH' h.kv hu hf'
      have b := kn_move (f := f) hu hf'
      rw [hl] at a b
      exact ⟨a, by rw [List.length_set]; exact hl, f, by rw [← b]; exact h1, by omega⟩
theorem wy_begin {l : List St} {i k : Nat} (hH : ∀ k, hl l k < l.length) (h : Rt (hl l) l) (hi : Has l k i) : Wy l i k l.length (rmv (hl l) l i) l i (nx l.length i) := by
  have hb := kv_begin hH h hi
  exact ⟨hb, rfl, l.length, rfl, by rw [stp_begin hb]⟩
set_option maxHeartbeats 2000000 in
theorem remove_any (v : Value) (l : List St) (k : Nat) (w : World) (h : Rd SK w v l) : Calls Try.prog 18 #[.agg #[v], .int .u64 (k : Int)] w fun e w' => ∃ v', e = .returned (.tuple #[.agg #[v'], .int .i64 (fe l k)]) ∧ Own SK w' w.heap.size v' (rl l k) ∧ Below w.heap.size w w' := by
  have F0 := (Blk.new w #[v] 24).alloc (.cells Z1 24)
  have G0 := Blk.newAt (w.alloc (.cells #[v] 24)) Z1 24 (b := w.heap.size + 1) (by simp)
  have b0 := ((Below.refl w.heap.size w).alloc (Nat.le_refl _) (.cells #[v] 24)).alloc (by simp) (.cells Z1 24)
  have r0 := h.below b0
  have CC := slotOf_any v l k _ r0
  obtain ⟨V, HV⟩ : ∃ V, Hid ((w.alloc (.cells #[v] 24)).alloc (.cells Z1 24) = V) := ⟨_, rfl⟩
  rw [HV.out] at F0 G0 b0 r0 CC
  have c0 := F0.cell
  have sz : w.heap.size + 1 < V.heap.size := G0.lt
  have hno : (fe l k ≠ 0 ∧ rl l k = []) ∨ (fe l k = 0 ∧ terr l = 0 ∧ (ax l (fnd (hl l) l k)).u = true ∧ fp l k = (fnd (hl l) l k : Int) ∧ rl l k = rmv (hl l) l (fnd (hl l) l k)) := by
    rcases fe_cases l k with ⟨e1, e2, e3, e4⟩ | ⟨e1, e2, e3, e4, e5⟩ | ⟨c1, c2, c3, c4, _⟩
    · exact Or.inl ⟨by rw [e1]; exact e2, by unfold rl; rw [e1, if_neg e2]⟩
    · exact Or.inl ⟨by rw [e1]; decide, by unfold rl; rw [e1]; rfl⟩
    · exact Or.inr ⟨c1, c2, c3, c4, by unfold rl; rw [if_pos c1]⟩
  rcases hno with ⟨e1, e2⟩ | ⟨e1, e2, e3, e4, e5⟩
  · rw [e2]
    have e2' : (fe l k != 0) = true := by simpa using e1
    obtain ⟨sa, sc, rfl⟩ := h.form
    clear h r0 e1 e2
    generalize fe l k = E at *
    generalize fp l k = X at *
    generalize l.length = n at *
    go_enter Try.func18, Try.ntmps18
    go_upto_region 1 with fail
    rw [HV.out]
    go_wp2_with fail
    refine CC.mono ?_
    rintro e w1 ⟨rfl, z⟩
    have b1 := b0.trans (z.mono b0.size)
    have G1 := G0.below z G0.lt
    go_wp2_with (refine blk_store _ rfl 24 _ _ rfl (w.heap.size + 1) Z1 rfl rfl _ _ G1 1 tb_info rfl rfl (tb_one _ _ _) ?_; intro W3 K3 p3)
    have d1 := p3.below b1 (by omega)
    exact blk_ret2 rfl rfl (w.heap.size + 1) Z1 24 rfl K3 _ Try.underlying24 rfl 1 tb_info rfl ⟨_, rfl, Own.nil _ _ _, d1⟩
  · obtain ⟨hb, hr⟩ := terr_zero e2
    have hbd := bn_bd hb
    have hf := fnd_spec (hl_lt hb) hr.free k
    have CL := fun u hu => clone_any v l u hu (by omega)
    rw [e1, e4] at CC
    rw [e1, e5]
    have HW : Hid (Wy l (fnd (hl l) l k) k l.length (rmv (hl l) l (fnd (hl l) l k)) l (fnd (hl l) l k) (nx l.length (fnd (hl l) l k))) := wy_begin (hl_lt hb) hr (fnd_yes hf e3)
    have hlt2 := hf.lt
    have HH : Hid (∀ k, hm l.length k < l.length) := hl_lt hb
    have CB := fun g cap a u ha => behind_any (some ⟨g, 0, none⟩) l.length cap a u (by omega) (by omega) ha
    have CT : ∀ (v : Value) (lc : List St) (hole p : Nat) (u : World), Rd SK u v lc → lc.length = l.length → hole < l.length → p < l.length → Calls Try.prog 36 #[v, .int .i64 (hole : Int), .int .i64 (p : Int)] u fun e w' => e = .returned (.bool (fit l.length (hm l.length (ax lc p).k) hole p)) ∧ w' = u := fun v lc hole p u hu hl h1 h2 => by
      have := fits_any v lc hole p u hu (by rw [hl]; exact hb) (by rw [hl]; exact h1) (by rw [hl]; exact h2)
      simp only [tb.hl, hl] at this
      exact this
    obtain ⟨b, off, sc, rfl, hlt, hm', hsc, hx⟩ := rd_at h (by omega)
    clear h e1 e2 e3 e4 e5 hf hx hr hb
    generalize rmv (hl l) l (fnd (hl l) l k) = RES at *
    generalize fnd (hl l) l k = R at *
    generalize hn : l.length = n at *
    go_enter Try.func18, Try.ntmps18
    go_upto_region 1 with fail
    rw [HV.out]
    go_wp2_with fail
    refine CC.mono ?_
    rintro e w1 ⟨rfl, z⟩
    have b1 := b0.trans (z.mono b0.size)
    have r1 := r0.below z
    have F1 := F0.below z F0.lt
    have G1 := G0.below z G0.lt
    have c1 := F1.cell
    have CL1 := CL w1 r1
    clear r0 F0 c0 z b0 CC HV G0 sz CL
    go_wp2_with fail
    refine CL1.mono ?_
    rintro e w4 ⟨v4, rfl, O4, z⟩
    obtain ⟨g, cap, rfl, hgB, hgl, hnc, hcm, _⟩ := O4.form (by rw [hn]; omega)
    have O5 := O4.mono b1.size
    have G4 := G1.below z G1.lt
    have b4 := b1.trans (z.mono b1.size)
    have hgne : g ≠ w.heap.size + 1 := by have := G1.lt; omega
    have hgw : w.heap.size ≤ g := by have := b1.size; omega
    rw [hn] at O5
    try rw [hn]
    clear CL1 c1 z O4 G1 F1 r1
    go_wp2_with fail
    refine (CB g cap R _ hlt2).mono ?_
    rintro e w4 ⟨rfl, rfl⟩
    go_wp2_with fail
    go_loopw [6, 9] (fun s6 s9 wr => ∃ (hole p : Nat) (lc : List St), s6 = .int .i64 (hole : Int) ∧ s9 = .int .i64 (p : Int) ∧ Hid (Wy l R k n RES lc hole p) ∧ Own SK wr w.heap.size (.slice (some ⟨g, 0, none⟩) n cap) lc ∧ Blk wr (w.heap.size + 1) Z1 24 ∧ Below w.heap.size w wr) (fun _ p _ => n - stp n R (intOf p).toNat)
    case atStart => exact ⟨R, nx n R, l, rfl, rfl, HW, O5, G4, b4⟩
    case round =>
      clear O5 G4 b4 HW
      obtain ⟨hole, p, lc, rfl, rfl, HY, O, G, bel⟩ := hrel
      have hlc := HY.out.len
      have hpl : p < n := by have := HY.out.kv.plt; omega
      have hhl : hole < n := by have := HY.out.kv.hlt; omega
      have gp : lc[p]? = some (ax lc p) := ax_get (by omega)
      have cu : wr.cell? ⟨g, p * 3, none⟩ = some (.bool (ax lc p).u) := O.cell (K := SK) gp (i := 0) (by decide)
      have HL : Hid (lc.length = n) := hlc
      have hp' : (p : Int) < (n : Int) := by omega
      have hh' : (hole : Int) < (n : Int) := by omega
      have rdl : Rd SK wr (.slice (some ⟨g, 0, none⟩) n cap) lc := Own.rd O
      clear hlc
      cases hu : (ax lc p).u
      · rw [hu] at cu
        have HE : Hid (lc.set hole z0 = RES) := wy_end HY.out hu
        clear CT CB hu rdl gp HY
        go_wp2_with (refine elem_store SK _ rfl _ _ rfl w.heap.size g n cap lc O hole _ rfl rfl (by rw [HL.out]; exact hhl) z0 rfl ?_)
        intro w6 O6 p6
        rw [HE.out] at O6
        have G6 := p6.blk G (fun e => hgne e.symm)
        have b6 := p6.below bel hgw
        go_wp2_with (refine blk_store _ rfl 24 _ _ rfl (w.heap.size + 1) _ rfl rfl _ _ G6 1 tb_info rfl rfl (tb_one _ _ _) ?_; intro W3 K3 p3)
        have d1 := p3.below b6 (by omega)
        have O7 := O6.but p3 (by simp [Value.ownBlock]; omega)
        exact blk_ret2 rfl rfl (w.heap.size + 1) _ 24 rfl K3 _ Try.underlying24 rfl 1 tb_info rfl ⟨_, rfl, O7, d1⟩
      · rw [hu] at cu
        obtain ⟨hs, hstay, hmove⟩ := wy_step HH.out HY.out hu
        have HS : Hid (stp n R (nx n p) = stp n R p + 1) := hs
        have CT1 := CT _ lc hole p wr rdl HL.out hhl hpl
        have CB1 := fun u => CB g cap p u hpl
        have h2 : stp n R p < n := stp_lt hlt2
        have h3 : stp n R (nx n p) < n := stp_lt hlt2
        clear CT CB hu rdl HY hs
        cases hf : fit n (hm n (ax lc p).k) hole p
        · have HY' : Hid (Wy l R k n RES lc hole (nx n p)) := hstay hf
          rw [hf] at CT1
          clear hf hstay hmove gp
          go_wp2_with fail
          refine CT1.mono ?_
          rintro e wr ⟨rfl, rfl⟩
          go_wp2_with fail
          refine (CB1 _).mono ?_
          rintro e wr ⟨rfl, rfl⟩
          go_wp2_with fail
          go_roundw
          case rel => exact ⟨hole, nx n p, lc, rfl, rfl, HY', O, G, bel⟩
          case measure => have := HS.out; simp [intOf]; omega
        · have HY' : Hid (Wy l R k n RES (lc.set hole (ax lc p)) p (nx n p)) := hmove hf
          rw [hf] at CT1
          clear hf hstay hmove
          go_wp2_with fail
          refine CT1.mono ?_
          rintro e wr ⟨rfl, rfl⟩
          go_wp2_with (first | refine elem_load SK _ rfl _ rfl w.heap.size g n cap lc O p _ rfl rfl _ gp (SK.enc (ax lc p)) rfl _ Try.underlying40 rfl ?_ | refine elem_store SK _ rfl _ _ rfl w.heap.size g n cap lc O hole _ rfl rfl (by rw [HL.out]; exact hhl) (ax lc p) rfl ?_)
          intro w6 O6 p6
          have G6 := p6.blk G (fun e => hgne e.symm)
          have b6 := p6.below bel hgw
          clear O G bel cu
          go_wp2_with fail
          refine (CB1 _).mono ?_
          rintro e w6 ⟨rfl, rfl⟩
          go_wp2_with fail
          go_roundw
          case rel => exact ⟨p, nx n p, _, rfl, rfl, HY', O6, G6, b6⟩
          case measure => have := HS.out; simp [intOf]; omega
end Go.Proofs.Ytmnmjmbfnecmoaa.tr
