/- The walk through custkeep.IpBack. -/
import Derived.Test.YtedbjhpajpakpaaDoorIpParse
import Derived.Test.YtedbjhpajpakpaaDoorIpLives
import Derived.Test.YtedbjhpajpakpaaDoorClass
namespace Go.Proofs.YtedbjhpajpakpaaDoor.ipbk
open Go.ChangeShapes Go.WideShapes Go.ChangeAt Go.RowKit Go.BigFrame
open Go.Proofs.YtedbjhpajpakpaaDoor Go.Proofs.YtedbjhpajpakpaaDoor.EM Go.Proofs.YtedbjhpajpakpaaDoor.ethb Go.Proofs.YtedbjhpajpakpaaDoor.SM Go.Proofs.YtedbjhpajpakpaaDoor.ipb Go.Proofs.YtedbjhpajpakpaaDoor.buf Go.Proofs.YtedbjhpajpakpaaDoor.boxes Go.Proofs.YtedbjhpajpakpaaDoor.ipi Go.Proofs.YtedbjhpajpakpaaDoor.ipw Go.Proofs.YtedbjhpajpakpaaDoor.ipr Go.Proofs.YtedbjhpajpakpaaDoor.ips Go.Proofs.YtedbjhpajpakpaaDoor.ipl Go.Proofs.YtedbjhpajpakpaaDoor.ipp
open Go.Proofs.YtedbjhpajpakpaaDoor.ipm (bytes_ext ext_list size_list)
set_option linter.unusedVariables false

/-- what is known of the first part, where p is written -/
theorem one_facts (p : Pk) (s : ByteArray) (hp : p.Ok) (ha : p.Adr) (hs : s.size ≤ 140737488351232) :
    (∀ u, Calls Tryd.prog 13 #[.agg p.cells] u fun e w' => e = .returned (.tuple #[.string ⟨p.txt.toArray⟩, .int .i64 0]) ∧ Below u.heap.size u w') ∧
    (∀ u, Calls Tryd.prog 14 #[.string ⟨p.txt.toArray⟩] u fun e w' => e = .returned (.tuple #[.agg p.cells, .int .i64 0]) ∧ Below u.heap.size u w') ∧
    (∀ u, Calls Tryd.prog 14 #[.string (⟨p.txt.toArray⟩ ++ s)] u fun e w' => e = .returned (.tuple #[.agg p.cells, .int .i64 0]) ∧ Below u.heap.size u w') ∧
    (∀ u, Calls Tryd.prog 15 #[.string ((⟨p.txt.toArray⟩ : ByteArray).extract 0 (20 + p.o.size))] u fun e w' => e = .returned (.bool true) ∧ sumw.Qd u w') ∧
    (⟨p.txt.toArray⟩ : ByteArray).size = 20 + p.o.size + p.d.size := by
  have zt : (⟨p.txt.toArray⟩ : ByteArray).size = 20 + p.o.size + p.d.size := by
    show p.txt.toArray.size = _
    rw [List.size_toArray, ipm.txt_len]
  have hall := hp.all
  have e1 : ipm.wt p [] = ⟨p.txt.toArray⟩ := by simp [ipm.wt]
  have e2 : ipm.wt p s.data.toList = ⟨p.txt.toArray⟩ ++ s := by
    apply bytes_ext
    simp [ipm.wt]
  refine ⟨fun u => write_ok p u hp ha, fun u => ?_, fun u => ?_, fun u => ?_, zt⟩
  · have := read_any ⟨p.txt.toArray⟩ u (by omega)
    have er : ire ⟨p.txt.toArray⟩ = 0 := by rw [← e1]; exact ipm.wt_ire hp [] ha
    rw [er, show ird ⟨p.txt.toArray⟩ = p by unfold ird; rw [if_pos er, ← e1]; exact ipm.wt_rdp hp [] ha] at this
    exact this
  · have := read_any (⟨p.txt.toArray⟩ ++ s) u (by rw [ByteArray.size_append]; omega)
    have er : ire (⟨p.txt.toArray⟩ ++ s) = 0 := by rw [← e2]; exact ipm.wt_ire hp _ ha
    rw [er, show ird (⟨p.txt.toArray⟩ ++ s) = p by unfold ird; rw [if_pos er, ← e2]; exact ipm.wt_rdp hp _ ha] at this
    exact this
  · have := sumw.right_any ((⟨p.txt.toArray⟩ : ByteArray).extract 0 (20 + p.o.size)) u (by rw [ByteArray.size_extract]; omega)
    rw [ext_list, List.drop_zero, ← e1, ipm.head_list, ipm.right_of, e1] at this
    exact this
/-- what is known of the second, where s is read -/
theorem two_facts (s : ByteArray) (h : ire s = 0) :
    (rdp s).Ok ∧ (rdp s).Adr ∧ (⟨(rdp s).txt.toArray⟩ : ByteArray).size ≤ s.size ∧ 20 ≤ (⟨(rdp s).txt.toArray⟩ : ByteArray).size ∧ (⟨(rdp s).txt.toArray⟩ : ByteArray).extract 0 10 = s.extract 0 10 ∧
      (⟨(rdp s).txt.toArray⟩ : ByteArray).extract 12 (⟨(rdp s).txt.toArray⟩ : ByteArray).size = s.extract 12 (⟨(rdp s).txt.toArray⟩ : ByteArray).size := by
  have R := ipm.red h
  obtain ⟨f1, f2, f3⟩ := ipm.wr_rd h
  have z : (⟨(rdp s).txt.toArray⟩ : ByteArray).size = an s := by
    show (rdp s).txt.toArray.size = _
    rw [List.size_toArray, f3]
  have := R.a; have := R.ha; have := R.h0
  refine ⟨R.ok, ipm.rdp_adr s, by omega, by omega, ?_, ?_⟩
  · apply bytes_ext
    rw [ext_list, ext_list, List.drop_zero, List.drop_zero]
    exact f1
  · apply bytes_ext
    rw [ext_list, ext_list, z]
    show ((rdp s).txt.take (an s)).drop 12 = _
    rw [List.take_of_length_le (by omega)]
    exact f2
structure K2 (w : World) (b1 b2 : Nat) (P : Pk) (W : World) : Prop where
  x : Blk W b1 P.cells 31
  y : Blk W b2 P.cells 31
  bel : Below w.heap.size w W
theorem K2.drew {w W : World} {b1 b2 : Nat} {P : Pk} (h : K2 w b1 b2 P W) : K2 w b1 b2 P W.drew := ⟨h.x, h.y, Below.drew h.bel⟩
set_option maxRecDepth 20000 in
set_option maxHeartbeats 4000000 in
theorem back00 (p : Pk) (s : ByteArray) (a : Int) (w : World) (hl : 20 + p.o.size + p.d.size ≤ 9223372036854775807) (ha : p.Adr) (hs : s.size ≤ 140737488351232) (a0 : 0 ≤ a) (a1 : a ≤ 4294967295) (hE : Env w) (h1 : ¬ p.err = 0) (h2 : ¬ ire s = 0) :
    Calls Tryd.prog 4 #[.agg p.cells, .string s, .int .u32 a] w fun e w' => e = .returned (.bool true) ∧ Below w.heap.size w w' := by
  have CS := fun u (h : Env u) => show_any a u a0 a1 h.tab
  have CP := fun u (h : Env u) => parse_any ⟨(shw a).toArray⟩ u h
  rw [(shown_back a a0 a1).1, (shown_back a a0 a1).2] at CP
  generalize (⟨(shw a).toArray⟩ : ByteArray) = A at CS CP
  have CW := fun u => write_bad p u hl h1
  generalize p.err = er at CW h1
  have h1' : (er == 0) = false := by simpa using h1
  clear h1
  have CR3 := fun u => read_any s u (by omega)
  generalize ird s = P at CR3
  generalize ire s = er2 at CR3 h2
  have h2' : (er2 == 0) = false := by simpa using h2
  clear h2
  have F0 : Blk (w.alloc (.cells p.cells 31)) w.heap.size p.cells 31 := Blk.new _ _ _
  have b0 := (Below.refl w.heap.size w).alloc (Nat.le_refl _) (.cells p.cells 31)
  go_enter Tryd.func4, Tryd.ntmps4
  go_wp2_with (refine blk_load _ rfl 31 _ rfl w.heap.size rfl _ _ F0 _ Tryd.underlying31 rfl 11 pk_info rfl ?_)
  refine (CW _).mono ?_
  rintro r w1 ⟨rfl, hb1⟩
  have F1 := F0.below hb1 F0.lt
  have b1 := b0.trans (hb1.mono b0.size)
  clear CW F0 b0 hb1
  go_wp2_with fail
  clear F1
  refine (CR3 _).mono ?_
  rintro r x1 ⟨rfl, hc1⟩
  have d1' := b1.trans (hc1.mono b1.size)
  have b2 := d1'.alloc d1'.size (.cells P.cells 31)
  clear CR3 hc1 d1' b1
  go_wp2_with fail
  refine (CS _ (hE.below b2)).mono ?_
  rintro r w7 ⟨rfl, hb7⟩
  have b7 := b2.trans (hb7.mono b2.size)
  clear hb7 b2 CS
  go_wp2_with fail
  refine (CP _ (hE.below b7)).mono ?_
  rintro r w8 ⟨rfl, hb8⟩
  have b8 := b7.trans (hb8.mono b7.size)
  clear hb8 b7 CP
  go_wp2_with fail
  refine (lives _ (hE.below b8).tab).mono ?_
  rintro r w9 ⟨rfl, hb9⟩
  have b9 := b8.trans (hb9.mono b8.size)
  go_wp2_with fail
  go_ret
  exact ⟨rfl, b9⟩
set_option maxRecDepth 20000 in
set_option maxHeartbeats 4000000 in
theorem back01 (p : Pk) (s : ByteArray) (a : Int) (w : World) (hl : 20 + p.o.size + p.d.size ≤ 9223372036854775807) (ha : p.Adr) (hs : s.size ≤ 140737488351232) (a0 : 0 ≤ a) (a1 : a ≤ 4294967295) (hE : Env w) (h1 : ¬ p.err = 0) (h2 : ire s = 0) :
    Calls Tryd.prog 4 #[.agg p.cells, .string s, .int .u32 a] w fun e w' => e = .returned (.bool true) ∧ Below w.heap.size w w' := by
  have CS := fun u (h : Env u) => show_any a u a0 a1 h.tab
  have CP := fun u (h : Env u) => parse_any ⟨(shw a).toArray⟩ u h
  rw [(shown_back a a0 a1).1, (shown_back a a0 a1).2] at CP
  generalize (⟨(shw a).toArray⟩ : ByteArray) = A at CS CP
  have CW := fun u => write_bad p u hl h1
  generalize p.err = er at CW h1
  have h1' : (er == 0) = false := by simpa using h1
  clear h1
  obtain ⟨k1, k2, z1, z2, hX, hY⟩ := two_facts s h2
  obtain ⟨CW2, CR4, _, _, _⟩ := one_facts (rdp s) s k1 k2 hs
  have CR3 := fun u => read_any s u (by omega)
  rw [h2, show ird s = rdp s by unfold ird; rw [if_pos h2]] at CR3
  generalize (⟨(rdp s).txt.toArray⟩ : ByteArray) = T2 at CW2 CR4 z1 z2 hX hY
  generalize rdp s = P at CW2 CR3 CR4
  clear k1 k2 h2
  have F0 : Blk (w.alloc (.cells p.cells 31)) w.heap.size p.cells 31 := Blk.new _ _ _
  have b0 := (Below.refl w.heap.size w).alloc (Nat.le_refl _) (.cells p.cells 31)
  go_enter Tryd.func4, Tryd.ntmps4
  go_wp2_with (refine blk_load _ rfl 31 _ rfl w.heap.size rfl _ _ F0 _ Tryd.underlying31 rfl 11 pk_info rfl ?_)
  refine (CW _).mono ?_
  rintro r w1 ⟨rfl, hb1⟩
  have F1 := F0.below hb1 F0.lt
  have b1 := b0.trans (hb1.mono b0.size)
  clear CW F0 b0 hb1
  go_wp2_with fail
  clear F1
  refine (CR3 _).mono ?_
  rintro r x1 ⟨rfl, hc1⟩
  have Q1 := Blk.new x1 P.cells 31
  have d1' := b1.trans (hc1.mono b1.size)
  have d1 := d1'.alloc d1'.size (.cells P.cells 31)
  clear CR3 hc1 d1' b1
  go_wp2_with (refine blk_load _ rfl 31 _ rfl x1.heap.size rfl _ _ Q1 _ Tryd.underlying31 rfl 11 pk_info rfl ?_)
  refine (CW2 _).mono ?_
  rintro r x2 ⟨rfl, hc2⟩
  have Q2 := Q1.below hc2 Q1.lt
  have d2 := d1.trans (hc2.mono d1.size)
  clear CW2 hc2 Q1 d1
  go_wp2_with fail
  refine (CR4 _).mono ?_
  rintro r x3 ⟨rfl, hc3⟩
  have Q3 := (Q2.below hc3 Q2.lt).alloc (.cells P.cells 31)
  have X3 := Blk.new x3 P.cells 31
  have d3' := d2.trans (hc3.mono d2.size)
  have d3 := d3'.alloc d3'.size (.cells P.cells 31)
  clear CR4 hc3 Q2 d2 d3'
  have g1 : (T2.size : Int) ≤ s.size := by omega
  have g2 : (10 : Int) ≤ T2.size := by omega
  have g3 : (12 : Int) ≤ T2.size := by omega
  have g4 : (10 : Int) ≤ s.size := by omega
  have g5 : decide (s.size < T2.size) = false := by simp; omega
  clear z1 z2
  go_upto_region 11 with fail
  have K : K2 w x3.heap.size x1.heap.size P _ := ⟨X3, Q3, d3⟩
  have ne : Nonempty (cls.In (K2 w x3.heap.size x1.heap.size P)) := ⟨⟨_, K⟩⟩
  have c1 : ∀ (x : cls.In (K2 w x3.heap.size x1.heap.size P)) k, x.W.cell? ⟨x3.heap.size, k, none⟩ = P.cells[k]? := fun x => x.h.x.cell
  have c2 : ∀ (x : cls.In (K2 w x3.heap.size x1.heap.size P)) k, x.W.cell? ⟨x1.heap.size, k, none⟩ = P.cells[k]? := fun x => x.h.y.cell
  refine cls.wp_region_class (K2 w x3.heap.size x1.heap.size P) (by kernel_rfl) (by kernel_rfl) (K2.drew K) ?_
  repeat (go_big_quiet_step (fail))
  refine wpQuiet_nil ?_
  intro _ hx
  obtain ⟨y, rfl⟩ := hx
  obtain ⟨x4, _, _, b2⟩ := y
  clear K ne c1 c2 Q3 X3 d3
  go_wp2_with fail
  refine (CS _ (hE.below b2)).mono ?_
  rintro r w7 ⟨rfl, hb7⟩
  have b7 := b2.trans (hb7.mono b2.size)
  clear hb7 b2 CS
  go_wp2_with fail
  refine (CP _ (hE.below b7)).mono ?_
  rintro r w8 ⟨rfl, hb8⟩
  have b8 := b7.trans (hb8.mono b7.size)
  clear hb8 b7 CP
  go_wp2_with fail
  refine (lives _ (hE.below b8).tab).mono ?_
  rintro r w9 ⟨rfl, hb9⟩
  have b9 := b8.trans (hb9.mono b8.size)
  go_wp2_with fail
  go_ret
  exact ⟨rfl, b9⟩
set_option maxRecDepth 20000 in
set_option maxHeartbeats 4000000 in
theorem back10 (p : Pk) (s : ByteArray) (a : Int) (w : World) (hl : 20 + p.o.size + p.d.size ≤ 9223372036854775807) (ha : p.Adr) (hs : s.size ≤ 140737488351232) (a0 : 0 ≤ a) (a1 : a ≤ 4294967295) (hE : Env w) (h1 : p.err = 0) (h2 : ¬ ire s = 0) :
    Calls Tryd.prog 4 #[.agg p.cells, .string s, .int .u32 a] w fun e w' => e = .returned (.bool true) ∧ Below w.heap.size w w' := by
  have CS := fun u (h : Env u) => show_any a u a0 a1 h.tab
  have CP := fun u (h : Env u) => parse_any ⟨(shw a).toArray⟩ u h
  rw [(shown_back a a0 a1).1, (shown_back a a0 a1).2] at CP
  generalize (⟨(shw a).toArray⟩ : ByteArray) = A at CS CP
  obtain ⟨CW, CR1, CR2, CG, zt⟩ := one_facts p s (Pk.ok h1) ha hs
  have hall := (Pk.ok h1).all
  have ho := (Pk.ok h1).o1
  have sl : ∀ u, (Instr.slice 9 (.string ⟨p.txt.toArray⟩) none (some (.int .i64 (20 + p.o.size))) none).run Tryd.prog u = .ok (.string ((⟨p.txt.toArray⟩ : ByteArray).extract 0 (20 + p.o.size))) u := fun u => by
    have := run_slice_string_h u 9 ⟨p.txt.toArray⟩ Tryd.underlying9 .i64 (20 + p.o.size) (by omega) (by rw [zt]; omega)
    rw [this]
    rw [show (20 + (p.o.size : Int)).toNat = 20 + p.o.size by omega]
  generalize (⟨p.txt.toArray⟩ : ByteArray).extract 0 (20 + p.o.size) = H at CG sl
  generalize (⟨p.txt.toArray⟩ : ByteArray) = T at CW CR1 CR2 zt sl
  have zt' : (20 : Int) + p.o.size ≤ T.size := by omega
  have zsum : (T.size : Int) + s.size ≤ 281474976710656 := by omega
  clear h1
  have CR3 := fun u => read_any s u (by omega)
  generalize ird s = P at CR3
  generalize ire s = er2 at CR3 h2
  have h2' : (er2 == 0) = false := by simpa using h2
  clear h2
  have F0 : Blk (w.alloc (.cells p.cells 31)) w.heap.size p.cells 31 := Blk.new _ _ _
  have b0 := (Below.refl w.heap.size w).alloc (Nat.le_refl _) (.cells p.cells 31)
  go_enter Tryd.func4, Tryd.ntmps4
  go_wp2_with (refine blk_load _ rfl 31 _ rfl w.heap.size rfl _ _ F0 _ Tryd.underlying31 rfl 11 pk_info rfl ?_)
  refine (CW _).mono ?_
  rintro r w1 ⟨rfl, hb1⟩
  have F1 := F0.below hb1 F0.lt
  have b1 := b0.trans (hb1.mono b0.size)
  clear CW F0 b0 hb1
  go_wp2_with fail
  refine (CR1 _).mono ?_
  rintro r w2 ⟨rfl, hb2⟩
  have F2 := (F1.below hb2 F1.lt).alloc (.cells p.cells 31)
  have G2 := Blk.new w2 p.cells 31
  have b2' := b1.trans (hb2.mono b1.size)
  have b2 := b2'.alloc b2'.size (.cells p.cells 31)
  clear CR1 hb2 b2' b1 F1
  go_wp2_with fail
  refine (CR2 _).mono ?_
  rintro r w3 ⟨rfl, hb3⟩
  have F3 := F2.below hb3 F2.lt
  have G3 := G2.below hb3 G2.lt
  have b3 := b2.trans (hb3.mono b2.size)
  have cF := F3.cell
  have cG := G3.cell
  have lF := F3.lt
  have lG := G3.lt
  have b4 := b3.alloc b3.size (.cells p.cells 31)
  clear CR2 hb3 b2 F2 G2
  go_wp2_with fail
  refine (CG _).mono ?_
  rintro r w4 ⟨rfl, q4⟩
  have F1 := True.intro
  have b1 := b4.trans (qd_below q4)
  clear CG q4 b4 b3 F3 G3 cF cG lF lG
  go_wp2_with fail
  clear F1
  refine (CR3 _).mono ?_
  rintro r x1 ⟨rfl, hc1⟩
  have d1' := b1.trans (hc1.mono b1.size)
  have b2 := d1'.alloc d1'.size (.cells P.cells 31)
  clear CR3 hc1 d1' b1
  go_wp2_with fail
  refine (CS _ (hE.below b2)).mono ?_
  rintro r w7 ⟨rfl, hb7⟩
  have b7 := b2.trans (hb7.mono b2.size)
  clear hb7 b2 CS
  go_wp2_with fail
  refine (CP _ (hE.below b7)).mono ?_
  rintro r w8 ⟨rfl, hb8⟩
  have b8 := b7.trans (hb8.mono b7.size)
  clear hb8 b7 CP
  go_wp2_with fail
  refine (lives _ (hE.below b8).tab).mono ?_
  rintro r w9 ⟨rfl, hb9⟩
  have b9 := b8.trans (hb9.mono b8.size)
  go_wp2_with fail
  go_ret
  exact ⟨rfl, b9⟩
set_option maxRecDepth 20000 in
set_option maxHeartbeats 4000000 in
theorem back11 (p : Pk) (s : ByteArray) (a : Int) (w : World) (hl : 20 + p.o.size + p.d.size ≤ 9223372036854775807) (ha : p.Adr) (hs : s.size ≤ 140737488351232) (a0 : 0 ≤ a) (a1 : a ≤ 4294967295) (hE : Env w) (h1 : p.err = 0) (h2 : ire s = 0) :
    Calls Tryd.prog 4 #[.agg p.cells, .string s, .int .u32 a] w fun e w' => e = .returned (.bool true) ∧ Below w.heap.size w w' := by
  have CS := fun u (h : Env u) => show_any a u a0 a1 h.tab
  have CP := fun u (h : Env u) => parse_any ⟨(shw a).toArray⟩ u h
  rw [(shown_back a a0 a1).1, (shown_back a a0 a1).2] at CP
  generalize (⟨(shw a).toArray⟩ : ByteArray) = A at CS CP
  obtain ⟨CW, CR1, CR2, CG, zt⟩ := one_facts p s (Pk.ok h1) ha hs
  have hall := (Pk.ok h1).all
  have ho := (Pk.ok h1).o1
  have sl : ∀ u, (Instr.slice 9 (.string ⟨p.txt.toArray⟩) none (some (.int .i64 (20 + p.o.size))) none).run Tryd.prog u = .ok (.string ((⟨p.txt.toArray⟩ : ByteArray).extract 0 (20 + p.o.size))) u := fun u => by
    have := run_slice_string_h u 9 ⟨p.txt.toArray⟩ Tryd.underlying9 .i64 (20 + p.o.size) (by omega) (by rw [zt]; omega)
    rw [this]
    rw [show (20 + (p.o.size : Int)).toNat = 20 + p.o.size by omega]
  generalize (⟨p.txt.toArray⟩ : ByteArray).extract 0 (20 + p.o.size) = H at CG sl
  generalize (⟨p.txt.toArray⟩ : ByteArray) = T at CW CR1 CR2 zt sl
  have zt' : (20 : Int) + p.o.size ≤ T.size := by omega
  have zsum : (T.size : Int) + s.size ≤ 281474976710656 := by omega
  clear h1
  obtain ⟨k1, k2, z1, z2, hX, hY⟩ := two_facts s h2
  obtain ⟨CW2, CR4, _, _, _⟩ := one_facts (rdp s) s k1 k2 hs
  have CR3 := fun u => read_any s u (by omega)
  rw [h2, show ird s = rdp s by unfold ird; rw [if_pos h2]] at CR3
  generalize (⟨(rdp s).txt.toArray⟩ : ByteArray) = T2 at CW2 CR4 z1 z2 hX hY
  generalize rdp s = P at CW2 CR3 CR4
  clear k1 k2 h2
  have F0 : Blk (w.alloc (.cells p.cells 31)) w.heap.size p.cells 31 := Blk.new _ _ _
  have b0 := (Below.refl w.heap.size w).alloc (Nat.le_refl _) (.cells p.cells 31)
  go_enter Tryd.func4, Tryd.ntmps4
  go_wp2_with (refine blk_load _ rfl 31 _ rfl w.heap.size rfl _ _ F0 _ Tryd.underlying31 rfl 11 pk_info rfl ?_)
  refine (CW _).mono ?_
  rintro r w1 ⟨rfl, hb1⟩
  have F1 := F0.below hb1 F0.lt
  have b1 := b0.trans (hb1.mono b0.size)
  clear CW F0 b0 hb1
  go_wp2_with fail
  refine (CR1 _).mono ?_
  rintro r w2 ⟨rfl, hb2⟩
  have F2 := (F1.below hb2 F1.lt).alloc (.cells p.cells 31)
  have G2 := Blk.new w2 p.cells 31
  have b2' := b1.trans (hb2.mono b1.size)
  have b2 := b2'.alloc b2'.size (.cells p.cells 31)
  clear CR1 hb2 b2' b1 F1
  go_wp2_with fail
  refine (CR2 _).mono ?_
  rintro r w3 ⟨rfl, hb3⟩
  have F3 := F2.below hb3 F2.lt
  have G3 := G2.below hb3 G2.lt
  have b3 := b2.trans (hb3.mono b2.size)
  have cF := F3.cell
  have cG := G3.cell
  have lF := F3.lt
  have lG := G3.lt
  have b4 := b3.alloc b3.size (.cells p.cells 31)
  clear CR2 hb3 b2 F2 G2
  go_wp2_with fail
  refine (CG _).mono ?_
  rintro r w4 ⟨rfl, q4⟩
  have F1 := True.intro
  have b1 := b4.trans (qd_below q4)
  clear CG q4 b4 b3 F3 G3 cF cG lF lG
  go_wp2_with fail
  clear F1
  refine (CR3 _).mono ?_
  rintro r x1 ⟨rfl, hc1⟩
  have Q1 := Blk.new x1 P.cells 31
  have d1' := b1.trans (hc1.mono b1.size)
  have d1 := d1'.alloc d1'.size (.cells P.cells 31)
  clear CR3 hc1 d1' b1
  go_wp2_with (refine blk_load _ rfl 31 _ rfl x1.heap.size rfl _ _ Q1 _ Tryd.underlying31 rfl 11 pk_info rfl ?_)
  refine (CW2 _).mono ?_
  rintro r x2 ⟨rfl, hc2⟩
  have Q2 := Q1.below hc2 Q1.lt
  have d2 := d1.trans (hc2.mono d1.size)
  clear CW2 hc2 Q1 d1
  go_wp2_with fail
  refine (CR4 _).mono ?_
  rintro r x3 ⟨rfl, hc3⟩
  have Q3 := (Q2.below hc3 Q2.lt).alloc (.cells P.cells 31)
  have X3 := Blk.new x3 P.cells 31
  have d3' := d2.trans (hc3.mono d2.size)
  have d3 := d3'.alloc d3'.size (.cells P.cells 31)
  clear CR4 hc3 Q2 d2 d3'
  have g1 : (T2.size : Int) ≤ s.size := by omega
  have g2 : (10 : Int) ≤ T2.size := by omega
  have g3 : (12 : Int) ≤ T2.size := by omega
  have g4 : (10 : Int) ≤ s.size := by omega
  have g5 : decide (s.size < T2.size) = false := by simp; omega
  clear z1 z2
  go_upto_region 11 with fail
  have K : K2 w x3.heap.size x1.heap.size P _ := ⟨X3, Q3, d3⟩
  have ne : Nonempty (cls.In (K2 w x3.heap.size x1.heap.size P)) := ⟨⟨_, K⟩⟩
  have c1 : ∀ (x : cls.In (K2 w x3.heap.size x1.heap.size P)) k, x.W.cell? ⟨x3.heap.size, k, none⟩ = P.cells[k]? := fun x => x.h.x.cell
  have c2 : ∀ (x : cls.In (K2 w x3.heap.size x1.heap.size P)) k, x.W.cell? ⟨x1.heap.size, k, none⟩ = P.cells[k]? := fun x => x.h.y.cell
  refine cls.wp_region_class (K2 w x3.heap.size x1.heap.size P) (by kernel_rfl) (by kernel_rfl) (K2.drew K) ?_
  repeat (go_big_quiet_step (fail))
  refine wpQuiet_nil ?_
  intro _ hx
  obtain ⟨y, rfl⟩ := hx
  obtain ⟨x4, _, _, b2⟩ := y
  clear K ne c1 c2 Q3 X3 d3
  go_wp2_with fail
  refine (CS _ (hE.below b2)).mono ?_
  rintro r w7 ⟨rfl, hb7⟩
  have b7 := b2.trans (hb7.mono b2.size)
  clear hb7 b2 CS
  go_wp2_with fail
  refine (CP _ (hE.below b7)).mono ?_
  rintro r w8 ⟨rfl, hb8⟩
  have b8 := b7.trans (hb8.mono b7.size)
  clear hb8 b7 CP
  go_wp2_with fail
  refine (lives _ (hE.below b8).tab).mono ?_
  rintro r w9 ⟨rfl, hb9⟩
  have b9 := b8.trans (hb9.mono b8.size)
  go_wp2_with fail
  go_ret
  exact ⟨rfl, b9⟩
end Go.Proofs.YtedbjhpajpakpaaDoor.ipbk
