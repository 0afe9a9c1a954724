/- The walk through custlaw.PrefixPuts. -/
import Derived.Test.YtiddpkppfpdfhaaPrRem
import Derived.Test.YtiddpkppfpdfhaaPfAny0
namespace Go.Proofs.Ytiddpkppfpdfhaa.pf
open Go.ChangeShapes Go.WideShapes Go.ChangeAt Go.RowKit Go.BigFrame
open Go.Proofs.Ytiddpkppfpdfhaa Go.Proofs.Ytiddpkppfpdfhaa.pm Go.Proofs.Ytiddpkppfpdfhaa.boxes Go.Proofs.Ytiddpkppfpdfhaa.rwr Go.Proofs.Ytiddpkppfpdfhaa.rwat
open Go.Proofs.Ytiddpkppfpdfhaa.rws (Knd Own)

theorem tput_ex (v : Value) (ns : List Nd) (a : Nat) (l val : Int) (w : World) (hr : Rd DK w v ns) (ha : a < 4294967296) :
    Calls Try.prog 10 #[.agg (TC v), .agg (NC a l), .int .i64 val] w fun e w' => ∃ v', e = .returned (.tuple #[.agg (TC v'), .int .i64 (putE ns a l val)]) ∧ Own DK w' w.heap.size v' (putL ns a l val) ∧ Below w.heap.size w w' := tput_any v ns a l val w hr ha
theorem trem_ex (v : Value) (ns : List Nd) (a : Nat) (l : Int) (w : World) (hr : Rd DK w v ns) (ha : a < 4294967296) :
    Calls Try.prog 12 #[.agg (TC v), .agg (NC a l)] w fun e w' => ∃ v', e = .returned (.tuple #[.agg (TC v'), .int .i64 (remE ns a l)]) ∧ Own DK w' w.heap.size v' (remL ns a l) ∧ Below w.heap.size w w' := trem_any v ns a l w hr ha
set_option maxRecDepth 20000 in
set_option maxHeartbeats 8000000 in
theorem puts_walk (v : Value) (ns : List Nd) (a : Nat) (l x : Int) (w : World) (hr : Rd DK w v ns) (ha : a < 4294967296) :
    Calls Try.prog 3 #[.agg (TC v), .agg (NC a l), .int .i64 x] w fun e w' => e = .returned (.bool true) ∧ Below w.heap.size w w' := by
  have P1 := fun u hu => put_any v ns a l x u hu ha
  have P2 := fun u hu => tput_ex v ns a l x u hu ha
  have R1 := fun u hu => rem_any v ns a l u hu
  have R2 := fun u hu => trem_ex v ns a l u hu ha
  have K1 := fun u hu => check_any v ns u hu
  have K2 := fun u hu => right_any v ns u hu
  clear ha
  generalize putE ns a l x = E1 at *
  generalize putL ns a l x = L1 at *
  generalize remE ns a l = E2 at *
  generalize remL ns a l = L2 at *
  generalize chk ns 2 4 = c at *
  have b0 := ((Below.refl w.heap.size w).alloc (Nat.le_refl _) (.cells (TC v) 24)).alloc (by simp) (.cells (NC a l) 27)
  have F0 := (Blk.new w (TC v) 24).alloc (.cells (NC a l) 27)
  have F1 := Blk.newAt (w.alloc (.cells (TC v) 24)) (NC a l) 27 (b := w.heap.size + 1) (by simp)
  replace hr := hr.below b0
  obtain ⟨sa, sc, e_v⟩ := hr.form
  generalize hn : ns.length = n at *
  clear hn
  subst e_v
  go_enter Try.func3, Try.ntmps3
  go_upto_region 1 with fail
  generalize hV : (w.alloc (.cells (TC (.slice sa n sc)) 24)).alloc (.cells (NC a l) 27) = V0 at *
  clear hV
  have C := P1 V0 hr
  have cF0 := F0.cell
  have cF1 := F1.cell
  go_wp2_with fail
  refine C.mono ?_
  rintro e W1 ⟨v1, rfl, O1, z⟩
  clear cF0 cF1
  replace F0 := F0.below z F0.lt
  replace F1 := F1.below z F1.lt
  replace hr := hr.below z
  replace b0 := b0.trans (z.mono b0.size)
  clear z
  clear C P1
  have q1 := Own.rd O1
  clear O1
  obtain ⟨sa1, sc1, e1⟩ := q1.form
  obtain ⟨n1, hn1⟩ : ∃ n1, n1 = L1.length := ⟨_, rfl⟩
  rw [← hn1] at e1
  subst e1
  clear hn1
  have dA := (Below.refl W1.heap.size W1).alloc (Nat.le_refl _) (.cells ZT 24)
  go_upto_region 2 with (refine blk_store _ rfl 24 _ _ rfl W1.heap.size (TC (.slice sa1 n1 sc1)) rfl rfl _ _ (Blk.new W1 ZT 24) 1 tr_info rfl rfl (tk_one _ ⟨_, _, _, rfl⟩) ?_; intro V1 A1 p)
  have zz := p.below dA (Nat.le_refl _)
  clear dA p
  replace F0 := F0.below zz F0.lt
  replace F1 := F1.below zz F1.lt
  replace hr := hr.below zz
  replace q1 := q1.below zz
  replace b0 := b0.trans (zz.mono b0.size)
  clear zz
  generalize W1.heap.size = xA1 at *
  have C := P2 V1 hr
  have cF0 := F0.cell
  have cF1 := F1.cell
  go_wp2_with fail
  refine C.mono ?_
  rintro e W2 ⟨v2, rfl, O2, z⟩
  clear cF0 cF1
  replace F0 := F0.below z F0.lt
  replace F1 := F1.below z F1.lt
  replace A1 := A1.below z A1.lt
  replace hr := hr.below z
  replace q1 := q1.below z
  replace b0 := b0.trans (z.mono b0.size)
  clear z
  clear C P2
  have q2 := Own.rd O2
  clear O2
  obtain ⟨sa2, sc2, e2⟩ := q2.form
  obtain ⟨n2, hn2⟩ : ∃ n2, n2 = L1.length := ⟨_, rfl⟩
  rw [← hn2] at e2
  subst e2
  clear hn2
  have dA := (Below.refl W2.heap.size W2).alloc (Nat.le_refl _) (.cells ZT 24)
  go_upto_region 3 with (refine blk_store _ rfl 24 _ _ rfl W2.heap.size (TC (.slice sa2 n2 sc2)) rfl rfl _ _ (Blk.new W2 ZT 24) 1 tr_info rfl rfl (tk_one _ ⟨_, _, _, rfl⟩) ?_; intro V2 A2 p)
  have zz := p.below dA (Nat.le_refl _)
  clear dA p
  replace F0 := F0.below zz F0.lt
  replace F1 := F1.below zz F1.lt
  replace A1 := A1.below zz A1.lt
  replace hr := hr.below zz
  replace q1 := q1.below zz
  replace q2 := q2.below zz
  replace b0 := b0.trans (zz.mono b0.size)
  clear zz
  generalize W2.heap.size = xA2 at *
  have C := R1 V2 hr
  have cF0 := F0.cell
  have cF1 := F1.cell
  go_wp2_with fail
  refine C.mono ?_
  rintro e W3 ⟨v3, rfl, O3, z⟩
  clear cF0 cF1
  replace F0 := F0.below z F0.lt
  replace F1 := F1.below z F1.lt
  replace A1 := A1.below z A1.lt
  replace A2 := A2.below z A2.lt
  replace hr := hr.below z
  replace q1 := q1.below z
  replace q2 := q2.below z
  replace b0 := b0.trans (z.mono b0.size)
  clear z
  clear C R1
  have q3 := Own.rd O3
  clear O3
  obtain ⟨sa3, sc3, e3⟩ := q3.form
  obtain ⟨n3, hn3⟩ : ∃ n3, n3 = L2.length := ⟨_, rfl⟩
  rw [← hn3] at e3
  subst e3
  clear hn3
  have dA := (Below.refl W3.heap.size W3).alloc (Nat.le_refl _) (.cells ZT 24)
  go_upto_region 4 with (refine blk_store _ rfl 24 _ _ rfl W3.heap.size (TC (.slice sa3 n3 sc3)) rfl rfl _ _ (Blk.new W3 ZT 24) 1 tr_info rfl rfl (tk_one _ ⟨_, _, _, rfl⟩) ?_; intro V3 A3 p)
  have zz := p.below dA (Nat.le_refl _)
  clear dA p
  replace F0 := F0.below zz F0.lt
  replace F1 := F1.below zz F1.lt
  replace A1 := A1.below zz A1.lt
  replace A2 := A2.below zz A2.lt
  replace hr := hr.below zz
  replace q1 := q1.below zz
  replace q2 := q2.below zz
  replace q3 := q3.below zz
  replace b0 := b0.trans (zz.mono b0.size)
  clear zz
  generalize W3.heap.size = xA3 at *
  have C := R2 V3 hr
  have cF0 := F0.cell
  have cF1 := F1.cell
  go_wp2_with fail
  refine C.mono ?_
  rintro e W4 ⟨v4, rfl, O4, z⟩
  clear cF0 cF1
  replace F0 := F0.below z F0.lt
  replace F1 := F1.below z F1.lt
  replace A1 := A1.below z A1.lt
  replace A2 := A2.below z A2.lt
  replace A3 := A3.below z A3.lt
  replace hr := hr.below z
  replace q1 := q1.below z
  replace q2 := q2.below z
  replace q3 := q3.below z
  replace b0 := b0.trans (z.mono b0.size)
  clear z
  clear C R2
  have q4 := Own.rd O4
  clear O4
  obtain ⟨sa4, sc4, e4⟩ := q4.form
  obtain ⟨n4, hn4⟩ : ∃ n4, n4 = L2.length := ⟨_, rfl⟩
  rw [← hn4] at e4
  subst e4
  clear hn4
  have dA := (Below.refl W4.heap.size W4).alloc (Nat.le_refl _) (.cells ZT 24)
  go_upto_region 5 with (refine blk_store _ rfl 24 _ _ rfl W4.heap.size (TC (.slice sa4 n4 sc4)) rfl rfl _ _ (Blk.new W4 ZT 24) 1 tr_info rfl rfl (tk_one _ ⟨_, _, _, rfl⟩) ?_; intro V4 A4 p)
  have zz := p.below dA (Nat.le_refl _)
  clear dA p
  replace F0 := F0.below zz F0.lt
  replace F1 := F1.below zz F1.lt
  replace A1 := A1.below zz A1.lt
  replace A2 := A2.below zz A2.lt
  replace A3 := A3.below zz A3.lt
  replace hr := hr.below zz
  replace q1 := q1.below zz
  replace q2 := q2.below zz
  replace q3 := q3.below zz
  replace q4 := q4.below zz
  replace b0 := b0.trans (zz.mono b0.size)
  clear zz
  generalize W4.heap.size = xA4 at *
  have nn := ab.ne V4
  have c0 := ab.cells F0
  have c1 := ab.cells A1
  have c2 := ab.cells A2
  have c3 := ab.cells A3
  have c4 := ab.cells A4
  have G1 : Hid (∀ y : cls.In (ab.Ab V4), Calls Try.prog 13 #[.agg (TC (.slice sa n sc))] y.W fun e w' => e = .returned (.int .i64 c) ∧ Below y.W.heap.size y.W w') := fun y => K1 y.W (hr.below y.h)
  have G2 : Hid (∀ y : cls.In (ab.Ab V4), Calls Try.prog 14 #[.agg (TC (.slice sa n sc))] y.W fun e w' => e = .returned (.int .i64 c) ∧ Below y.W.heap.size y.W w') := fun y => K2 y.W (hr.below y.h)
  have G3 : Hid (∀ y : cls.In (ab.Ab V4), Calls Try.prog 15 #[.agg (TC (.slice sa1 n1 sc1)), .agg (TC (.slice sa2 n2 sc2))] y.W fun e w' => e = .returned (.bool true) ∧ Below y.W.heap.size y.W w') := fun y => by
    have := same_any (.slice sa1 n1 sc1) (.slice sa2 n2 sc2) L1 L1 y.W (q1.below y.h) (q2.below y.h)
    rwa [decide_eq_true rfl] at this
  have G4 : Hid (∀ y : cls.In (ab.Ab V4), Calls Try.prog 15 #[.agg (TC (.slice sa3 n3 sc3)), .agg (TC (.slice sa4 n4 sc4))] y.W fun e w' => e = .returned (.bool true) ∧ Below y.W.heap.size y.W w') := fun y => by
    have := same_any (.slice sa3 n3 sc3) (.slice sa4 n4 sc4) L2 L2 y.W (q3.below y.h) (q4.below y.h)
    rwa [decide_eq_true rfl] at this
  clear K1 K2 hr q1 q2 q3 q4 F0 F1 A1 A2 A3 A4
  refine ab.region (by kernel_rfl) (by kernel_rfl) ?_
  repeat (go_big_quiet_step (first | (go_at_call 13; exact ab.call (G1.out _)) | (go_at_call 14; exact ab.call (G2.out _)) | (go_at_call 15; exact ab.call (G3.out _)) | (go_at_call 15; exact ab.call (G4.out _))))
  refine wpQuiet_nil ?_
  intro _ hx
  obtain ⟨y, rfl⟩ := hx
  go_wp2_with fail
  go_ret
  exact ⟨rfl, b0.trans (y.h.mono b0.size)⟩
end Go.Proofs.Ytiddpkppfpdfhaa.pf
