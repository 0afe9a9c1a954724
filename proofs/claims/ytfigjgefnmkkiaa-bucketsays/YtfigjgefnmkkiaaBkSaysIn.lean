/- The walk of custlaw.BucketSays. -/
import Derived.Test.YtfigjgefnmkkiaaBkLives
namespace Go.Proofs.Ytfigjgefnmkkiaa.bkt
open Go.ChangeShapes Go.WideShapes Go.ChangeAt Go.RowKit Go.BigFrame
open Go.Proofs.Ytfigjgefnmkkiaa Go.Proofs.Ytfigjgefnmkkiaa.boxes Go.Proofs.Ytfigjgefnmkkiaa.rwr
open Go.Proofs.Ytfigjgefnmkkiaa.rws (Knd Own)

set_option maxRecDepth 20000 in
set_option maxHeartbeats 4000000 in
theorem says_walk (b : Bu) (t n : Int) (v : Value) (l : List Dp) (w : World) (hr : Rd DK w v l) : Calls Try.prog 3 #[.agg (Bu.cells b), .int .i64 t, .int .i64 n, v] w fun e w' => e = .returned (.bool true) ∧ Below w.heap.size w w' := by
  have CT := fun W => take_any b t n W
  have CU := fun W => rtake_any b t n W
  have CR : ∀ W, Rd DK W v l → _ := fun W h => run_any b v l W h
  have CS : ∀ W, Rd DK W v l → _ := fun W h => rrun_any b v l W h
  have CL := fun W => level_any b t W
  have CK := fun W => check_any b W
  have CH := fun W => right_any b W
  have CB := fun W => between_any t b.a 1099511627776 W
  have CF : Hid (lerr b t = 0 → ∀ W, _) := fun h W => filled_any b t W h
  have HL : Hid (lerr b t = if chk b = 0 then (if bt t b.a 1099511627776 then 0 else 1) else chk b) := rfl
  have HV : Hid (lval b t = if lerr b t = 0 then lv b t else 0) := rfl
  have b0 := (Below.refl w.heap.size w).alloc (Nat.le_refl _) (.cells (Bu.cells b) 23)
  have G := Blk.new w (Bu.cells b) 23
  have rd := hr.below b0
  obtain ⟨r, m, h, a⟩ := b
  have G : Blk (w.alloc (.cells (BC r m h a) 23)) w.heap.size (BC r m h a) 23 := G
  dsimp only [Bu.cells] at CT CU CR CS CL CK CH CB CF b0 rd
  generalize tk _ _ _ = T at *
  generalize pas _ _ _ = p at *
  generalize terr _ _ _ = E at *
  generalize rst _ _ = R at *
  generalize rtd _ _ = D at *
  generalize rerr _ _ = E2 at *
  generalize lerr _ _ = L at *
  generalize lval _ _ = V at *
  generalize lv _ _ = N at *
  generalize chk _ = k at *
  generalize bt _ _ _ = x at *
  clear hr
  obtain ⟨T0, T1, T2, T3⟩ := T
  obtain ⟨R0, R1, R2, R3⟩ := R
  dsimp only at CT CU CR CS
  go_enter Try.func3, Try.ntmps3
  go_upto_region 1 with fail
  generalize hW : w.alloc (Obj.cells (BC r m h a) 23) = W at *
  clear hW
  go_wp2_with (refine blk_load _ rfl 23 _ rfl w.heap.size rfl _ _ G _ Try.underlying23 rfl 4 bu_info rfl ?_)
  refine (CT _).mono ?_
  rintro e w1 ⟨rfl, z⟩
  replace G := G.below z G.lt
  replace rd := rd.below z
  replace b0 := b0.trans (z.mono b0.size)
  clear z
  have dA := (Below.refl w1.heap.size w1).alloc (Nat.le_refl _) (.cells #[.int .i64 0, .int .i64 0, .int .i64 0, .int .i64 0] 23)
  go_upto_region 2 with (refine blk_store _ rfl 23 _ _ rfl w1.heap.size (BC T0 T1 T2 T3) rfl rfl _ _ (Blk.new w1 #[.int .i64 0, .int .i64 0, .int .i64 0, .int .i64 0] 23) 4 bu_info rfl rfl (bu_one ⟨T0, T1, T2, T3⟩) ?_; intro W1 A p)
  have zz := p.below dA (Nat.le_refl _)
  clear dA p
  replace G := G.below zz G.lt
  replace rd := rd.below zz
  replace b0 := b0.trans (zz.mono b0.size)
  clear zz
  generalize w1.heap.size = xA at *
  go_wp2_with (refine blk_load _ rfl 23 _ rfl w.heap.size rfl _ _ G _ Try.underlying23 rfl 4 bu_info rfl ?_)
  refine (CU _).mono ?_
  rintro e w2 ⟨rfl, z⟩
  replace G := G.below z G.lt
  replace A := A.below z A.lt
  replace rd := rd.below z
  replace b0 := b0.trans (z.mono b0.size)
  clear z
  have dA := (Below.refl w2.heap.size w2).alloc (Nat.le_refl _) (.cells #[.int .i64 0, .int .i64 0, .int .i64 0, .int .i64 0] 23)
  go_upto_region 3 with (refine blk_store _ rfl 23 _ _ rfl w2.heap.size (BC T0 T1 T2 T3) rfl rfl _ _ (Blk.new w2 #[.int .i64 0, .int .i64 0, .int .i64 0, .int .i64 0] 23) 4 bu_info rfl rfl (bu_one ⟨T0, T1, T2, T3⟩) ?_; intro W2 B p)
  have zz := p.below dA (Nat.le_refl _)
  clear dA p
  replace G := G.below zz G.lt
  replace A := A.below zz A.lt
  replace rd := rd.below zz
  replace b0 := b0.trans (zz.mono b0.size)
  clear zz
  generalize w2.heap.size = xB at *
  go_wp2_with (refine blk_load _ rfl 23 _ rfl w.heap.size rfl _ _ G _ Try.underlying23 rfl 4 bu_info rfl ?_)
  refine (CR _ rd).mono ?_
  rintro e w3 ⟨v3, rfl, O3, z⟩
  replace G := G.below z G.lt
  replace A := A.below z A.lt
  replace B := B.below z B.lt
  replace rd := rd.below z
  replace b0 := b0.trans (z.mono b0.size)
  clear z
  have d3 := Own.rd O3
  clear O3
  have dA := (Below.refl w3.heap.size w3).alloc (Nat.le_refl _) (.cells #[.int .i64 0, .int .i64 0, .int .i64 0, .int .i64 0] 23)
  go_upto_region 4 with (refine blk_store _ rfl 23 _ _ rfl w3.heap.size (BC R0 R1 R2 R3) rfl rfl _ _ (Blk.new w3 #[.int .i64 0, .int .i64 0, .int .i64 0, .int .i64 0] 23) 4 bu_info rfl rfl (bu_one ⟨R0, R1, R2, R3⟩) ?_; intro W3 C p)
  have zz := p.below dA (Nat.le_refl _)
  clear dA p
  replace G := G.below zz G.lt
  replace A := A.below zz A.lt
  replace B := B.below zz B.lt
  replace rd := rd.below zz
  replace d3 := d3.below zz
  replace b0 := b0.trans (zz.mono b0.size)
  clear zz
  generalize w3.heap.size = xC at *
  go_wp2_with (refine blk_load _ rfl 23 _ rfl w.heap.size rfl _ _ G _ Try.underlying23 rfl 4 bu_info rfl ?_)
  refine (CS _ rd).mono ?_
  rintro e w4 ⟨v4, rfl, O4, z⟩
  replace G := G.below z G.lt
  replace A := A.below z A.lt
  replace B := B.below z B.lt
  replace C := C.below z C.lt
  replace rd := rd.below z
  replace d3 := d3.below z
  replace b0 := b0.trans (z.mono b0.size)
  clear z
  have d4 := Own.rd O4
  clear O4
  have dA := (Below.refl w4.heap.size w4).alloc (Nat.le_refl _) (.cells #[.int .i64 0, .int .i64 0, .int .i64 0, .int .i64 0] 23)
  go_upto_region 5 with (refine blk_store _ rfl 23 _ _ rfl w4.heap.size (BC R0 R1 R2 R3) rfl rfl _ _ (Blk.new w4 #[.int .i64 0, .int .i64 0, .int .i64 0, .int .i64 0] 23) 4 bu_info rfl rfl (bu_one ⟨R0, R1, R2, R3⟩) ?_; intro W4 S p)
  have zz := p.below dA (Nat.le_refl _)
  clear dA p
  replace G := G.below zz G.lt
  replace A := A.below zz A.lt
  replace B := B.below zz B.lt
  replace C := C.below zz C.lt
  replace rd := rd.below zz
  replace d3 := d3.below zz
  replace d4 := d4.below zz
  replace b0 := b0.trans (zz.mono b0.size)
  clear zz
  generalize w4.heap.size = xS at *
  clear CT CU CR CS rd
  go_wp2_with (refine blk_load _ rfl 23 _ rfl w.heap.size rfl _ _ G _ Try.underlying23 rfl 4 bu_info rfl ?_)
  refine (CL _).mono ?_
  rintro e w5 ⟨rfl, z⟩
  replace G := G.below z G.lt
  replace A := A.below z A.lt
  replace B := B.below z B.lt
  replace C := C.below z C.lt
  replace S := S.below z S.lt
  replace d3 := d3.below z
  replace d4 := d4.below z
  replace b0 := b0.trans (z.mono b0.size)
  clear z
  go_wp2_with (refine blk_load _ rfl 23 _ rfl w.heap.size rfl _ _ G _ Try.underlying23 rfl 4 bu_info rfl ?_)
  refine (CH _).mono ?_
  rintro e w6 ⟨rfl, z⟩
  replace G := G.below z G.lt
  replace A := A.below z A.lt
  replace B := B.below z B.lt
  replace C := C.below z C.lt
  replace S := S.below z S.lt
  replace d3 := d3.below z
  replace d4 := d4.below z
  replace b0 := b0.trans (z.mono b0.size)
  clear z
  by_cases hk : k = 0
  rotate_left
  · have hkb : (k == 0) = false := by simpa using hk
    have eL : L = k := by have := HL.out; rwa [if_neg hk] at this
    subst eL
    have eV : V = 0 := by have := HV.out; rwa [if_neg hk] at this
    subst eV
    clear HL HV CF CB
    have aG := ab.cells G
    have aA := ab.cells A
    have aB := ab.cells B
    have aC := ab.cells C
    have aS := ab.cells S
    have nn := ab.ne w6
    have CE := fun x : cls.In (ab.Ab w6) => ab.call (x := x) (equal_any v3 v4 D D x.W (d3.below x.h) (d4.below x.h))
    rw [beq_self_eq_true] at CE
    obtain ⟨f3, g3, e_v3⟩ := d3.form
    subst e_v3
    obtain ⟨f4, g4, e_v4⟩ := d4.form
    subst e_v4
    go_upto_region 11 with fail
    refine ab.region (by kernel_rfl) (by kernel_rfl) ?_
    repeat (go_big_quiet_step (first | (go_at_call 16; exact ab.call (CK _)) | (go_at_call 13; exact ab.call (CH _)) | (go_at_call 17; exact CE _)))
    refine wpQuiet_nil ?_
    intro _ hx
    obtain ⟨y, rfl⟩ := hx
    go_wp2_with fail
    go_ret
    exact ⟨rfl, b0.trans (Below.mono y.h b0.size)⟩
  subst hk
  have cG := G.cell
  go_wp2_with fail
  refine (CB _).mono ?_
  rintro e w7 ⟨rfl, rfl⟩
  clear cG
  cases x with
  | false =>
    have eL : L = 1 := by have := HL.out; simpa using this
    subst eL
    have eV : V = 0 := by have := HV.out; simpa using this
    subst eV
    clear HL HV CF CB
    have aG := ab.cells G
    have aA := ab.cells A
    have aB := ab.cells B
    have aC := ab.cells C
    have aS := ab.cells S
    have nn := ab.ne w7
    have CE := fun x : cls.In (ab.Ab w7) => ab.call (x := x) (equal_any v3 v4 D D x.W (d3.below x.h) (d4.below x.h))
    rw [beq_self_eq_true] at CE
    obtain ⟨f3, g3, e_v3⟩ := d3.form
    subst e_v3
    obtain ⟨f4, g4, e_v4⟩ := d4.form
    subst e_v4
    go_upto_region 11 with fail
    refine ab.region (by kernel_rfl) (by kernel_rfl) ?_
    repeat (go_big_quiet_step (first | (go_at_call 16; exact ab.call (CK _)) | (go_at_call 13; exact ab.call (CH _)) | (go_at_call 17; exact CE _)))
    refine wpQuiet_nil ?_
    intro _ hx
    obtain ⟨y, rfl⟩ := hx
    go_wp2_with fail
    go_ret
    exact ⟨rfl, b0.trans (Below.mono y.h b0.size)⟩
  | true =>
    have eL : L = 0 := by have := HL.out; simpa using this
    subst eL
    have eV : V = N := by have := HV.out; simpa using this
    subst eV
    have CG := CF.out (by trivial)
    clear HL HV CB CF
    go_wp2_with (refine blk_load _ rfl 23 _ rfl w.heap.size rfl _ _ G _ Try.underlying23 rfl 4 bu_info rfl ?_)
    refine (CG _).mono ?_
    rintro e w8 ⟨rfl, z⟩
    replace G := G.below z G.lt
    replace A := A.below z A.lt
    replace B := B.below z B.lt
    replace C := C.below z C.lt
    replace S := S.below z S.lt
    replace d3 := d3.below z
    replace d4 := d4.below z
    replace b0 := b0.trans (z.mono b0.size)
    clear z
    clear CG
    have aG := ab.cells G
    have aA := ab.cells A
    have aB := ab.cells B
    have aC := ab.cells C
    have aS := ab.cells S
    have nn := ab.ne w8
    have CE := fun x : cls.In (ab.Ab w8) => ab.call (x := x) (equal_any v3 v4 D D x.W (d3.below x.h) (d4.below x.h))
    rw [beq_self_eq_true] at CE
    obtain ⟨f3, g3, e_v3⟩ := d3.form
    subst e_v3
    obtain ⟨f4, g4, e_v4⟩ := d4.form
    subst e_v4
    go_upto_region 11 with fail
    refine ab.region (by kernel_rfl) (by kernel_rfl) ?_
    repeat (go_big_quiet_step (first | (go_at_call 16; exact ab.call (CK _)) | (go_at_call 13; exact ab.call (CH _)) | (go_at_call 17; exact CE _)))
    refine wpQuiet_nil ?_
    intro _ hx
    obtain ⟨y, rfl⟩ := hx
    go_wp2_with fail
    go_ret
    exact ⟨rfl, b0.trans (Below.mono y.h b0.size)⟩
end Go.Proofs.Ytfigjgefnmkkiaa.bkt
