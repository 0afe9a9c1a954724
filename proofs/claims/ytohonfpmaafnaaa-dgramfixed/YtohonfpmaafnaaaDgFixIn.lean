/- The walk through custkeep.DgramFixed. -/
import Derived.Test.YtohonfpmaafnaaaDgLives
import Derived.Test.YtohonfpmaafnaaaLast3
import Derived.Test.YtohonfpmaafnaaaTold
import Derived.Deep.DeepCutAuto
namespace Go.Proofs.Ytohonfpmaafnaaa.dgx
open Go.ChangeShapes Go.WideShapes Go.ChangeAt Go.RowKit Go.BigFrame
open Go.Proofs.Ytohonfpmaafnaaa Go.Proofs.Ytohonfpmaafnaaa.EM Go.Proofs.Ytohonfpmaafnaaa.ethb Go.Proofs.Ytohonfpmaafnaaa.SM Go.Proofs.Ytohonfpmaafnaaa.ipb Go.Proofs.Ytohonfpmaafnaaa.buf Go.Proofs.Ytohonfpmaafnaaa.boxes Go.Proofs.Ytohonfpmaafnaaa.wds Go.Proofs.Ytohonfpmaafnaaa.dgb Go.Proofs.Ytohonfpmaafnaaa.dgi Go.Proofs.Ytohonfpmaafnaaa.dgw Go.Proofs.Ytohonfpmaafnaaa.dgn Go.Proofs.Ytohonfpmaafnaaa.dgl
open Go.Proofs.Ytohonfpmaafnaaa.ipm (btl size_list bytes_ext ext_list)

/-- a word as two bytes -/
def kw (n : Int) : ByteArray := strOfNums [n / 256, n % 256]
theorem kw_data (n : Int) : (kw n).data.toList = [hi8 n, lo8 n] := rfl
theorem kw_size (n : Int) : (kw n).size = 2 := rfl
theorem word_any (n : Int) (w : World) (h0 : 0 ≤ n) (h1 : n ≤ 65535) :
    Calls Try.prog 20 #[.int .u16 n] w fun e w' => e = .returned (.string (kw n)) ∧ Below w.heap.size w w' := by
  have hcv : (convert 41 9 (.slice (some ⟨w.heap.size, 0, none⟩) 2 2)).run Try.prog (w.alloc (.cells #[.int .u8 (n / 256), .int .u8 (n % 256)] 5)) = .ok (.string (kw n)) (w.alloc (.cells #[.int .u8 (n / 256), .int .u8 (n % 256)] 5)) := by
    refine run_convert_bytes_arg _ 41 5 Try.underlying41 Try.underlying5 w.heap.size 0 2 2 [n / 256, n % 256] rfl ?_ 9 Try.underlying9
    intro i hi
    match i, hi with
    | 0, _ => simp
    | 1, _ => simp
  have bel := (Below.refl w.heap.size w).alloc (Nat.le_refl _) (.cells #[.int .u8 (n / 256), .int .u8 (n % 256)] 5)
  go_enter Try.func20, Try.ntmps20
  go_wp2_with fail
  go_ret
  exact ⟨rfl, bel⟩
theorem old_word (x y : Int) (hx0 : 0 ≤ x) (hx1 : x ≤ 255) (hy0 : 0 ≤ y) (hy1 : y ≤ 255) : bits .or .u16 (IntKind.u16.wrap (IntKind.u16.wrap x * 256)) (IntKind.u16.wrap y) = 256 * x + y := by
  rw [IntKind.wrap_u16, IntKind.wrap_u16, IntKind.wrap_u16]
  rw [Int.emod_eq_of_lt hx0 (by omega), Int.emod_eq_of_lt (by omega : 0 ≤ x * 256) (by omega), Int.emod_eq_of_lt hy0 (by omega)]
  exact word_or _ _ hx0 hx1 hy0 hy1
theorem call3 {o : Oper} {a : Act} {w : World} {R : Value → World → Prop} (f : FuncId) (x y z : Operand) (ts : Array TypeId) (v u s : Value) (hop : o.op = .call { callee := .value (.func f), args := #[x, y, z], argTypes := ts }) (hent : ∀ args w, (callFunc f args).run Try.prog w = .ok (.enter f args) w) (he : a.eval x = v) (he' : a.eval y = u) (he'' : a.eval z = s)
    (h : Calls Try.prog f #[v, u, s] w fun e w' => ∃ v, e = .returned v ∧ R v w') : spc.yieldsTo Try.prog o a w R := by
  have hf : a.eval (.func f) = Value.func (Fn.func f) #[] #[] := rfl
  unfold spc.yieldsTo
  generalize a.eval = E at *
  simp [execOp, hop, hf, resolve, invoke, go_sem, he, he', he'', hent]
  exact h
/-- the letter's bytes with another port and another CHECK -/
theorem joined (p : Lt) (f t x c : Int) : kw x ++ (⟨(p.txt f t).toArray⟩ : ByteArray).extract 2 6 ++ kw c ++ (⟨(p.txt f t).toArray⟩ : ByteArray).extract 8 (⟨(p.txt f t).toArray⟩ : ByteArray).size = dgm.ltx { p with fr := x } c := by
  apply bytes_ext
  have d1 : ∀ a b : ByteArray, (a ++ b).data.toList = a.data.toList ++ b.data.toList := fun a b => by simp
  have e8 : ((⟨(p.txt f t).toArray⟩ : ByteArray).extract 8 (⟨(p.txt f t).toArray⟩ : ByteArray).size).data.toList = p.d.data.toList := by
    rw [ext_list, List.take_of_length_le (by rw [size_list]; exact Nat.le_refl _)]
    simp [Lt.txt, Lt.h1]
  rw [d1, d1, d1, e8, ext_list, kw_data, kw_data, dgm.ltx_list]
  simp [Lt.txt, Lt.h1]
/-- the letter's block stands -/
structure KX (w : World) (p : Lt) (W : World) : Prop where
  m : Blk W w.heap.size p.cells 23
  bel : Below w.heap.size w W
theorem KX.call {w W w' : World} {p : Lt} (h : KX w p W) (hb : Below W.heap.size W w') : KX w p w' := ⟨h.m.below hb h.m.lt, h.bel.trans (hb.mono h.bel.size)⟩
theorem KX.alloc {w W : World} {p : Lt} (h : KX w p W) (o : Obj) : KX w p (W.alloc o) := ⟨h.m.alloc o, h.bel.alloc h.bel.size o⟩
theorem KX.set3 {w W : World} {p : Lt} {b : Nat} (h : KX w p W) (hb : w.heap.size < b) (u0 u1 u2 : Value) : KX w p (((W.setCell ⟨b, 0, none⟩ u0).setCell ⟨b, 1, none⟩ u1).setCell ⟨b, 2, none⟩ u2) :=
  ⟨(but_setCell _ b 2 _).blk ((but_setCell _ b 1 _).blk ((but_setCell _ b 0 _).blk h.m (by omega)) (by omega)) (by omega),
    (but_setCell _ b 2 _).below ((but_setCell _ b 1 _).below ((but_setCell _ b 0 _).below h.bel (by omega)) (by omega)) (by omega)⟩
theorem KX.drew {w W : World} {p : Lt} (h : KX w p W) : KX w p W.drew := ⟨h.m, Below.drew h.bel⟩
set_option maxRecDepth 20000 in
set_option maxHeartbeats 8000000 in
theorem walk (p : Lt) (f t g x : Int) (h : p.d.size ≤ 281474976710656) (hf : Ad f) (ht : Ad t) (hg : Ad g) (w : World) :
    Calls Try.prog 7 #[.agg p.cells, .int .u32 f, .int .u32 t, .int .u32 g, .int .i64 x] w fun e w' => e = .returned (.bool true) ∧ Below w.heap.size w w' := by
  have CW := fun u => write_any p f t u (by omega) hf ht
  have HL : Hid (p.err = 0 → p.out f t = ⟨(p.txt f t).toArray⟩ ∧ p.Ok) := fun he => ⟨by unfold Lt.out; rw [if_pos he], Lt.ok he⟩
  generalize p.out f t = S at CW HL
  generalize p.err = pe at CW HL
  have F0 : Blk (w.alloc (.cells p.cells 23)) w.heap.size p.cells 23 := Blk.new _ _ _
  have b0 := (Below.refl w.heap.size w).alloc (Nat.le_refl _) (.cells p.cells 23)
  go_enter Try.func7, Try.ntmps7
  go_wp2_with (refine blk_load _ rfl 23 _ rfl w.heap.size rfl _ _ F0 _ Try.underlying23 rfl 3 lt_info rfl ?_)
  refine (CW _).mono ?_
  rintro r w1 ⟨rfl, hb1⟩
  have F1 := F0.below hb1 F0.lt
  have b1 := b0.trans (hb1.mono b0.size)
  clear CW F0 b0 hb1
  go_wp2_with fail
  refine (lives _).mono ?_
  rintro r w3 ⟨rfl, hb3⟩
  have F3 := F1.below hb3 F1.lt
  have b3 := b1.trans (hb3.mono b1.size)
  clear b1 hb3 F1
  by_cases pz : pe = 0
  case neg =>
    have pz' : (pe != 0) = true := by simpa using pz
    go_wp2_with fail
    refine (lives _).mono ?_
    rintro r w4 ⟨rfl, hb4⟩
    have b4 := b3.trans (hb4.mono b3.size)
    go_wp2_with fail
    go_ret
    exact ⟨rfl, b4⟩
  subst pz
  by_cases xn : x < 0
  · have xn' : decide (x < 0) = true := by simpa using xn
    go_wp2_with fail
    refine (lives _).mono ?_
    rintro r w4 ⟨rfl, hb4⟩
    have b4 := b3.trans (hb4.mono b3.size)
    go_wp2_with fail
    go_ret
    exact ⟨rfl, b4⟩
  have xn' : decide (x < 0) = false := by simpa using xn
  by_cases xm : 65535 < x
  · have xm' : decide (65535 < x) = true := by simpa using xm
    go_wp2_with fail
    refine (lives _).mono ?_
    rintro r w4 ⟨rfl, hb4⟩
    have b4 := b3.trans (hb4.mono b3.size)
    go_wp2_with fail
    go_ret
    exact ⟨rfl, b4⟩
  have xm' : decide (65535 < x) = false := by simpa using xm
  have xp : 0 ≤ x := by omega
  have xq : x ≤ 65535 := by omega
  obtain ⟨eS, hp⟩ := HL.out rfl
  have f0 := hf.l
  have f1 := hf.u
  have g0 := hg.l
  have g1 := hg.u
  have p0 := hp.f0
  have p1 := hp.f1
  have d1 := hp.d1
  have ckb := p.ck_bd f t
  have zS : S.size = 8 + p.d.size := by rw [eS, ← size_list]; exact p.txt_len f t
  have e6 : Hid (256 * bt S 6 + bt S 7 = p.ck f t) := by
    show _ = _
    have := dgm.ltx_ck p (p.ck f t) (by omega) ckb.2
    rw [eS]; exact this
  have b6 := bt_bd S 6
  have b7 := bt_bd S 7
  have q1 := dgm.fixed_bd (p.ck f t) (f / 65536) (g / 65536) (by omega) ckb.2 (by omega) (by omega) (by omega) (by omega)
  have q2 := dgm.fixed_bd (dgm.fixed (p.ck f t) (f / 65536) (g / 65536)) (f % 65536) (g % 65536) q1.1 q1.2 (by omega) (by omega) (by omega) (by omega)
  have q3 := dgm.fck_bd p hp f t g x f0 f1 g0 g1 xp xq
  have CX1 : ∀ u, Calls Try.prog 19 #[.int .u16 (p.ck f t), .int .u16 (f / 65536), .int .u16 (g / 65536)] u fun e w' => e = .returned (.int .u16 (dgm.fixed (p.ck f t) (f / 65536) (g / 65536))) ∧ w' = u := fun u =>
    sumw.fix_any _ _ _ u (by omega) ckb.2 (by omega) (by omega) (by omega) (by omega)
  have CX2 : ∀ u, Calls Try.prog 19 #[.int .u16 (dgm.fixed (p.ck f t) (f / 65536) (g / 65536)), .int .u16 (f % 65536), .int .u16 (g % 65536)] u fun e w' => e = .returned (.int .u16 (dgm.fixed (dgm.fixed (p.ck f t) (f / 65536) (g / 65536)) (f % 65536) (g % 65536))) ∧ w' = u := fun u =>
    sumw.fix_any _ _ _ u q1.1 q1.2 (by omega) (by omega) (by omega) (by omega)
  have CX3 : ∀ u, Calls Try.prog 19 #[.int .u16 (dgm.fixed (dgm.fixed (p.ck f t) (f / 65536) (g / 65536)) (f % 65536) (g % 65536)), .int .u16 p.fr, .int .u16 x] u fun e w' => e = .returned (.int .u16 (dgm.fck p f t g x)) ∧ w' = u := fun u =>
    sumw.fix_any _ _ _ u q2.1 q2.2 p0 p1 xp xq
  have HQ : Hid (∀ c, c = (if dgm.fck p f t g x = 0 then 65535 else dgm.fck p f t g x) → ∀ u, Calls Try.prog 10 #[.string (kw x ++ S.extract 2 6 ++ kw c ++ S.extract 8 S.size), .int .u32 g, .int .u32 t] u fun e w' => e = .returned (.tuple #[.agg (Lt.cells { p with fr := x }), .int .i64 0]) ∧ Below u.heap.size u w') := by
    show ∀ _, _
    intro c hc u
    have hok : Lt.Ok { p with fr := x } := ⟨xp, xq, hp.t0, hp.t1, hp.d1⟩
    have cb : 0 ≤ c ∧ c ≤ 65535 := by rw [hc]; split <;> omega
    have hr : norm (dgm.tot { p with fr := x } g t + c) = 65535 := by rw [hc]; exact dgm.fixes p hp f t g x f0 f1 ht.l ht.u g0 g1 xp xq
    obtain ⟨a1, a2⟩ := dgm.ltx_read { p with fr := x } hok c g t cb.1 cb.2 g0 g1 ht.l ht.u hr
    rw [eS, joined]
    have := dgr.read_any (dgm.ltx { p with fr := x } c) g t u (by rw [dgm.ltx_size]; show 8 + p.d.size ≤ _; omega) hg ht
    rw [a1, a2] at this
    exact this
  generalize dgm.fck p f t g x = k3 at CX3 HQ q3
  generalize dgm.fixed (dgm.fixed (p.ck f t) (f / 65536) (g / 65536)) (f % 65536) (g % 65536) = k2 at CX2 CX3 q2
  generalize dgm.fixed (p.ck f t) (f / 65536) (g / 65536) = k1 at CX1 CX2 q1
  generalize p.ck f t = k0 at CX1 e6 ckb
  have z6 : (6 : Int) < S.size := by omega
  have z7 : (7 : Int) < S.size := by omega
  have x6 : ∀ u, (Instr.index 9 (.string S) (.int .i64 6)).run Try.prog u = .ok (.int .u8 (bt S 6)) u := index_at S 6 (by omega)
  have x7 : ∀ u, (Instr.index 9 (.string S) (.int .i64 7)).run Try.prog u = .ok (.int .u8 (bt S 7)) u := index_at S 7 (by omega)
  clear HL eS hp xn xm h
  go_upto_region 4 with fail
  go_cut [13] (fun v wx => v = .int .u16 k0 ∧ KX w p wx)
  case first =>
    go_quiet (fail)
    go_wp2_with fail
    go_meet
    refine ⟨?_, ⟨F3.drewN _, bdrewN b3 _⟩⟩
    rw [← e6.out]
    exact congrArg (Value.int .u16) (word_or _ _ b6.1 b6.2 b7.1 b7.2)
  case rest =>
    obtain ⟨rfl, K4⟩ := hcut
    clear x6 x7 F3 b3 e6 b6 b7
    have c4 := K4.m.cell
    go_wp2_with fail
    refine (CX1 _).mono ?_
    rintro r w5 ⟨rfl, hw⟩
    rw [hw]
    clear hw w5
    go_wp2_with fail
    refine (CX2 _).mono ?_
    rintro r w5 ⟨rfl, hw⟩
    rw [hw]
    clear hw w5
    go_wp2_with fail
    refine (CX3 _).mono ?_
    rintro r w5 ⟨rfl, hw⟩
    rw [hw]
    clear hw w5 CX1 CX2 CX3
    by_cases kz : k3 = 0
    · subst kz
      have CR := HQ.out 65535 (by simp)
      have CK := fun k u h0 h1 => word_any k u h0 h1
      have s26 : ∀ u, (Instr.slice 9 (.string S) (some (.int .i64 2)) (some (.int .i64 6)) none).run Try.prog u = .ok (.string (S.extract 2 6)) u := fun u => by
        have := run_slice_string (P := Try.prog) u 9 S .i64 .i64 2 6 Try.underlying9 (by omega) (by omega) (by omega)
        simpa using this
      have s8 : ∀ u, (Instr.slice 9 (.string S) (some (.int .i64 8)) none none).run Try.prog u = .ok (.string (S.extract 8 S.size)) u := fun u =>
        run_slice_string_l u 9 S Try.underlying9 .i64 8 (by omega) (by omega)
      have y1 : (S.extract 2 6).size = 4 := by rw [ByteArray.size_extract]; omega
      have y2 : (S.extract 8 S.size).size = p.d.size := by rw [ByteArray.size_extract]; omega
      have y3 := kw_size x
      have y4 := kw_size 65535
      have z26 : (6 : Int) ≤ S.size := by omega
      have z8 : (8 : Int) ≤ S.size := by omega
      generalize S.extract 2 6 = A26 at CR s26 y1
      generalize S.extract 8 S.size = A8 at CR s8 y2
      have y5 : (kw x ++ A26).size = 6 := by rw [ByteArray.size_append]; omega
      have y6 : (kw x ++ A26 ++ kw 65535).size = 8 := by rw [ByteArray.size_append]; omega
      have wc0 := K4.m.lt
      have hwx : IntKind.u16.wrap x = x := by rw [IntKind.wrap_u16]; omega
      have KA := K4
      clear HQ c4
      go_upto_region 10 with fail
      go_cut [14, 15] (fun v e wx => ∃ b, v = .pointer (some ⟨b, 0, none⟩) ∧ e = .int .i64 0 ∧ Blk wx b (Lt.cells { p with fr := x }) 23 ∧ w.heap.size < b ∧ KX w p wx)
      case first =>
        go_region_with (first
          | (go_at_call 10; refine (CR _).mono ?_; rintro e w7 ⟨rfl, hb7⟩; (first | (have kz := kz.below hb7 kz.lt) | (have kz := (Blk.new _ zeroL.cells 23).below hb7 (by simp); have lz := KA.m.lt) | (have kz := (Blk.drew (Blk.new _ zeroL.cells 23)).below hb7 (by simp); have lz := KA.m.lt) | skip); (first | (have KA := KX.call KA hb7) | (have KA := KX.call (KX.alloc KA _) hb7) | (have KA := KX.call (KX.drew KA) hb7) | (have KA := KX.call (KX.drew (KX.alloc KA _)) hb7)); try (have ckz := kz.cell; have fkz := kz.free))
          | (go_at_call 20; refine (CK _ _ (by omega) (by omega)).mono ?_; rintro e w5 ⟨rfl, hb5⟩; (first | (have kz := kz.below hb5 kz.lt) | (have kz := (Blk.new _ zeroL.cells 23).below hb5 (by simp); have lz := KA.m.lt) | (have kz := (Blk.drew (Blk.new _ zeroL.cells 23)).below hb5 (by simp); have lz := KA.m.lt) | skip); (first | (have KA := KX.call KA hb5) | (have KA := KX.call (KX.alloc KA _) hb5) | (have KA := KX.call (KX.drew KA) hb5) | (have KA := KX.call (KX.drew (KX.alloc KA _)) hb5)); try (have ckz := kz.cell; have fkz := kz.free)))
        all_goals first
          | (go_wp2_with fail; go_meet; exact ⟨_, rfl, rfl, ((kz.setCell 0 _).setCell 1 _).setCell 2 _, lz, KX.set3 KA lz _ _ _⟩)
          | (go_wp2_with fail; go_meet; exact ⟨_, rfl, rfl, Blk.new _ _ _, KA.m.lt, KX.alloc KA _⟩)
      case rest =>
        obtain ⟨b, rfl, rfl, B3, lb, K3⟩ := hcut
        have k3' := K3.m
        have c3 := k3'.cell
        have f3 := k3'.free
        have k5 := k3'.setCell 0 (.int .i64 x)
        have u5 := but_setCell wc w.heap.size 0 (.int .i64 x)
        have B5 := u5.blk B3 (by omega)
        have b5 := u5.below K3.bel (Nat.le_refl _)
        have cb5 := B5.cell
        have ck5 : ∀ o, (wc.setCell ⟨w.heap.size, 0, none⟩ (.int .i64 x)).cell? ⟨w.heap.size, o, none⟩ = (Lt.cells { p with fr := x })[o]? := k5.cell
        clear k3' B3 k5 u5 B5 K3
        go_wp2_with fail
        go_ret
        exact ⟨rfl, b5⟩
    · have kz' : (k3 == 0) = false := by simpa using kz
      have CR := HQ.out k3 (by rw [if_neg kz])
      have CK := fun k u h0 h1 => word_any k u h0 h1
      have s26 : ∀ u, (Instr.slice 9 (.string S) (some (.int .i64 2)) (some (.int .i64 6)) none).run Try.prog u = .ok (.string (S.extract 2 6)) u := fun u => by
        have := run_slice_string (P := Try.prog) u 9 S .i64 .i64 2 6 Try.underlying9 (by omega) (by omega) (by omega)
        simpa using this
      have s8 : ∀ u, (Instr.slice 9 (.string S) (some (.int .i64 8)) none none).run Try.prog u = .ok (.string (S.extract 8 S.size)) u := fun u =>
        run_slice_string_l u 9 S Try.underlying9 .i64 8 (by omega) (by omega)
      have y1 : (S.extract 2 6).size = 4 := by rw [ByteArray.size_extract]; omega
      have y2 : (S.extract 8 S.size).size = p.d.size := by rw [ByteArray.size_extract]; omega
      have y3 := kw_size x
      have y4 := kw_size k3
      have z26 : (6 : Int) ≤ S.size := by omega
      have z8 : (8 : Int) ≤ S.size := by omega
      generalize S.extract 2 6 = A26 at CR s26 y1
      generalize S.extract 8 S.size = A8 at CR s8 y2
      have y5 : (kw x ++ A26).size = 6 := by rw [ByteArray.size_append]; omega
      have y6 : (kw x ++ A26 ++ kw k3).size = 8 := by rw [ByteArray.size_append]; omega
      have wc0 := K4.m.lt
      have hwx : IntKind.u16.wrap x = x := by rw [IntKind.wrap_u16]; omega
      have KA := K4
      clear HQ c4 kz
      go_upto_region 10 with fail
      go_cut [14, 15] (fun v e wx => ∃ b, v = .pointer (some ⟨b, 0, none⟩) ∧ e = .int .i64 0 ∧ Blk wx b (Lt.cells { p with fr := x }) 23 ∧ w.heap.size < b ∧ KX w p wx)
      case first =>
        go_region_with (first
          | (go_at_call 10; refine (CR _).mono ?_; rintro e w7 ⟨rfl, hb7⟩; (first | (have kz := kz.below hb7 kz.lt) | (have kz := (Blk.new _ zeroL.cells 23).below hb7 (by simp); have lz := KA.m.lt) | (have kz := (Blk.drew (Blk.new _ zeroL.cells 23)).below hb7 (by simp); have lz := KA.m.lt) | skip); (first | (have KA := KX.call KA hb7) | (have KA := KX.call (KX.alloc KA _) hb7) | (have KA := KX.call (KX.drew KA) hb7) | (have KA := KX.call (KX.drew (KX.alloc KA _)) hb7)); try (have ckz := kz.cell; have fkz := kz.free))
          | (go_at_call 20; refine (CK _ _ (by omega) (by omega)).mono ?_; rintro e w5 ⟨rfl, hb5⟩; (first | (have kz := kz.below hb5 kz.lt) | (have kz := (Blk.new _ zeroL.cells 23).below hb5 (by simp); have lz := KA.m.lt) | (have kz := (Blk.drew (Blk.new _ zeroL.cells 23)).below hb5 (by simp); have lz := KA.m.lt) | skip); (first | (have KA := KX.call KA hb5) | (have KA := KX.call (KX.alloc KA _) hb5) | (have KA := KX.call (KX.drew KA) hb5) | (have KA := KX.call (KX.drew (KX.alloc KA _)) hb5)); try (have ckz := kz.cell; have fkz := kz.free)))
        all_goals first
          | (go_wp2_with fail; go_meet; exact ⟨_, rfl, rfl, ((kz.setCell 0 _).setCell 1 _).setCell 2 _, lz, KX.set3 KA lz _ _ _⟩)
          | (go_wp2_with fail; go_meet; exact ⟨_, rfl, rfl, Blk.new _ _ _, KA.m.lt, KX.alloc KA _⟩)
      case rest =>
        obtain ⟨b, rfl, rfl, B3, lb, K3⟩ := hcut
        have k3' := K3.m
        have c3 := k3'.cell
        have f3 := k3'.free
        have k5 := k3'.setCell 0 (.int .i64 x)
        have u5 := but_setCell wc w.heap.size 0 (.int .i64 x)
        have B5 := u5.blk B3 (by omega)
        have b5 := u5.below K3.bel (Nat.le_refl _)
        have cb5 := B5.cell
        have ck5 : ∀ o, (wc.setCell ⟨w.heap.size, 0, none⟩ (.int .i64 x)).cell? ⟨w.heap.size, o, none⟩ = (Lt.cells { p with fr := x })[o]? := k5.cell
        clear k3' B3 k5 u5 B5 K3
        go_wp2_with fail
        go_ret
        exact ⟨rfl, b5⟩
end Go.Proofs.Ytohonfpmaafnaaa.dgx
