/- What custref.PacketText answers of a packet that can be written. -/
import Derived.Test.YtlbpapngcgnepaaIpText
import Derived.Test.YtlbpapngcgnepaaLast
import Derived.Test.YtlbpapngcgnepaaTold
namespace Go.Proofs.Ytlbpapngcgnepaa.ipt
open Go.ChangeShapes Go.WideShapes Go.ChangeAt Go.RowKit Go.BigFrame
open Go.Proofs.Ytlbpapngcgnepaa Go.Proofs.Ytlbpapngcgnepaa.EM Go.Proofs.Ytlbpapngcgnepaa.ethb Go.Proofs.Ytlbpapngcgnepaa.SM Go.Proofs.Ytlbpapngcgnepaa.ipb Go.Proofs.Ytlbpapngcgnepaa.buf Go.Proofs.Ytlbpapngcgnepaa.boxes Go.Proofs.Ytlbpapngcgnepaa.ipi Go.Proofs.Ytlbpapngcgnepaa.ipw
open Go.Proofs.Ytlbpapngcgnepaa.refb (bytes_any word_ref between_any)
open Go.Proofs.Ytlbpapngcgnepaa.ipm (bytes_ext ext_list)

def sp (v : Value) (F : Array Value) (n : Nat) (W : World) : Prop := ∃ b, v = .slice (some ⟨b, 0, none⟩) n n ∧ Blk W b F 3
theorem cell_row {W : World} {b : Nat} {F : Array Value} {t : TypeId} (B : Blk W b F t) (xs : List Int) (hF : F = (xs.map fun x => Value.int .i64 x).toArray) : ∀ j, j < xs.length → W.cell? ⟨b, 0 + j, none⟩ = some (.int .i64 (xs.getD j 0)) := by
  intro j hj
  rw [B.cell, hF]
  simp [List.getElem?_eq_getElem hj, List.getD_eq_getElem?_getD]
/-- the seven texts of a head, as PacketText joins them -/
theorem joined (p : Pk) : ((((((((⟨([69 + ((p.o.size / 4 : Nat) : Int), p.tos].map refb.b8).toArray⟩ : ByteArray) ++ ⟨#[hi8 (20 + p.o.size + p.d.size : Nat), lo8 (20 + p.o.size + p.d.size : Nat)]⟩) ++ ⟨#[hi8 p.id, lo8 p.id]⟩) ++ ⟨#[hi8 p.fl, lo8 p.fl]⟩) ++ ⟨([p.li, p.pr, 0, 0].map refb.b8).toArray⟩) ++ ⟨(adr p.fr).toArray⟩) ++ ⟨(adr p.to).toArray⟩) ++ p.o).data.toList = p.h1 ++ (0 :: 0 :: p.h2) := by
  have e : refb.b8 = ipb.b8 := rfl
  have z : ipb.b8 0 = 0 := rfl
  simp [Pk.h1, Pk.h2, e, z]
/-- the text that comes of a head -/
theorem ended (p : Pk) (H : ByteArray) (hH : H.data.toList = p.h1 ++ (0 :: 0 :: p.h2)) : (((H.extract 0 10 ++ ⟨#[hi8 p.ck, lo8 p.ck]⟩) ++ H.extract 12 H.size) ++ p.d) = ⟨p.txt.toArray⟩ := by
  apply bytes_ext
  have hz : H.size = (p.h1 ++ (0 :: 0 :: p.h2)).length := by rw [← hH]; simp
  have l10 : p.h1.length = 10 := by simp [Pk.h1]
  have e1 : (H.extract 0 10).data.toList = p.h1 := by
    rw [ext_list, hH, List.drop_zero, List.take_append_of_le_length (by omega), List.take_of_length_le (by omega)]
  have e2 : (H.extract 12 H.size).data.toList = p.h2 := by
    rw [ext_list, hH, List.take_of_length_le (by omega), show p.h1 ++ (0 :: 0 :: p.h2) = (p.h1 ++ [0, 0]) ++ p.h2 by simp, List.drop_left' (by simp [l10])]
  have d1 : ∀ a b : ByteArray, (a ++ b).data.toList = a.data.toList ++ b.data.toList := fun a b => by simp
  rw [d1, d1, d1, e1, e2]
  simp [Pk.txt]

set_option maxRecDepth 20000 in
set_option maxHeartbeats 4000000 in
theorem pt_ok0 (tos id st li pr fr tt : Int) (o d : ByteArray) (w : World) (hp : (Pk.mk tos id false false st li pr fr tt o d).Ok) (ha : (Pk.mk tos id false false st li pr fr tt o d).Adr) :
    Calls Try.prog 22 #[.agg (Pk.mk tos id false false st li pr fr tt o d).cells] w fun e w' => e = .returned (.tuple #[.string ⟨(Pk.mk tos id false false st li pr fr tt o d).txt.toArray⟩, .int .i64 0]) ∧ Below w.heap.size w w' := by
  obtain ⟨p, hpp⟩ : ∃ p : Pk, p = ⟨tos, id, false, false, st, li, pr, fr, tt, o, d⟩ := ⟨_, rfl⟩
  have hJ := joined ⟨tos, id, false, false, st, li, pr, fr, tt, o, d⟩
  have hE := ended ⟨tos, id, false, false, st, li, pr, fr, tt, o, d⟩
  have hck := Pk.ck_bd ⟨tos, id, false, false, st, li, pr, fr, tt, o, d⟩
  have hflb := hp.fl_bd
  have efl : (Pk.mk tos id false false st li pr fr tt o d).fl = st := by simp [Pk.fl]
  obtain ⟨X, hX⟩ : ∃ X, X = (Pk.mk tos id false false st li pr fr tt o d).txt := ⟨_, rfl⟩
  rw [← hX] at hE ⊢
  clear hX
  rw [efl] at hJ hflb
  have t0 : 0 ≤ tos := hp.tos0
  have t1 : tos ≤ 255 := hp.tos1
  have l0 : 0 ≤ li := hp.li0
  have l1 : li ≤ 255 := hp.li1
  have p0 : 0 ≤ pr := hp.pr0
  have p1 : pr ≤ 255 := hp.pr1
  have i0 : 0 ≤ id := hp.id0
  have i1 : id ≤ 65535 := hp.id1
  have s0 : 0 ≤ st := hp.st0
  have s1 : st ≤ 8191 := hp.st1
  have o1 : o.size ≤ 40 := hp.o1
  have o4 : o.size % 4 = 0 := hp.o4
  have hall : 20 + o.size + d.size ≤ 65535 := hp.all
  have hf0 : 0 ≤ fr := ha.f0
  have hf1 : fr ≤ 4294967295 := ha.f1
  have ht0 : 0 ≤ tt := ha.t0
  have ht1 : tt ≤ 4294967295 := ha.t1
  have o1' : decide (40 < (o.size : Int)) = false := by simp; omega
  have o4' : decide (0 < (o.size : Int) % 4) = false := by simp; omega
  simp only at hJ hE hck
  have cB1 : ∀ (b : Nat) (u : World), Blk u b #[.int .i64 (69 + (o.size : Int) / 4), .int .i64 tos] 3 → Calls Try.prog 49 #[.slice (some ⟨b, 0, none⟩) 2 2] u fun e w' => e = .returned (.string ⟨([69 + ((o.size / 4 : Nat) : Int), tos].map refb.b8).toArray⟩) ∧ Below u.heap.size u w' := fun b u B =>
    bytes_any u b 0 2 [69 + ((o.size / 4 : Nat) : Int), tos] B.lt (by simp) (cell_row B _ (by simp))
  have cB2 : ∀ (b : Nat) (u : World), Blk u b #[.int .i64 li, .int .i64 pr, .int .i64 0, .int .i64 0] 3 → Calls Try.prog 49 #[.slice (some ⟨b, 0, none⟩) 4 4] u fun e w' => e = .returned (.string ⟨([li, pr, 0, 0].map refb.b8).toArray⟩) ∧ Below u.heap.size u w' := fun b u B =>
    bytes_any u b 0 4 [li, pr, 0, 0] B.lt (by simp) (cell_row B _ (by simp))
  have cW1 : ∀ u, Calls Try.prog 50 #[.int .i64 (20 + (o.size : Int) + d.size)] u fun e w' => e = .returned (.string ⟨#[hi8 (20 + o.size + d.size : Nat), lo8 (20 + o.size + d.size : Nat)]⟩) ∧ Below u.heap.size u w' := fun u =>
    word_ref (20 + o.size + d.size : Nat) u (by omega) (by omega)
  have cW2 := fun u => word_ref id u i0 i1
  have cW3 := fun u => word_ref (st) u (by omega) (by omega)
  have cL1 := fun u => long_ref fr u hf0 hf1
  have cL2 := fun u => long_ref tt u ht0 ht1
  have cWk := fun u => word_ref (Pk.mk tos id false false st li pr fr tt o d).ck u hck.1 hck.2
  have zo : o.size = o.size := rfl
  obtain ⟨V1, h1⟩ : ∃ V, V = (⟨([69 + ((o.size / 4 : Nat) : Int), tos].map refb.b8).toArray⟩ : ByteArray) := ⟨_, rfl⟩
  obtain ⟨V2, h2⟩ : ∃ V, V = (⟨#[hi8 (20 + o.size + d.size : Nat), lo8 (20 + o.size + d.size : Nat)]⟩ : ByteArray) := ⟨_, rfl⟩
  obtain ⟨V3, h3⟩ : ∃ V, V = (⟨#[hi8 id, lo8 id]⟩ : ByteArray) := ⟨_, rfl⟩
  obtain ⟨V4, h4⟩ : ∃ V, V = (⟨#[hi8 (st), lo8 (st)]⟩ : ByteArray) := ⟨_, rfl⟩
  obtain ⟨V5, h5⟩ : ∃ V, V = (⟨([li, pr, 0, 0].map refb.b8).toArray⟩ : ByteArray) := ⟨_, rfl⟩
  obtain ⟨V6, h6⟩ : ∃ V, V = (⟨(adr fr).toArray⟩ : ByteArray) := ⟨_, rfl⟩
  obtain ⟨V7, h7⟩ : ∃ V, V = (⟨(adr tt).toArray⟩ : ByteArray) := ⟨_, rfl⟩
  rw [← h1] at cB1 hJ
  rw [← h2] at cW1 hJ
  rw [← h3] at cW2 hJ
  rw [← h4] at cW3 hJ
  rw [← h5] at cB2 hJ
  rw [← h6] at cL1 hJ
  rw [← h7] at cL2 hJ
  have z1 : V1.size = 2 := by rw [h1]; rfl
  have z2 : V2.size = 2 := by rw [h2]; rfl
  have z3 : V3.size = 2 := by rw [h3]; rfl
  have z4 : V4.size = 2 := by rw [h4]; rfl
  have z5 : V5.size = 4 := by rw [h5]; rfl
  have z6 : V6.size = 4 := by rw [h6]; rfl
  have z7 : V7.size = 4 := by rw [h7]; rfl
  clear h1 h2 h3 h4 h5 h6 h7 hpp p hp ha efl zo
  obtain ⟨P, hP⟩ : ∃ P : Pk, P = ⟨tos, id, false, false, st, li, pr, fr, tt, o, d⟩ := ⟨_, rfl⟩
  rw [← hP] at hE hck cWk hJ
  have HH : Hid (∀ H : ByteArray, H.data.toList = P.h1 ++ (0 :: 0 :: P.h2) → (((H.extract 0 10 ++ ⟨#[hi8 P.ck, lo8 P.ck]⟩) ++ H.extract 12 H.size) ++ d) = ⟨X.toArray⟩) := hE
  have HJ : Hid ((((((((V1 ++ V2) ++ V3) ++ V4) ++ V5) ++ V6) ++ V7) ++ o).data.toList = P.h1 ++ (0 :: 0 :: P.h2)) := hJ
  have HC : Hid (P.ck = 65535 - wsum 0 (P.h1 ++ (0 :: 0 :: P.h2))) := (rfl : _ = _)
  clear hE hJ
  obtain ⟨ck, hckk⟩ : ∃ ck, ck = P.ck := ⟨_, rfl⟩
  rw [← hckk] at HH HC hck cWk
  clear hckk hP
  obtain ⟨VK, hk⟩ : ∃ V, V = (⟨#[hi8 ck, lo8 ck]⟩ : ByteArray) := ⟨_, rfl⟩
  rw [← hk] at HH cWk
  have zk : VK.size = 2 := by rw [hk]; rfl
  clear hk
  have K0 : KP w ⟨tos, id, false, false, st, li, pr, fr, tt, o, d⟩ (w.alloc (.cells (Pk.cells ⟨tos, id, false, false, st, li, pr, fr, tt, o, d⟩) 24)) := ⟨Blk.new _ _ _, (Below.refl _ _).alloc (Nat.le_refl _) _⟩
  go_enter Try.func22, Try.ntmps22
  go_wp2_with fail
  refine (between_any tos 0 255 _).mono ?_
  rintro e w1 ⟨rfl, rfl⟩
  rw [decide_eq_true (And.intro t0 t1)]
  go_wp2_with fail
  refine (between_any li 0 255 _).mono ?_
  rintro e w1 ⟨rfl, rfl⟩
  rw [decide_eq_true (And.intro l0 l1)]
  go_wp2_with fail
  refine (between_any pr 0 255 _).mono ?_
  rintro e w1 ⟨rfl, rfl⟩
  rw [decide_eq_true (And.intro p0 p1)]
  go_wp2_with fail
  refine (between_any id 0 65535 _).mono ?_
  rintro e w1 ⟨rfl, rfl⟩
  rw [decide_eq_true (And.intro i0 i1)]
  go_wp2_with fail
  refine (between_any _ 0 8191 _).mono ?_
  rintro e w1 ⟨rfl, rfl⟩
  rw [decide_eq_true (by omega)]
  have L : 20 + (o.size : Int) + d.size ≤ 65535 := by omega
  go_upto_region 13 with fail
  have ne : Nonempty (spc.In (KP w ⟨tos, id, false, false, st, li, pr, fr, tt, o, d⟩)) := ⟨⟨_, K0⟩⟩
  have cm : ∀ (x : spc.In (KP w ⟨tos, id, false, false, st, li, pr, fr, tt, o, d⟩)) k, x.W.cell? ⟨w.heap.size, k, none⟩ = (Pk.cells ⟨tos, id, false, false, st, li, pr, fr, tt, o, d⟩)[k]? := fun x => x.h.m.cell
  have q4 : (o.size : Int).tdiv 4 = (o.size : Int) / 4 := Int.tdiv_eq_ediv_of_nonneg (by omega)
  refine' spc.wp_region_told_in [(5, undef), (6, .string V1), (13, .string V2), (17, .string V3), (20, .string V4), (26, undef), (27, .string V5), (31, .string V6), (35, .string V7)] [(5, 74), (26, 95)]
    (fun k v W => (k = 5 → sp v #[.int .i64 (69 + (o.size : Int) / 4), .int .i64 tos] 2 W) ∧ (k = 26 → sp v #[.int .i64 li, .int .i64 pr, .int .i64 0, .int .i64 0] 4 W)) (KP w ⟨tos, id, false, false, st, li, pr, fr, tt, o, d⟩) (fun W W' => Below W.heap.size W W') (by kernel_rfl) (by kernel_rfl) (KP.drew K0)
    (fun k v W W' hb h => ⟨fun hk => (let ⟨b, e, B⟩ := h.1 hk; ⟨b, e, B.below hb B.lt⟩), fun hk => (let ⟨b, e, B⟩ := h.2 hk; ⟨b, e, B.below hb B.lt⟩)⟩) (by simp only [spc.rep, List.lookup, Nat.zero_add, Nat.reduceAdd, Nat.reduceBEq]; exact rfl) ?_
  repeat (go_big_quiet_step (fail))
  refine wpQuiet_nil ⟨?_, ?_⟩
  · simp only [List.forall_mem_cons, List.not_mem_nil, false_imp_iff, implies_true, and_true]
    refine ⟨?_, ?_, ?_, ?_, ?_, ?_, ?_, ?_, ?_⟩
    · rintro _ ⟨⟩ x w2 hC - -
      refine told.build2 _ _ (69 + (o.size : Int) / 4) tos rfl rfl rfl ⟨KP.call hC ((Below.refl _ _).alloc (Nat.le_refl _) _), (Below.refl _ _).alloc (Nat.le_refl _) _, ?_⟩
      rw [if_pos (by decide)]
      exact ⟨fun _ => ⟨_, rfl, Blk.new _ _ _⟩, fun h => absurd h (by decide)⟩
    · rintro _ ⟨⟩ x w2 hC hS -
      obtain ⟨b, e, B⟩ := (hS (5, 74) (by simp) (by simp [Oper.looksAt, Op.operands, Call.operands])).1 rfl
      exact told.call1 49 _ _ (.slice (some ⟨b, 0, none⟩) 2 2) rfl (by intro args w; simp [go_sem]) e ((cB1 b _ B).mono fun e w3 ⟨he, hb⟩ => ⟨_, he, KP.call hC hb, hb, rfl⟩)
    · rintro _ ⟨⟩ x w2 hC - -
      exact told.call1 50 _ _ _ rfl (by intro args w; simp [go_sem]) rfl ((cW1 _).mono fun e w3 ⟨he, hb⟩ => ⟨_, he, KP.call hC hb, hb, rfl⟩)
    · rintro _ ⟨⟩ x w2 hC - -
      exact told.call1 50 _ _ _ rfl (by intro args w; simp [go_sem]) rfl ((cW2 _).mono fun e w3 ⟨he, hb⟩ => ⟨_, he, KP.call hC hb, hb, rfl⟩)
    · rintro _ ⟨⟩ x w2 hC - -
      exact told.call1 50 _ _ _ rfl (by intro args w; simp [go_sem]) rfl ((cW3 _).mono fun e w3 ⟨he, hb⟩ => ⟨_, he, KP.call hC hb, hb, rfl⟩)
    · rintro _ ⟨⟩ x w2 hC - -
      refine told.build4 _ _ _ _ li pr 0 0 rfl rfl rfl rfl rfl ⟨KP.call hC ((Below.refl _ _).alloc (Nat.le_refl _) _), (Below.refl _ _).alloc (Nat.le_refl _) _, ?_⟩
      rw [if_pos (by decide)]
      exact ⟨fun h => absurd h (by decide), fun _ => ⟨_, rfl, Blk.new _ _ _⟩⟩
    · rintro _ ⟨⟩ x w2 hC hS -
      obtain ⟨b, e, B⟩ := (hS (26, 95) (by simp) (by simp [Oper.looksAt, Op.operands, Call.operands])).2 rfl
      exact told.call1 49 _ _ (.slice (some ⟨b, 0, none⟩) 4 4) rfl (by intro args w; simp [go_sem]) e ((cB2 b _ B).mono fun e w3 ⟨he, hb⟩ => ⟨_, he, KP.call hC hb, hb, rfl⟩)
    · rintro _ ⟨⟩ x w2 hC - -
      exact told.call1 51 _ _ _ rfl (by intro args w; simp [go_sem]) rfl ((cL1 _).mono fun e w3 ⟨he, hb⟩ => ⟨_, he, KP.call hC hb, hb, rfl⟩)
    · rintro _ ⟨⟩ x w2 hC - -
      exact told.call1 51 _ _ _ rfl (by intro args w; simp [go_sem]) rfl ((cL2 _).mono fun e w3 ⟨he, hb⟩ => ⟨_, he, KP.call hC hb, hb, rfl⟩)
  intro x W hC hS
  clear hS cB1 cB2 cW1 cW2 cW3 cL1 cL2 ne cm K0
  simp only [spc.jn, Act.put, List.setIfInBounds_toArray, List.set_cons_succ, List.set_cons_zero]
  have zH : (V1 ++ V2 ++ V3 ++ V4 ++ V5 ++ V6 ++ V7 ++ o).size = 20 + o.size := by simp [ByteArray.size_append, z1, z2, z3, z4, z5, z6, z7]
  generalize V1 ++ V2 ++ V3 ++ V4 ++ V5 ++ V6 ++ V7 ++ o = H at HJ zH ⊢
  have cC : ∀ u, Calls Try.prog 52 #[.string H] u fun e w' => e = .returned (.int .i64 ck) ∧ w' = u := fun u => by
    have := sumr.check_any H u (by omega)
    rw [HJ.out, ← HC.out] at this
    exact this
  have HE := HH.out H HJ.out
  have HR : Hid (H.extract 0 10 ++ VK ++ H.extract 12 H.size ++ d = ⟨X.toArray⟩) := HE
  have zA : (H.extract 0 10).size = 10 := by rw [ByteArray.size_extract]; omega
  have zB : (H.extract 12 H.size).size = 8 + o.size := by rw [ByteArray.size_extract]; omega
  have g10 : (10 : Int) ≤ H.size := by omega
  have g12 : (12 : Int) ≤ H.size := by omega
  clear HE HH HJ HC
  clear zH
  go_upto_region 14 with fail
  have ne : Nonempty (cls.In (KP w ⟨tos, id, false, false, st, li, pr, fr, tt, o, d⟩)) := ⟨⟨_, hC⟩⟩
  have cm : ∀ (x : cls.In (KP w ⟨tos, id, false, false, st, li, pr, fr, tt, o, d⟩)) k, x.W.cell? ⟨w.heap.size, k, none⟩ = (Pk.cells ⟨tos, id, false, false, st, li, pr, fr, tt, o, d⟩)[k]? := fun x => x.h.m.cell
  refine cls.wp_region_class (KP w ⟨tos, id, false, false, st, li, pr, fr, tt, o, d⟩) (by kernel_rfl) (by kernel_rfl) (KP.drew hC) ?_
  repeat (go_big_quiet_step (first
    | (go_at_call 52; exact cls.call_class (cC _) fun _ hb => hb ▸ cls.In.h _)
    | (go_at_call 50; exact cls.call_class (cWk _) fun _ hb => KP.call (cls.In.h _) hb)))
  refine wpQuiet_nil ?_
  intro _ hx
  obtain ⟨y, rfl⟩ := hx
  go_wp2_with fail
  go_ret2
  exact ⟨ret_text HR.out rfl, y.h.bel⟩
set_option maxRecDepth 20000 in
set_option maxHeartbeats 4000000 in
theorem pt_ok1 (tos id st li pr fr tt : Int) (o d : ByteArray) (w : World) (hp : (Pk.mk tos id false true st li pr fr tt o d).Ok) (ha : (Pk.mk tos id false true st li pr fr tt o d).Adr) :
    Calls Try.prog 22 #[.agg (Pk.mk tos id false true st li pr fr tt o d).cells] w fun e w' => e = .returned (.tuple #[.string ⟨(Pk.mk tos id false true st li pr fr tt o d).txt.toArray⟩, .int .i64 0]) ∧ Below w.heap.size w w' := by
  obtain ⟨p, hpp⟩ : ∃ p : Pk, p = ⟨tos, id, false, true, st, li, pr, fr, tt, o, d⟩ := ⟨_, rfl⟩
  have hJ := joined ⟨tos, id, false, true, st, li, pr, fr, tt, o, d⟩
  have hE := ended ⟨tos, id, false, true, st, li, pr, fr, tt, o, d⟩
  have hck := Pk.ck_bd ⟨tos, id, false, true, st, li, pr, fr, tt, o, d⟩
  have hflb := hp.fl_bd
  have efl : (Pk.mk tos id false true st li pr fr tt o d).fl = st + 8192 := by simp [Pk.fl]
  obtain ⟨X, hX⟩ : ∃ X, X = (Pk.mk tos id false true st li pr fr tt o d).txt := ⟨_, rfl⟩
  rw [← hX] at hE ⊢
  clear hX
  rw [efl] at hJ hflb
  have t0 : 0 ≤ tos := hp.tos0
  have t1 : tos ≤ 255 := hp.tos1
  have l0 : 0 ≤ li := hp.li0
  have l1 : li ≤ 255 := hp.li1
  have p0 : 0 ≤ pr := hp.pr0
  have p1 : pr ≤ 255 := hp.pr1
  have i0 : 0 ≤ id := hp.id0
  have i1 : id ≤ 65535 := hp.id1
  have s0 : 0 ≤ st := hp.st0
  have s1 : st ≤ 8191 := hp.st1
  have o1 : o.size ≤ 40 := hp.o1
  have o4 : o.size % 4 = 0 := hp.o4
  have hall : 20 + o.size + d.size ≤ 65535 := hp.all
  have hf0 : 0 ≤ fr := ha.f0
  have hf1 : fr ≤ 4294967295 := ha.f1
  have ht0 : 0 ≤ tt := ha.t0
  have ht1 : tt ≤ 4294967295 := ha.t1
  have o1' : decide (40 < (o.size : Int)) = false := by simp; omega
  have o4' : decide (0 < (o.size : Int) % 4) = false := by simp; omega
  simp only at hJ hE hck
  have cB1 : ∀ (b : Nat) (u : World), Blk u b #[.int .i64 (69 + (o.size : Int) / 4), .int .i64 tos] 3 → Calls Try.prog 49 #[.slice (some ⟨b, 0, none⟩) 2 2] u fun e w' => e = .returned (.string ⟨([69 + ((o.size / 4 : Nat) : Int), tos].map refb.b8).toArray⟩) ∧ Below u.heap.size u w' := fun b u B =>
    bytes_any u b 0 2 [69 + ((o.size / 4 : Nat) : Int), tos] B.lt (by simp) (cell_row B _ (by simp))
  have cB2 : ∀ (b : Nat) (u : World), Blk u b #[.int .i64 li, .int .i64 pr, .int .i64 0, .int .i64 0] 3 → Calls Try.prog 49 #[.slice (some ⟨b, 0, none⟩) 4 4] u fun e w' => e = .returned (.string ⟨([li, pr, 0, 0].map refb.b8).toArray⟩) ∧ Below u.heap.size u w' := fun b u B =>
    bytes_any u b 0 4 [li, pr, 0, 0] B.lt (by simp) (cell_row B _ (by simp))
  have cW1 : ∀ u, Calls Try.prog 50 #[.int .i64 (20 + (o.size : Int) + d.size)] u fun e w' => e = .returned (.string ⟨#[hi8 (20 + o.size + d.size : Nat), lo8 (20 + o.size + d.size : Nat)]⟩) ∧ Below u.heap.size u w' := fun u =>
    word_ref (20 + o.size + d.size : Nat) u (by omega) (by omega)
  have cW2 := fun u => word_ref id u i0 i1
  have cW3 := fun u => word_ref (st + 8192) u (by omega) (by omega)
  have cL1 := fun u => long_ref fr u hf0 hf1
  have cL2 := fun u => long_ref tt u ht0 ht1
  have cWk := fun u => word_ref (Pk.mk tos id false true st li pr fr tt o d).ck u hck.1 hck.2
  have zo : o.size = o.size := rfl
  obtain ⟨V1, h1⟩ : ∃ V, V = (⟨([69 + ((o.size / 4 : Nat) : Int), tos].map refb.b8).toArray⟩ : ByteArray) := ⟨_, rfl⟩
  obtain ⟨V2, h2⟩ : ∃ V, V = (⟨#[hi8 (20 + o.size + d.size : Nat), lo8 (20 + o.size + d.size : Nat)]⟩ : ByteArray) := ⟨_, rfl⟩
  obtain ⟨V3, h3⟩ : ∃ V, V = (⟨#[hi8 id, lo8 id]⟩ : ByteArray) := ⟨_, rfl⟩
  obtain ⟨V4, h4⟩ : ∃ V, V = (⟨#[hi8 (st + 8192), lo8 (st + 8192)]⟩ : ByteArray) := ⟨_, rfl⟩
  obtain ⟨V5, h5⟩ : ∃ V, V = (⟨([li, pr, 0, 0].map refb.b8).toArray⟩ : ByteArray) := ⟨_, rfl⟩
  obtain ⟨V6, h6⟩ : ∃ V, V = (⟨(adr fr).toArray⟩ : ByteArray) := ⟨_, rfl⟩
  obtain ⟨V7, h7⟩ : ∃ V, V = (⟨(adr tt).toArray⟩ : ByteArray) := ⟨_, rfl⟩
  rw [← h1] at cB1 hJ
  rw [← h2] at cW1 hJ
  rw [← h3] at cW2 hJ
  rw [← h4] at cW3 hJ
  rw [← h5] at cB2 hJ
  rw [← h6] at cL1 hJ
  rw [← h7] at cL2 hJ
  have z1 : V1.size = 2 := by rw [h1]; rfl
  have z2 : V2.size = 2 := by rw [h2]; rfl
  have z3 : V3.size = 2 := by rw [h3]; rfl
  have z4 : V4.size = 2 := by rw [h4]; rfl
  have z5 : V5.size = 4 := by rw [h5]; rfl
  have z6 : V6.size = 4 := by rw [h6]; rfl
  have z7 : V7.size = 4 := by rw [h7]; rfl
  clear h1 h2 h3 h4 h5 h6 h7 hpp p hp ha efl zo
  obtain ⟨P, hP⟩ : ∃ P : Pk, P = ⟨tos, id, false, true, st, li, pr, fr, tt, o, d⟩ := ⟨_, rfl⟩
  rw [← hP] at hE hck cWk hJ
  have HH : Hid (∀ H : ByteArray, H.data.toList = P.h1 ++ (0 :: 0 :: P.h2) → (((H.extract 0 10 ++ ⟨#[hi8 P.ck, lo8 P.ck]⟩) ++ H.extract 12 H.size) ++ d) = ⟨X.toArray⟩) := hE
  have HJ : Hid ((((((((V1 ++ V2) ++ V3) ++ V4) ++ V5) ++ V6) ++ V7) ++ o).data.toList = P.h1 ++ (0 :: 0 :: P.h2)) := hJ
  have HC : Hid (P.ck = 65535 - wsum 0 (P.h1 ++ (0 :: 0 :: P.h2))) := (rfl : _ = _)
  clear hE hJ
  obtain ⟨ck, hckk⟩ : ∃ ck, ck = P.ck := ⟨_, rfl⟩
  rw [← hckk] at HH HC hck cWk
  clear hckk hP
  obtain ⟨VK, hk⟩ : ∃ V, V = (⟨#[hi8 ck, lo8 ck]⟩ : ByteArray) := ⟨_, rfl⟩
  rw [← hk] at HH cWk
  have zk : VK.size = 2 := by rw [hk]; rfl
  clear hk
  have K0 : KP w ⟨tos, id, false, true, st, li, pr, fr, tt, o, d⟩ (w.alloc (.cells (Pk.cells ⟨tos, id, false, true, st, li, pr, fr, tt, o, d⟩) 24)) := ⟨Blk.new _ _ _, (Below.refl _ _).alloc (Nat.le_refl _) _⟩
  go_enter Try.func22, Try.ntmps22
  go_wp2_with fail
  refine (between_any tos 0 255 _).mono ?_
  rintro e w1 ⟨rfl, rfl⟩
  rw [decide_eq_true (And.intro t0 t1)]
  go_wp2_with fail
  refine (between_any li 0 255 _).mono ?_
  rintro e w1 ⟨rfl, rfl⟩
  rw [decide_eq_true (And.intro l0 l1)]
  go_wp2_with fail
  refine (between_any pr 0 255 _).mono ?_
  rintro e w1 ⟨rfl, rfl⟩
  rw [decide_eq_true (And.intro p0 p1)]
  go_wp2_with fail
  refine (between_any id 0 65535 _).mono ?_
  rintro e w1 ⟨rfl, rfl⟩
  rw [decide_eq_true (And.intro i0 i1)]
  go_wp2_with fail
  refine (between_any _ 0 8191 _).mono ?_
  rintro e w1 ⟨rfl, rfl⟩
  rw [decide_eq_true (by omega)]
  have L : 20 + (o.size : Int) + d.size ≤ 65535 := by omega
  go_upto_region 13 with fail
  have ne : Nonempty (spc.In (KP w ⟨tos, id, false, true, st, li, pr, fr, tt, o, d⟩)) := ⟨⟨_, K0⟩⟩
  have cm : ∀ (x : spc.In (KP w ⟨tos, id, false, true, st, li, pr, fr, tt, o, d⟩)) k, x.W.cell? ⟨w.heap.size, k, none⟩ = (Pk.cells ⟨tos, id, false, true, st, li, pr, fr, tt, o, d⟩)[k]? := fun x => x.h.m.cell
  have q4 : (o.size : Int).tdiv 4 = (o.size : Int) / 4 := Int.tdiv_eq_ediv_of_nonneg (by omega)
  refine' spc.wp_region_told_in [(5, undef), (6, .string V1), (13, .string V2), (17, .string V3), (20, .string V4), (26, undef), (27, .string V5), (31, .string V6), (35, .string V7)] [(5, 74), (26, 95)]
    (fun k v W => (k = 5 → sp v #[.int .i64 (69 + (o.size : Int) / 4), .int .i64 tos] 2 W) ∧ (k = 26 → sp v #[.int .i64 li, .int .i64 pr, .int .i64 0, .int .i64 0] 4 W)) (KP w ⟨tos, id, false, true, st, li, pr, fr, tt, o, d⟩) (fun W W' => Below W.heap.size W W') (by kernel_rfl) (by kernel_rfl) (KP.drew K0)
    (fun k v W W' hb h => ⟨fun hk => (let ⟨b, e, B⟩ := h.1 hk; ⟨b, e, B.below hb B.lt⟩), fun hk => (let ⟨b, e, B⟩ := h.2 hk; ⟨b, e, B.below hb B.lt⟩)⟩) (by simp only [spc.rep, List.lookup, Nat.zero_add, Nat.reduceAdd, Nat.reduceBEq]; exact rfl) ?_
  repeat (go_big_quiet_step (fail))
  refine wpQuiet_nil ⟨?_, ?_⟩
  · simp only [List.forall_mem_cons, List.not_mem_nil, false_imp_iff, implies_true, and_true]
    refine ⟨?_, ?_, ?_, ?_, ?_, ?_, ?_, ?_, ?_⟩
    · rintro _ ⟨⟩ x w2 hC - -
      refine told.build2 _ _ (69 + (o.size : Int) / 4) tos rfl rfl rfl ⟨KP.call hC ((Below.refl _ _).alloc (Nat.le_refl _) _), (Below.refl _ _).alloc (Nat.le_refl _) _, ?_⟩
      rw [if_pos (by decide)]
      exact ⟨fun _ => ⟨_, rfl, Blk.new _ _ _⟩, fun h => absurd h (by decide)⟩
    · rintro _ ⟨⟩ x w2 hC hS -
      obtain ⟨b, e, B⟩ := (hS (5, 74) (by simp) (by simp [Oper.looksAt, Op.operands, Call.operands])).1 rfl
      exact told.call1 49 _ _ (.slice (some ⟨b, 0, none⟩) 2 2) rfl (by intro args w; simp [go_sem]) e ((cB1 b _ B).mono fun e w3 ⟨he, hb⟩ => ⟨_, he, KP.call hC hb, hb, rfl⟩)
    · rintro _ ⟨⟩ x w2 hC - -
      exact told.call1 50 _ _ _ rfl (by intro args w; simp [go_sem]) rfl ((cW1 _).mono fun e w3 ⟨he, hb⟩ => ⟨_, he, KP.call hC hb, hb, rfl⟩)
    · rintro _ ⟨⟩ x w2 hC - -
      exact told.call1 50 _ _ _ rfl (by intro args w; simp [go_sem]) rfl ((cW2 _).mono fun e w3 ⟨he, hb⟩ => ⟨_, he, KP.call hC hb, hb, rfl⟩)
    · rintro _ ⟨⟩ x w2 hC - -
      exact told.call1 50 _ _ _ rfl (by intro args w; simp [go_sem]) rfl ((cW3 _).mono fun e w3 ⟨he, hb⟩ => ⟨_, he, KP.call hC hb, hb, rfl⟩)
    · rintro _ ⟨⟩ x w2 hC - -
      refine told.build4 _ _ _ _ li pr 0 0 rfl rfl rfl rfl rfl ⟨KP.call hC ((Below.refl _ _).alloc (Nat.le_refl _) _), (Below.refl _ _).alloc (Nat.le_refl _) _, ?_⟩
      rw [if_pos (by decide)]
      exact ⟨fun h => absurd h (by decide), fun _ => ⟨_, rfl, Blk.new _ _ _⟩⟩
    · rintro _ ⟨⟩ x w2 hC hS -
      obtain ⟨b, e, B⟩ := (hS (26, 95) (by simp) (by simp [Oper.looksAt, Op.operands, Call.operands])).2 rfl
      exact told.call1 49 _ _ (.slice (some ⟨b, 0, none⟩) 4 4) rfl (by intro args w; simp [go_sem]) e ((cB2 b _ B).mono fun e w3 ⟨he, hb⟩ => ⟨_, he, KP.call hC hb, hb, rfl⟩)
    · rintro _ ⟨⟩ x w2 hC - -
      exact told.call1 51 _ _ _ rfl (by intro args w; simp [go_sem]) rfl ((cL1 _).mono fun e w3 ⟨he, hb⟩ => ⟨_, he, KP.call hC hb, hb, rfl⟩)
    · rintro _ ⟨⟩ x w2 hC - -
      exact told.call1 51 _ _ _ rfl (by intro args w; simp [go_sem]) rfl ((cL2 _).mono fun e w3 ⟨he, hb⟩ => ⟨_, he, KP.call hC hb, hb, rfl⟩)
  intro x W hC hS
  clear hS cB1 cB2 cW1 cW2 cW3 cL1 cL2 ne cm K0
  simp only [spc.jn, Act.put, List.setIfInBounds_toArray, List.set_cons_succ, List.set_cons_zero]
  have zH : (V1 ++ V2 ++ V3 ++ V4 ++ V5 ++ V6 ++ V7 ++ o).size = 20 + o.size := by simp [ByteArray.size_append, z1, z2, z3, z4, z5, z6, z7]
  generalize V1 ++ V2 ++ V3 ++ V4 ++ V5 ++ V6 ++ V7 ++ o = H at HJ zH ⊢
  have cC : ∀ u, Calls Try.prog 52 #[.string H] u fun e w' => e = .returned (.int .i64 ck) ∧ w' = u := fun u => by
    have := sumr.check_any H u (by omega)
    rw [HJ.out, ← HC.out] at this
    exact this
  have HE := HH.out H HJ.out
  have HR : Hid (H.extract 0 10 ++ VK ++ H.extract 12 H.size ++ d = ⟨X.toArray⟩) := HE
  have zA : (H.extract 0 10).size = 10 := by rw [ByteArray.size_extract]; omega
  have zB : (H.extract 12 H.size).size = 8 + o.size := by rw [ByteArray.size_extract]; omega
  have g10 : (10 : Int) ≤ H.size := by omega
  have g12 : (12 : Int) ≤ H.size := by omega
  clear HE HH HJ HC
  clear zH
  go_upto_region 14 with fail
  have ne : Nonempty (cls.In (KP w ⟨tos, id, false, true, st, li, pr, fr, tt, o, d⟩)) := ⟨⟨_, hC⟩⟩
  have cm : ∀ (x : cls.In (KP w ⟨tos, id, false, true, st, li, pr, fr, tt, o, d⟩)) k, x.W.cell? ⟨w.heap.size, k, none⟩ = (Pk.cells ⟨tos, id, false, true, st, li, pr, fr, tt, o, d⟩)[k]? := fun x => x.h.m.cell
  refine cls.wp_region_class (KP w ⟨tos, id, false, true, st, li, pr, fr, tt, o, d⟩) (by kernel_rfl) (by kernel_rfl) (KP.drew hC) ?_
  repeat (go_big_quiet_step (first
    | (go_at_call 52; exact cls.call_class (cC _) fun _ hb => hb ▸ cls.In.h _)
    | (go_at_call 50; exact cls.call_class (cWk _) fun _ hb => KP.call (cls.In.h _) hb)))
  refine wpQuiet_nil ?_
  intro _ hx
  obtain ⟨y, rfl⟩ := hx
  go_wp2_with fail
  go_ret2
  exact ⟨ret_text HR.out rfl, y.h.bel⟩
set_option maxRecDepth 20000 in
set_option maxHeartbeats 4000000 in
theorem pt_ok2 (tos id li pr fr tt : Int) (o d : ByteArray) (w : World) (hp : (Pk.mk tos id true false 0 li pr fr tt o d).Ok) (ha : (Pk.mk tos id true false 0 li pr fr tt o d).Adr) :
    Calls Try.prog 22 #[.agg (Pk.mk tos id true false 0 li pr fr tt o d).cells] w fun e w' => e = .returned (.tuple #[.string ⟨(Pk.mk tos id true false 0 li pr fr tt o d).txt.toArray⟩, .int .i64 0]) ∧ Below w.heap.size w w' := by
  obtain ⟨p, hpp⟩ : ∃ p : Pk, p = ⟨tos, id, true, false, 0, li, pr, fr, tt, o, d⟩ := ⟨_, rfl⟩
  have hJ := joined ⟨tos, id, true, false, 0, li, pr, fr, tt, o, d⟩
  have hE := ended ⟨tos, id, true, false, 0, li, pr, fr, tt, o, d⟩
  have hck := Pk.ck_bd ⟨tos, id, true, false, 0, li, pr, fr, tt, o, d⟩
  have hflb := hp.fl_bd
  have efl : (Pk.mk tos id true false 0 li pr fr tt o d).fl = 16384 := by simp [Pk.fl]
  obtain ⟨X, hX⟩ : ∃ X, X = (Pk.mk tos id true false 0 li pr fr tt o d).txt := ⟨_, rfl⟩
  rw [← hX] at hE ⊢
  clear hX
  rw [efl] at hJ hflb
  have t0 : 0 ≤ tos := hp.tos0
  have t1 : tos ≤ 255 := hp.tos1
  have l0 : 0 ≤ li := hp.li0
  have l1 : li ≤ 255 := hp.li1
  have p0 : 0 ≤ pr := hp.pr0
  have p1 : pr ≤ 255 := hp.pr1
  have i0 : 0 ≤ id := hp.id0
  have i1 : id ≤ 65535 := hp.id1
  have o1 : o.size ≤ 40 := hp.o1
  have o4 : o.size % 4 = 0 := hp.o4
  have hall : 20 + o.size + d.size ≤ 65535 := hp.all
  have hf0 : 0 ≤ fr := ha.f0
  have hf1 : fr ≤ 4294967295 := ha.f1
  have ht0 : 0 ≤ tt := ha.t0
  have ht1 : tt ≤ 4294967295 := ha.t1
  have o1' : decide (40 < (o.size : Int)) = false := by simp; omega
  have o4' : decide (0 < (o.size : Int) % 4) = false := by simp; omega
  simp only at hJ hE hck
  have cB1 : ∀ (b : Nat) (u : World), Blk u b #[.int .i64 (69 + (o.size : Int) / 4), .int .i64 tos] 3 → Calls Try.prog 49 #[.slice (some ⟨b, 0, none⟩) 2 2] u fun e w' => e = .returned (.string ⟨([69 + ((o.size / 4 : Nat) : Int), tos].map refb.b8).toArray⟩) ∧ Below u.heap.size u w' := fun b u B =>
    bytes_any u b 0 2 [69 + ((o.size / 4 : Nat) : Int), tos] B.lt (by simp) (cell_row B _ (by simp))
  have cB2 : ∀ (b : Nat) (u : World), Blk u b #[.int .i64 li, .int .i64 pr, .int .i64 0, .int .i64 0] 3 → Calls Try.prog 49 #[.slice (some ⟨b, 0, none⟩) 4 4] u fun e w' => e = .returned (.string ⟨([li, pr, 0, 0].map refb.b8).toArray⟩) ∧ Below u.heap.size u w' := fun b u B =>
    bytes_any u b 0 4 [li, pr, 0, 0] B.lt (by simp) (cell_row B _ (by simp))
  have cW1 : ∀ u, Calls Try.prog 50 #[.int .i64 (20 + (o.size : Int) + d.size)] u fun e w' => e = .returned (.string ⟨#[hi8 (20 + o.size + d.size : Nat), lo8 (20 + o.size + d.size : Nat)]⟩) ∧ Below u.heap.size u w' := fun u =>
    word_ref (20 + o.size + d.size : Nat) u (by omega) (by omega)
  have cW2 := fun u => word_ref id u i0 i1
  have cW3 := fun u => word_ref (16384) u (by omega) (by omega)
  have cL1 := fun u => long_ref fr u hf0 hf1
  have cL2 := fun u => long_ref tt u ht0 ht1
  have cWk := fun u => word_ref (Pk.mk tos id true false 0 li pr fr tt o d).ck u hck.1 hck.2
  have zo : o.size = o.size := rfl
  obtain ⟨V1, h1⟩ : ∃ V, V = (⟨([69 + ((o.size / 4 : Nat) : Int), tos].map refb.b8).toArray⟩ : ByteArray) := ⟨_, rfl⟩
  obtain ⟨V2, h2⟩ : ∃ V, V = (⟨#[hi8 (20 + o.size + d.size : Nat), lo8 (20 + o.size + d.size : Nat)]⟩ : ByteArray) := ⟨_, rfl⟩
  obtain ⟨V3, h3⟩ : ∃ V, V = (⟨#[hi8 id, lo8 id]⟩ : ByteArray) := ⟨_, rfl⟩
  obtain ⟨V4, h4⟩ : ∃ V, V = (⟨#[hi8 (16384), lo8 (16384)]⟩ : ByteArray) := ⟨_, rfl⟩
  obtain ⟨V5, h5⟩ : ∃ V, V = (⟨([li, pr, 0, 0].map refb.b8).toArray⟩ : ByteArray) := ⟨_, rfl⟩
  obtain ⟨V6, h6⟩ : ∃ V, V = (⟨(adr fr).toArray⟩ : ByteArray) := ⟨_, rfl⟩
  obtain ⟨V7, h7⟩ : ∃ V, V = (⟨(adr tt).toArray⟩ : ByteArray) := ⟨_, rfl⟩
  rw [← h1] at cB1 hJ
  rw [← h2] at cW1 hJ
  rw [← h3] at cW2 hJ
  rw [← h4] at cW3 hJ
  rw [← h5] at cB2 hJ
  rw [← h6] at cL1 hJ
  rw [← h7] at cL2 hJ
  have z1 : V1.size = 2 := by rw [h1]; rfl
  have z2 : V2.size = 2 := by rw [h2]; rfl
  have z3 : V3.size = 2 := by rw [h3]; rfl
  have z4 : V4.size = 2 := by rw [h4]; rfl
  have z5 : V5.size = 4 := by rw [h5]; rfl
  have z6 : V6.size = 4 := by rw [h6]; rfl
  have z7 : V7.size = 4 := by rw [h7]; rfl
  clear h1 h2 h3 h4 h5 h6 h7 hpp p hp ha efl zo
  obtain ⟨P, hP⟩ : ∃ P : Pk, P = ⟨tos, id, true, false, 0, li, pr, fr, tt, o, d⟩ := ⟨_, rfl⟩
  rw [← hP] at hE hck cWk hJ
  have HH : Hid (∀ H : ByteArray, H.data.toList = P.h1 ++ (0 :: 0 :: P.h2) → (((H.extract 0 10 ++ ⟨#[hi8 P.ck, lo8 P.ck]⟩) ++ H.extract 12 H.size) ++ d) = ⟨X.toArray⟩) := hE
  have HJ : Hid ((((((((V1 ++ V2) ++ V3) ++ V4) ++ V5) ++ V6) ++ V7) ++ o).data.toList = P.h1 ++ (0 :: 0 :: P.h2)) := hJ
  have HC : Hid (P.ck = 65535 - wsum 0 (P.h1 ++ (0 :: 0 :: P.h2))) := (rfl : _ = _)
  clear hE hJ
  obtain ⟨ck, hckk⟩ : ∃ ck, ck = P.ck := ⟨_, rfl⟩
  rw [← hckk] at HH HC hck cWk
  clear hckk hP
  obtain ⟨VK, hk⟩ : ∃ V, V = (⟨#[hi8 ck, lo8 ck]⟩ : ByteArray) := ⟨_, rfl⟩
  rw [← hk] at HH cWk
  have zk : VK.size = 2 := by rw [hk]; rfl
  clear hk
  have K0 : KP w ⟨tos, id, true, false, 0, li, pr, fr, tt, o, d⟩ (w.alloc (.cells (Pk.cells ⟨tos, id, true, false, 0, li, pr, fr, tt, o, d⟩) 24)) := ⟨Blk.new _ _ _, (Below.refl _ _).alloc (Nat.le_refl _) _⟩
  go_enter Try.func22, Try.ntmps22
  go_wp2_with fail
  refine (between_any tos 0 255 _).mono ?_
  rintro e w1 ⟨rfl, rfl⟩
  rw [decide_eq_true (And.intro t0 t1)]
  go_wp2_with fail
  refine (between_any li 0 255 _).mono ?_
  rintro e w1 ⟨rfl, rfl⟩
  rw [decide_eq_true (And.intro l0 l1)]
  go_wp2_with fail
  refine (between_any pr 0 255 _).mono ?_
  rintro e w1 ⟨rfl, rfl⟩
  rw [decide_eq_true (And.intro p0 p1)]
  go_wp2_with fail
  refine (between_any id 0 65535 _).mono ?_
  rintro e w1 ⟨rfl, rfl⟩
  rw [decide_eq_true (And.intro i0 i1)]
  go_wp2_with fail
  refine (between_any _ 0 8191 _).mono ?_
  rintro e w1 ⟨rfl, rfl⟩
  rw [decide_eq_true (by omega)]
  have L : 20 + (o.size : Int) + d.size ≤ 65535 := by omega
  go_upto_region 13 with fail
  have ne : Nonempty (spc.In (KP w ⟨tos, id, true, false, 0, li, pr, fr, tt, o, d⟩)) := ⟨⟨_, K0⟩⟩
  have cm : ∀ (x : spc.In (KP w ⟨tos, id, true, false, 0, li, pr, fr, tt, o, d⟩)) k, x.W.cell? ⟨w.heap.size, k, none⟩ = (Pk.cells ⟨tos, id, true, false, 0, li, pr, fr, tt, o, d⟩)[k]? := fun x => x.h.m.cell
  have q4 : (o.size : Int).tdiv 4 = (o.size : Int) / 4 := Int.tdiv_eq_ediv_of_nonneg (by omega)
  refine' spc.wp_region_told_in [(5, undef), (6, .string V1), (13, .string V2), (17, .string V3), (20, .string V4), (26, undef), (27, .string V5), (31, .string V6), (35, .string V7)] [(5, 74), (26, 95)]
    (fun k v W => (k = 5 → sp v #[.int .i64 (69 + (o.size : Int) / 4), .int .i64 tos] 2 W) ∧ (k = 26 → sp v #[.int .i64 li, .int .i64 pr, .int .i64 0, .int .i64 0] 4 W)) (KP w ⟨tos, id, true, false, 0, li, pr, fr, tt, o, d⟩) (fun W W' => Below W.heap.size W W') (by kernel_rfl) (by kernel_rfl) (KP.drew K0)
    (fun k v W W' hb h => ⟨fun hk => (let ⟨b, e, B⟩ := h.1 hk; ⟨b, e, B.below hb B.lt⟩), fun hk => (let ⟨b, e, B⟩ := h.2 hk; ⟨b, e, B.below hb B.lt⟩)⟩) (by simp only [spc.rep, List.lookup, Nat.zero_add, Nat.reduceAdd, Nat.reduceBEq]; exact rfl) ?_
  repeat (go_big_quiet_step (fail))
  refine wpQuiet_nil ⟨?_, ?_⟩
  · simp only [List.forall_mem_cons, List.not_mem_nil, false_imp_iff, implies_true, and_true]
    refine ⟨?_, ?_, ?_, ?_, ?_, ?_, ?_, ?_, ?_⟩
    · rintro _ ⟨⟩ x w2 hC - -
      refine told.build2 _ _ (69 + (o.size : Int) / 4) tos rfl rfl rfl ⟨KP.call hC ((Below.refl _ _).alloc (Nat.le_refl _) _), (Below.refl _ _).alloc (Nat.le_refl _) _, ?_⟩
      rw [if_pos (by decide)]
      exact ⟨fun _ => ⟨_, rfl, Blk.new _ _ _⟩, fun h => absurd h (by decide)⟩
    · rintro _ ⟨⟩ x w2 hC hS -
      obtain ⟨b, e, B⟩ := (hS (5, 74) (by simp) (by simp [Oper.looksAt, Op.operands, Call.operands])).1 rfl
      exact told.call1 49 _ _ (.slice (some ⟨b, 0, none⟩) 2 2) rfl (by intro args w; simp [go_sem]) e ((cB1 b _ B).mono fun e w3 ⟨he, hb⟩ => ⟨_, he, KP.call hC hb, hb, rfl⟩)
    · rintro _ ⟨⟩ x w2 hC - -
      exact told.call1 50 _ _ _ rfl (by intro args w; simp [go_sem]) rfl ((cW1 _).mono fun e w3 ⟨he, hb⟩ => ⟨_, he, KP.call hC hb, hb, rfl⟩)
    · rintro _ ⟨⟩ x w2 hC - -
      exact told.call1 50 _ _ _ rfl (by intro args w; simp [go_sem]) rfl ((cW2 _).mono fun e w3 ⟨he, hb⟩ => ⟨_, he, KP.call hC hb, hb, rfl⟩)
    · rintro _ ⟨⟩ x w2 hC - -
      exact told.call1 50 _ _ _ rfl (by intro args w; simp [go_sem]) rfl ((cW3 _).mono fun e w3 ⟨he, hb⟩ => ⟨_, he, KP.call hC hb, hb, rfl⟩)
    · rintro _ ⟨⟩ x w2 hC - -
      refine told.build4 _ _ _ _ li pr 0 0 rfl rfl rfl rfl rfl ⟨KP.call hC ((Below.refl _ _).alloc (Nat.le_refl _) _), (Below.refl _ _).alloc (Nat.le_refl _) _, ?_⟩
      rw [if_pos (by decide)]
      exact ⟨fun h => absurd h (by decide), fun _ => ⟨_, rfl, Blk.new _ _ _⟩⟩
    · rintro _ ⟨⟩ x w2 hC hS -
      obtain ⟨b, e, B⟩ := (hS (26, 95) (by simp) (by simp [Oper.looksAt, Op.operands, Call.operands])).2 rfl
      exact told.call1 49 _ _ (.slice (some ⟨b, 0, none⟩) 4 4) rfl (by intro args w; simp [go_sem]) e ((cB2 b _ B).mono fun e w3 ⟨he, hb⟩ => ⟨_, he, KP.call hC hb, hb, rfl⟩)
    · rintro _ ⟨⟩ x w2 hC - -
      exact told.call1 51 _ _ _ rfl (by intro args w; simp [go_sem]) rfl ((cL1 _).mono fun e w3 ⟨he, hb⟩ => ⟨_, he, KP.call hC hb, hb, rfl⟩)
    · rintro _ ⟨⟩ x w2 hC - -
      exact told.call1 51 _ _ _ rfl (by intro args w; simp [go_sem]) rfl ((cL2 _).mono fun e w3 ⟨he, hb⟩ => ⟨_, he, KP.call hC hb, hb, rfl⟩)
  intro x W hC hS
  clear hS cB1 cB2 cW1 cW2 cW3 cL1 cL2 ne cm K0
  simp only [spc.jn, Act.put, List.setIfInBounds_toArray, List.set_cons_succ, List.set_cons_zero]
  have zH : (V1 ++ V2 ++ V3 ++ V4 ++ V5 ++ V6 ++ V7 ++ o).size = 20 + o.size := by simp [ByteArray.size_append, z1, z2, z3, z4, z5, z6, z7]
  generalize V1 ++ V2 ++ V3 ++ V4 ++ V5 ++ V6 ++ V7 ++ o = H at HJ zH ⊢
  have cC : ∀ u, Calls Try.prog 52 #[.string H] u fun e w' => e = .returned (.int .i64 ck) ∧ w' = u := fun u => by
    have := sumr.check_any H u (by omega)
    rw [HJ.out, ← HC.out] at this
    exact this
  have HE := HH.out H HJ.out
  have HR : Hid (H.extract 0 10 ++ VK ++ H.extract 12 H.size ++ d = ⟨X.toArray⟩) := HE
  have zA : (H.extract 0 10).size = 10 := by rw [ByteArray.size_extract]; omega
  have zB : (H.extract 12 H.size).size = 8 + o.size := by rw [ByteArray.size_extract]; omega
  have g10 : (10 : Int) ≤ H.size := by omega
  have g12 : (12 : Int) ≤ H.size := by omega
  clear HE HH HJ HC
  clear zH
  go_upto_region 14 with fail
  have ne : Nonempty (cls.In (KP w ⟨tos, id, true, false, 0, li, pr, fr, tt, o, d⟩)) := ⟨⟨_, hC⟩⟩
  have cm : ∀ (x : cls.In (KP w ⟨tos, id, true, false, 0, li, pr, fr, tt, o, d⟩)) k, x.W.cell? ⟨w.heap.size, k, none⟩ = (Pk.cells ⟨tos, id, true, false, 0, li, pr, fr, tt, o, d⟩)[k]? := fun x => x.h.m.cell
  refine cls.wp_region_class (KP w ⟨tos, id, true, false, 0, li, pr, fr, tt, o, d⟩) (by kernel_rfl) (by kernel_rfl) (KP.drew hC) ?_
  repeat (go_big_quiet_step (first
    | (go_at_call 52; exact cls.call_class (cC _) fun _ hb => hb ▸ cls.In.h _)
    | (go_at_call 50; exact cls.call_class (cWk _) fun _ hb => KP.call (cls.In.h _) hb)))
  refine wpQuiet_nil ?_
  intro _ hx
  obtain ⟨y, rfl⟩ := hx
  go_wp2_with fail
  go_ret2
  exact ⟨ret_text HR.out rfl, y.h.bel⟩
theorem pt_any (p : Pk) (w : World) (h : 20 + p.o.size + p.d.size ≤ 9223372036854775807) (ha : p.Adr) :
    Calls Try.prog 22 #[.agg p.cells] w fun e w' => e = .returned (.tuple #[.string p.out, .int .i64 p.err]) ∧ Below w.heap.size w w' := by
  by_cases he : p.err = 0
  · have hp := Pk.ok he
    have eo : p.out = ⟨p.txt.toArray⟩ := by unfold Pk.out; rw [if_pos he]
    rw [eo, he]
    have hf := hp.form
    obtain ⟨tos, id, wh, mo, st, li, pr, fr, tt, o, d⟩ := p
    cases wh
    · cases mo
      · exact pt_ok0 tos id st li pr fr tt o d w hp ha
      · exact pt_ok1 tos id st li pr fr tt o d w hp ha
    · obtain ⟨h1, h2⟩ := hf rfl
      simp only at h1 h2
      subst h1 h2
      exact pt_ok2 tos id li pr fr tt o d w hp ha
  · have eo : p.out = ⟨#[]⟩ := by unfold Pk.out; rw [if_neg he]
    rw [eo]
    exact pt_bad p w h he
end Go.Proofs.Ytlbpapngcgnepaa.ipt
