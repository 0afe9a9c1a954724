/- custref.TrieFind: the reference finds what the program's Find finds. -/
import Derived.Test.YtiddpkppfpdfhaaPrRight
import Derived.Test.YtiddpkppfpdfhaaPfAny0
namespace Go.Proofs.Ytiddpkppfpdfhaa.pf
open Go.ChangeShapes Go.WideShapes Go.ChangeAt Go.RowKit Go.BigFrame
open Go.Proofs.Ytiddpkppfpdfhaa Go.Proofs.Ytiddpkppfpdfhaa.pm Go.Proofs.Ytiddpkppfpdfhaa.boxes Go.Proofs.Ytiddpkppfpdfhaa.rwr Go.Proofs.Ytiddpkppfpdfhaa.rwat
open Go.Proofs.Ytiddpkppfpdfhaa.rws (Knd Own)

theorem enl_pre (p s : Pth) : Lib.hasPrefix (enl s) (enl p) = decide (s.take p.length = p) := by
  unfold Lib.hasPrefix
  rw [Bool.eq_iff_iff, List.isPrefixOf_iff_prefix, decide_eq_true_eq]
  constructor
  · intro h
    have e := List.prefix_iff_eq_take.1 h
    have hl : (enl p).length = p.length := by simp [enl]
    rw [hl] at e
    refine enl_inj ?_
    rw [e]
    simp [enl, List.map_take]
  · intro h
    rw [← h]
    have : enl (s.take p.length) = (enl s).take p.length := by simp [enl, List.map_take]
    rw [this]
    exact List.take_prefix _ _
theorem pre_any (c : Nat) (p : Pth) (hp : p.length ≤ 32) (W : World) :
    Calls Try.prog 42 #[.string (en (bts 32 c 32)), .string (en p)] W fun e w' => e = .returned (.bool (decide (bts 32 c p.length = p))) ∧ w' = W := by
  have h := Try.strings_HasPrefix (en (bts 32 c 32)) (en p) W
  rw [en_data, en_data, enl_pre, bts_take 32 p.length 32 c hp (Nat.le_refl _)] at h
  exact h
/-- the best so far: is there one, its bits, its value -/
def bst (b : Option Rw) (ok : Bool) (q : Pth) (u : Int) : Prop := match b with | none => ok = false ∧ q = [] ∧ u = 0 | some x => ok = true ∧ q = x.1 ∧ u = x.2
theorem bst_next {t : T} (hf : Fine t) {c i : Nat} {x : Rw} (hx : (rows t)[i]? = some x) {ok : Bool} {q : Pth} {u : Int} (hb : bst (fnd c ((rows t).take i)) ok q u) :
    (bts 32 c x.1.length = x.1 → bst (fnd c ((rows t).take (i + 1))) true x.1 x.2 ∧ (ok = true → q.length < x.1.length)) ∧ (¬ bts 32 c x.1.length = x.1 → bst (fnd c ((rows t).take (i + 1))) ok q u) := by
  rw [take_succ _ i x hx, fnd_snoc]
  refine ⟨fun h => ?_, fun h => by rw [if_neg h]; exact hb⟩
  rw [if_pos h]
  refine ⟨⟨rfl, rfl, rfl⟩, fun ho => ?_⟩
  cases e : fnd c ((rows t).take i) with
  | none => rw [e] at hb; rw [hb.1] at ho; cases ho
  | some y =>
    rw [e] at hb
    obtain ⟨j, hj, hyt⟩ := (fnd_spec ((rows t).take i)).2 y e
    have hji : j < i := by
      have := (List.getElem?_eq_some_iff.1 hj).1
      rw [List.length_take] at this
      omega
    rw [List.getElem?_take_of_lt hji] at hj
    rw [hb.2.1]
    exact longer hf hji hj hx hyt h
theorem bst_end {b : Option Rw} {ok : Bool} {q : Pth} {u : Int} (h : bst b ok q u) : (ok = false → fA b = 0 ∧ fL b = 0 ∧ fV b = 0 ∧ fE b = 7) ∧ (ok = true → fA b = ad 32 q ∧ fL b = (q.length : Int) ∧ fV b = u ∧ fE b = 0) := by
  cases b with
  | none => exact ⟨fun _ => ⟨rfl, rfl, rfl, rfl⟩, fun e => by rw [h.1] at e; cases e⟩
  | some x => exact ⟨fun e => absurd (h.1.symm.trans e) (by decide), fun _ => ⟨by rw [h.2.1]; rfl, by rw [h.2.1]; rfl, by rw [h.2.2]; rfl, rfl⟩⟩
set_option maxHeartbeats 4000000 in
set_option maxRecDepth 20000 in
theorem trf_no (v : Value) (ns : List Nd) (c : Nat) (w : World) (h : Rd DK w v ns) (hc : ¬ chk ns 2 4 = 0) :
    Calls Try.prog 17 #[.agg (TC v), .int .u32 (c : Int)] w fun e w' => e = .returned (.tuple #[.agg ZN, .int .i64 0, .int .i64 (chk ns 2 4)]) ∧ Below w.heap.size w w' := by
  have b0 := ((Below.refl w.heap.size w).alloc (Nat.le_refl _) (.cells (TC v) 24)).alloc (by simp) (.cells ZN 27)
  have G0 := (Blk.new w (TC v) 24).alloc (.cells ZN 27)
  have G3 := Blk.newAt (w.alloc (.cells (TC v) 24)) ZN 27 (b := w.heap.size + 1) (by simp)
  obtain ⟨V, HV⟩ : ∃ V, Hid ((w.alloc (.cells (TC v) 24)).alloc (.cells ZN 27) = V) := ⟨_, rfl⟩
  rw [HV.out] at b0 G0 G3
  have CC := right_any v ns V (h.below b0)
  have c0 := G0.cell
  obtain ⟨sa, sc, rfl⟩ := h.form
  clear h
  have hc' : (chk ns 2 4 != 0) = true := by simpa using hc
  clear hc
  generalize chk ns 2 4 = q at *
  generalize ns.length = n at *
  go_enter Try.func17, Try.ntmps17
  go_upto_region 1 with fail
  rw [HV.out]
  go_wp2_with fail
  refine CC.mono ?_
  rintro e W3 ⟨rfl, z2⟩
  have b3 := b0.trans (z2.mono b0.size)
  have J3 := G3.below z2 G3.lt
  clear CC c0 G0 G3 b0 z2
  go_wp2_with (refine blk_store _ rfl 27 _ _ rfl (w.heap.size + 1) ZN rfl rfl _ _ J3 2 nt_info rfl rfl (nt_one ⟨0, 0⟩) ?_; intro W4 K4 p4)
  exact blk_ret3 rfl rfl (w.heap.size + 1) ZN 27 rfl K4 _ Try.underlying27 rfl 2 nt_info rfl ⟨rfl, p4.below b3 (by omega)⟩
set_option maxHeartbeats 8000000 in
set_option maxRecDepth 20000 in
theorem trf_yes (v : Value) (t : T) (c : Nat) (w : World) (h : Rd DK w v (lay 0 t)) (hf : Fine t) (hcb : c < 4294967296) :
    Calls Try.prog 17 #[.agg (TC v), .int .u32 (c : Int)] w fun e w' => e = .returned (.tuple #[.agg (NC (fA (fnd c (rows t))) (fL (fnd c (rows t)))), .int .i64 (fV (fnd c (rows t))), .int .i64 (fE (fnd c (rows t)))]) ∧ Below w.heap.size w w' := by
  have HN : Hid (∀ i x ok q u, (rows t)[i]? = some x → bst (fnd c ((rows t).take i)) ok q u → x.1.length ≤ 32 ∧ (decide (bts 32 c x.1.length = x.1) = true → bst (fnd c ((rows t).take (i + 1))) true x.1 x.2 ∧ (ok = true → q.length < x.1.length)) ∧ (decide (bts 32 c x.1.length = x.1) = false → bst (fnd c ((rows t).take (i + 1))) ok q u)) := fun i x ok q u hx hb => by
    have := bst_next hf hx hb
    refine ⟨hf.len (List.mem_of_getElem? hx), fun e => this.1 (of_decide_eq_true e), fun e => this.2 (of_decide_eq_false e)⟩
  have H0 : Hid (bst (fnd c ((rows t).take 0)) false [] 0) := ⟨rfl, rfl, rfl⟩
  have HE : Hid (∀ ok q u, bst (fnd c ((rows t).take (rows t).length)) ok q u → (ok = false → fA (fnd c (rows t)) = 0 ∧ fL (fnd c (rows t)) = 0 ∧ fV (fnd c (rows t)) = 0 ∧ fE (fnd c (rows t)) = 7) ∧ (ok = true → fA (fnd c (rows t)) = ad 32 q ∧ fL (fnd c (rows t)) = (q.length : Int) ∧ fV (fnd c (rows t)) = u ∧ fE (fnd c (rows t)) = 0)) := fun ok q u hb => by
    rw [List.take_length] at hb
    exact bst_end hb
  have CB := fun W => bitsOf_any c 32 W (Nat.le_refl _) hcb
  have CH := fun p hp W => pre_any c p hp W
  have b0 := ((Below.refl w.heap.size w).alloc (Nat.le_refl _) (.cells (TC v) 24)).alloc (by simp) (.cells ZN 27)
  have G0 := (Blk.new w (TC v) 24).alloc (.cells ZN 27)
  have G3 := Blk.newAt (w.alloc (.cells (TC v) 24)) ZN 27 (b := w.heap.size + 1) (by simp)
  obtain ⟨V, HV⟩ : ∃ V, Hid ((w.alloc (.cells (TC v) 24)).alloc (.cells ZN 27) = V) := ⟨_, rfl⟩
  rw [HV.out] at b0 G0 G3
  have hV := h.below b0
  have CC := right_any v (lay 0 t) V hV
  rw [rt_chk hf.rt 2 4] at CC
  have CR := fun W (hW : Rd DK W v (lay 0 t)) => rows_any v (lay 0 t) W hW (by rw [lay_length]; exact hf.s)
  have HR := show Hid (∀ rs ok, (∀ t', Rt (lay 0 t) t' → ok = true ∧ rs = rows t') → ok = true ∧ rs = rows t) from fun rs ok hh => hh t hf.rt
  have c0 := G0.cell
  obtain ⟨sa, sc, rfl⟩ := h.form
  clear h hf hcb
  obtain ⟨g, hg⟩ : ∃ g, g = fun i => fnd c ((rows t).take i) := ⟨_, rfl⟩
  have hgi : ∀ i, fnd c ((rows t).take i) = g i := fun i => by rw [hg]
  simp only [hgi] at HN H0 HE
  clear hgi hg
  generalize fA (fnd c (rows t)) = rA at *
  generalize fL (fnd c (rows t)) = rL at *
  generalize fV (fnd c (rows t)) = rV at *
  generalize fE (fnd c (rows t)) = rE at *
  generalize rows t = rs at *
  generalize (lay 0 t).length = n at *
  generalize lay 0 t = L at *
  generalize en (bts 32 c 32) = X at *
  go_enter Try.func17, Try.ntmps17
  go_upto_region 1 with fail
  rw [HV.out]
  go_wp2_with fail
  refine CC.mono ?_
  rintro e W3 ⟨rfl, z2⟩
  have b3 := b0.trans (z2.mono b0.size)
  have J0 := G0.below z2 G0.lt
  have J3 := G3.below z2 G3.lt
  have CR := CR W3 (hV.below z2)
  clear CC c0 G0 G3 b0 z2 hV HV
  have c0 := J0.cell
  go_upto_region 4 with fail
  go_wp2_with fail
  refine CR.mono ?_
  rintro e W4 ⟨v4, rs4, ok4, rfl, O4, hlen, hrl, hrt, z⟩
  obtain ⟨rfl, hrs⟩ := HR.out rs4 ok4 hrt
  subst hrs
  replace b3 := b3.trans (z.mono b3.size)
  replace J3 := J3.below z J3.lt
  replace O4 := Own.rd O4
  clear CR HR hlen hrt z c0 J0
  obtain ⟨m, hm⟩ : ∃ m, m = rs4.length := ⟨_, rfl⟩
  have HM : Hid (m = rs4.length) := hm
  obtain ⟨sa4, sc4, e4⟩ := O4.form
  rw [← hm] at e4 hrl HE
  subst e4
  have HG : Hid (∀ i, i < m → ∃ x, rs4[i]? = some x) := fun i hi => ⟨_, List.getElem?_eq_getElem (by omega)⟩
  clear hm
  have dA := (Below.refl W4.heap.size W4).alloc (Nat.le_refl _) (.cells ZR 45)
  go_upto_region 6 with (refine blk_store _ rfl 45 _ _ rfl W4.heap.size ZR rfl rfl _ _ (Blk.new W4 ZR 45) 2 rw_info rfl rfl (rw_one ([], 0)) ?_; intro W5 N5 p5)
  have zz := p5.below dA (Nat.le_refl _)
  have hwb : w.heap.size + 1 < W4.heap.size := J3.lt
  obtain ⟨bb, hbb⟩ : ∃ bb, bb = W4.heap.size := ⟨_, rfl⟩
  rw [← hbb] at N5 zz hwb ⊢
  have OR : Hid (∀ W, Below bb W4 W → Rd RK W (.slice sa4 m sc4) rs4) := fun W hb => O4.below (by rw [← hbb]; exact hb)
  clear dA p5 O4 hbb
  go_wp2_with fail
  go_loopw [11, 28] (fun s11 s28 wr => ∃ (i : Nat) (ok : Bool) (q : Pth) (u : Int), s11 = .bool ok ∧ s28 = .int .i64 (i : Int) ∧ i ≤ m ∧ q.length ≤ 32 ∧ Hid (bst (g i) ok q u) ∧ Blk wr bb #[.string (en q), .int .i64 u] 45 ∧ Below bb W4 wr) (fun _ s _ => m - (intOf s).toNat)
  case atStart => exact ⟨0, false, [], 0, rfl, rfl, Nat.zero_le _, Nat.zero_le _, H0, N5, zz⟩
  case round =>
    clear N5 H0 zz
    obtain ⟨i, ok, q, u, rfl, rfl, hi, hq, HB, NB, bel⟩ := hrel
    by_cases hlt : i < m
    · have hlt' : (i : Int) < (m : Int) := by omega
      have q1 := OR.out wr bel
      obtain ⟨x, hx⟩ := HG.out i hlt
      obtain ⟨b1, o1, e1, hb1, _⟩ := rd_spot q1 (by have := HM.out; omega)
      subst e1
      obtain ⟨hb1, cx0, cx1⟩ := row_at q1 hx
      obtain ⟨hxl, hyes, hno⟩ := HN.out i x ok q u hx HB.out
      have CHx := CH x.1 hxl
      have Hyes := show Hid _ from hyes
      have Hno := show Hid _ from hno
      have dB := (Below.refl wr.heap.size wr).alloc (Nat.le_refl _) (.cells ZR 45)
      clear hyes hno HN HE CH HB hx HM HG b3 J3
      go_upto_region 10 with (refine blk_store _ rfl 45 _ _ rfl wr.heap.size (rwc x) rfl rfl _ _ (Blk.new wr ZR 45) 2 rw_info rfl rfl (rw_one x) ?_; intro W6 N6 p6)
      have zz := p6.below dB (Nat.le_refl _)
      have NB6 := NB.below zz NB.lt
      have hbw : bb < wr.heap.size := NB.lt
      have bel6 := bel.trans (zz.mono (Nat.le_of_lt hbw))
      generalize hbx : wr.heap.size = bx at *
      clear dB p6 zz cx0 cx1 hb1 q1 NB hbx bel
      generalize decide (bts 32 c x.1.length = x.1) = hp at *
      obtain ⟨p, y⟩ := x
      have N6' : Blk W6 bx #[.string (en p), .int .i64 y] 45 := N6
      clear N6
      have hps : ((en p).size : Int) = (p.length : Int) := by rw [en_size]
      have hqs : ((en q).size : Int) = (q.length : Int) := by rw [en_size]
      simp only at Hyes Hno CHx hxl
      have HRD : Hid (hp = true → ok = true → q.length < p.length) := fun h1 h2 => (Hyes.out h1).2 h2
      have nn := ab.ne W6
      have cx := ab.cells N6'
      have cb := ab.cells NB6
      dsimp only [Act.put]
      cases hp with
      | false =>
        clear HRD Hyes
        go_cut [49] (fun s49 wx => s49 = .bool false ∧ Below W6.heap.size W6 wx)
        case first =>
          refine ab.region (by kernel_rfl) (by kernel_rfl) ?_
          repeat (go_big_quiet_step (first | (go_at_call 32; exact ab.call_same (CB _)) | (go_at_call 42; exact ab.call_same (CHx _))))
          refine wpQuiet_nil ?_
          intro _ hx
          obtain ⟨z, rfl⟩ := hx
          go_wp2_with fail
          go_meet
          case rel => exact ⟨rfl, z.h⟩
        case rest =>
          obtain ⟨rfl, z⟩ := hcut
          have NB7 := NB6.below z NB6.lt
          have bel7 := bel6.trans (z.mono (by have := NB6.lt; omega))
          have R7 := Hno.out rfl
          clear NB6 bel6 z Hno N6' cx cb nn CHx CB
          go_wp2_with fail
          go_roundw
          case rel => exact ⟨i + 1, ok, q, u, rfl, by go_num, by omega, hq, R7, NB7, bel7⟩
          case measure => simp [intOf]; omega
      | true =>
        go_cut [49] (fun s49 wx => s49 = .bool true ∧ Below W6.heap.size W6 wx)
        case first =>
          have hqp : ok = true → (q.length : Int) < (p.length : Int) := fun h => by have := HRD.out rfl h; omega
          clear HRD Hyes Hno NB6 bel6 N6' OR
          cases ok with
          | false =>
            clear hqp
            refine ab.region (by kernel_rfl) (by kernel_rfl) ?_
            repeat (go_big_quiet_step (first | (go_at_call 32; exact ab.call_same (CB _)) | (go_at_call 42; exact ab.call_same (CHx _))))
            refine wpQuiet_nil ?_
            intro _ hx
            obtain ⟨z, rfl⟩ := hx
            go_wp2_with fail
            go_meet
            case rel => exact ⟨rfl, z.h⟩
          | true =>
            replace hqp := hqp rfl
            refine ab.region (by kernel_rfl) (by kernel_rfl) ?_
            repeat (go_big_quiet_step (first | (go_at_call 32; exact ab.call_same (CB _)) | (go_at_call 42; exact ab.call_same (CHx _))))
            refine wpQuiet_nil ?_
            intro _ hx
            obtain ⟨z, rfl⟩ := hx
            go_wp2_with fail
            go_meet
            case rel => exact ⟨rfl, z.h⟩
        case rest =>
          obtain ⟨rfl, z⟩ := hcut
          have NB7 := NB6.below z NB6.lt
          have N7 := N6'.below z N6'.lt
          have bel7 := bel6.trans (z.mono (by have := NB6.lt; omega))
          have R7 : Hid (bst (g (i + 1)) true p y) := (Hyes.out rfl).1
          clear NB6 bel6 z Hno N6' cx cb nn CHx CB Hyes HRD
          have cN7 := N7.cell
          go_wp2_with (refine blk_store _ rfl 45 _ _ rfl bb (rwc (p, y)) rfl rfl _ _ NB7 2 rw_info rfl rfl (rw_one (p, y)) ?_; intro W8 N8 p8)
          have bel8 := p8.below bel7 (Nat.le_refl _)
          go_roundw
          case rel => exact ⟨i + 1, true, p, y, rfl, by go_num, by omega, hxl, R7, N8, bel8⟩
          case measure => simp [intOf]; omega
    · obtain rfl : i = m := by omega
      have hE := HE.out ok q u HB.out
      have J6 := J3.below bel hwb
      have b6 := b3.trans (bel.mono (by omega))
      have hwr : w.heap.size + 1 < wr.heap.size := J6.lt
      have CN := fun W => netOf_any q W hq
      have nb1 : bb ≠ w.heap.size + 1 := by omega
      have nb2 : w.heap.size + 1 ≠ bb := by omega
      clear HE HB J3 b3 HN CB CH HM HG OR bel
      cases ok with
      | false =>
        obtain ⟨rfl, rfl, rfl, rfl⟩ := hE.1 rfl
        clear hE CN NB
        go_wp2_with (refine blk_store _ rfl 27 _ _ rfl (w.heap.size + 1) ZN rfl rfl _ _ J6 2 nt_info rfl rfl (nt_one ⟨0, 0⟩) ?_; intro W7 K7 p7)
        exact blk_ret3 rfl rfl (w.heap.size + 1) ZN 27 rfl K7 _ Try.underlying27 rfl 2 nt_info rfl ⟨rfl, p7.below b6 (by omega)⟩
      | true =>
        obtain ⟨e1, e2, e3, e4⟩ := hE.2 rfl
        rw [← e1, ← e2] at CN
        subst e3
        subst e4
        clear hE e1 e2 hq
        generalize en q = X at *
        have cb := NB.cell
        have cr := J6.cell
        have fr := J6.free
        go_upto_region 15 with fail
        go_region_with (go_at_call 20; refine (CN _).mono ?_; rintro e W7 ⟨rfl, z7⟩; have J7 := (Blk.drew J6).below z7 J6.lt; have cr7 := J7.cell; have fr7 := J7.free; have cb7 := ((Blk.drew NB).below z7 NB.lt).cell)
        all_goals
          have K8 : Blk ((W7.setCell ⟨w.heap.size + 1, 0, none⟩ (.int .u32 (rA : Int))).setCell ⟨w.heap.size + 1, 1, none⟩ (.int .i64 rL)) (w.heap.size + 1) (NC rA rL) 27 := (J7.setCell 0 (.int .u32 (rA : Int))).setCell 1 (.int .i64 rL)
          have d8 : Below w.heap.size w ((W7.setCell ⟨w.heap.size + 1, 0, none⟩ (.int .u32 (rA : Int))).setCell ⟨w.heap.size + 1, 1, none⟩ (.int .i64 rL)) := (but_setCell _ _ _ _).below ((but_setCell _ _ _ _).below (b6.trans (((Below.refl _ _).drew.trans z7).mono (by show _ ≤ wr.heap.size; omega))) (by omega)) (by omega)
          go_wp2_with fail
          exact blk_ret3 rfl rfl (w.heap.size + 1) (NC rA rL) 27 rfl K8 _ Try.underlying27 rfl 2 nt_info rfl ⟨rfl, d8⟩
theorem trfind_any (v : Value) (ns : List Nd) (c : Nat) (w : World) (h : Rd DK w v ns) (hcb : c < 4294967296) :
    Calls Try.prog 17 #[.agg (TC v), .int .u32 (c : Int)] w fun e w' => e = .returned (.tuple #[.agg (NC (fA (findR ns c)) (fL (findR ns c))), .int .i64 (fV (findR ns c)), .int .i64 (findE ns c)]) ∧ Below w.heap.size w w' := by
  by_cases hc : chk ns 2 4 = 0
  · have hr := chk0 hc
    have hR : findR ns c = fnd c (rows (tree ns)) := by unfold findR; rw [if_neg (by rw [hc]; decide)]
    have hE : findE ns c = fE (fnd c (rows (tree ns))) := by
      unfold findE; rw [if_neg (by rw [hc]; decide), hR]
      cases fnd c (rows (tree ns)) <;> rfl
    rw [hR, hE]
    exact trf_yes v (tree ns) c w (by rw [← hr.2.2.1]; exact h) hr.fine hcb
  · have hR : findR ns c = none := by unfold findR; rw [if_pos hc]
    have hE : findE ns c = chk ns 2 4 := by unfold findE; rw [if_pos hc]
    rw [hR, hE]
    exact trf_no v ns c w h hc
end Go.Proofs.Ytiddpkppfpdfhaa.pf
