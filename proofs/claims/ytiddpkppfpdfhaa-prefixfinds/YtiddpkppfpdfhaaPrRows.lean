/- custref.TrieRows: what a trie seems to hold. -/
import Derived.Test.YtiddpkppfpdfhaaPrDfs
import Derived.Test.YtiddpkppfpdfhaaPrOf
namespace Go.Proofs.Ytiddpkppfpdfhaa.pf
open Go.ChangeShapes Go.WideShapes Go.ChangeAt Go.RowKit Go.BigFrame
open Go.Proofs.Ytiddpkppfpdfhaa Go.Proofs.Ytiddpkppfpdfhaa.pm Go.Proofs.Ytiddpkppfpdfhaa.boxes Go.Proofs.Ytiddpkppfpdfhaa.rwr Go.Proofs.Ytiddpkppfpdfhaa.rwat
open Go.Proofs.Ytiddpkppfpdfhaa.rws (Knd Own)

abbrev ZV : Array Value := #[.int .i64 0, .string ⟨#[]⟩]
theorem vs_info : (Try.prog.info? 73).map (·.size) = some 2 := by kernel_rfl
theorem nd_at {w : World} {b off n sc : Nat} {l : List Nd} (h : Rd DK w (.slice (some ⟨b, off, none⟩) n sc) l) {i : Nat} {x : Nd} (hi : l[i]? = some x) :
    b < w.heap.size ∧ w.cell? ⟨b, off + i * 4, none⟩ = some (.int .i64 x.a) ∧ w.cell? ⟨b, off + i * 4 + 1, none⟩ = some (.int .i64 x.b) ∧ w.cell? ⟨b, off + i * 4 + 2, none⟩ = some (.bool x.s) ∧ w.cell? ⟨b, off + i * 4 + 3, none⟩ = some (.int .i64 x.v) := by
  obtain ⟨b', off', e, hb, hc⟩ := rd_spot h (by have := (List.getElem?_eq_some_iff.1 hi).1; omega)
  cases e
  exact ⟨hb, hc i _ hi 0 (by decide), hc i _ hi 1 (by decide), hc i _ hi 2 (by decide), hc i _ hi 3 (by decide)⟩
theorem vs_at {w : World} {B g n sc : Nat} {l : List (Nat × Pth)} (h : Own VK w B (.slice (some ⟨g, 0, none⟩) n sc) l) {i : Nat} {x : Nat × Pth} (hi : l[i]? = some x) :
    w.cell? ⟨g, i * 2, none⟩ = some (.int .i64 (x.1 : Int)) ∧ w.cell? ⟨g, i * 2 + 1, none⟩ = some (.string (en x.2)) := ⟨h.cell hi (i := 0) (by decide), h.cell hi (i := 1) (by decide)⟩
theorem rt_nil {t : T} (h : Rt [] t) : rows t = [] := by
  cases t with
  | nil => rfl
  | nd s l r => exact absurd h.2.2.1 (by simp [lay])
/-- what is known while a node is looked at -/
structure Lk (B bv bd o wz : Nat) (p : Pth) (N T : Array Value) (vo vt : Value) (out : List Rw) (td : List (Nat × Pth)) (V w : World) : Prop where
  ov : Own VK w B vt td
  oo : Own RK w B vo out
  fv : Blk w bv #[.int .i64 (o : Int), .string (en p)] 73
  fd : Blk w bd N 57
  ft : Blk w wz T 24
  nv : vt.ownBlock ≠ some bv
  nd : vt.ownBlock ≠ some bd
  nov : vo.ownBlock ≠ some bv
  nod : vo.ownBlock ≠ some bd
  bl : Below B V w
  hB : B ≤ V.heap.size
theorem Lk.push {B bv bd o wz : Nat} {p : Pth} {N T : Array Value} {vo vt v' : Value} {out : List Rw} {td td' : List (Nat × Pth)} {V w w' : World} (h : Lk B bv bd o wz p N T vo vt out td V w) (hz : wz < B) (k : Own VK w' B v' td') (g : Only vt v' w w') : Lk B bv bd o wz p N T vo v' out td' V w' := by
  have hk : RK.e ≠ VK.e := by unfold RK VK; decide
  have hn : ∀ b, b < w.heap.size → vt.ownBlock ≠ some b → v'.ownBlock ≠ some b := fun b hb h1 e => by
    rcases g.2 b e with e2 | e2
    · exact h1 e2
    · omega
  exact ⟨k, own_grown h.oo g.1 (kinds_ne h.oo h.ov hk), g.blk h.fv h.nv, g.blk h.fd h.nd, g.blk h.ft (own_ne h.ov hz), hn _ h.fv.lt h.nv, hn _ h.fd.lt h.nd, h.nov, h.nod, h.bl.trans (g.below (own_ge h.ov) (Nat.le_trans h.hB h.bl.size)), h.hB⟩
theorem Lk.below {B bv bd o wz : Nat} {p : Pth} {N T : Array Value} {vo vt : Value} {out : List Rw} {td : List (Nat × Pth)} {V w w' : World} (h : Lk B bv bd o wz p N T vo vt out td V w) (g : Below w.heap.size w w') : Lk B bv bd o wz p N T vo vt out td V w' :=
  ⟨h.ov.kept g, h.oo.kept g, h.fv.below g h.fv.lt, h.fd.below g h.fd.lt, h.ft.below g h.ft.lt, h.nv, h.nd, h.nov, h.nod, h.bl.trans (g.mono (Nat.le_trans h.hB h.bl.size)), h.hB⟩
def RowsOut (ns : List Nd) (w : World) (e : Ending) (w' : World) : Prop :=
  ∃ v' rs ok, e = .returned (.tuple #[v', .bool ok]) ∧ Own RK w' w.heap.size v' rs ∧ (∀ x ∈ rs, x.1.length ≤ 32) ∧ rs.length ≤ 501 ∧ (∀ t, Rt ns t → ok = true ∧ rs = rows t) ∧ Below w.heap.size w w'
theorem ro {ns : List Nd} {w : World} {e : Ending} {w' : World} (h : ∃ v' rs ok, e = .returned (.tuple #[v', .bool ok]) ∧ Own RK w' w.heap.size v' rs ∧ (∀ x ∈ rs, x.1.length ≤ 32) ∧ rs.length ≤ 501 ∧ (∀ t, Rt ns t → ok = true ∧ rs = rows t) ∧ Below w.heap.size w w') : RowsOut ns w e w' := h
set_option maxRecDepth 20000 in
set_option maxHeartbeats 8000000 in
theorem rows_any (v : Value) (ns : List Nd) (w : World) (hr : Rd DK w v ns) (hl : ns.length ≤ 500) :
    Calls Try.prog 19 #[.agg (TC v)] w fun e w' => RowsOut ns w e w' := by
  have b0 := (Below.refl w.heap.size w).alloc (Nat.le_refl _) (.cells (TC v) 24)
  have F0 := Blk.new w (TC v) 24
  replace hr := hr.below b0
  by_cases h0 : ns = []
  · subst h0
    obtain ⟨sa, sc, e_v⟩ := hr.form
    subst e_v
    have cF0 := F0.cell
    go_enter Try.func19, Try.ntmps19
    go_wp2_with fail
    go_ret2
    exact ro ⟨_, [], true, rfl, Own.nil _ _ _, by simp, by simp, fun t ht => ⟨rfl, (rt_nil ht).symm⟩, b0⟩
  · have HI0 : Hid (DfsI ns [(0, [])] [] 0) := dinv_start h0
    have hp0 : 0 < ns.length := List.length_pos_iff.2 h0
    obtain ⟨m, hm⟩ : ∃ m, m = ns.length := ⟨_, rfl⟩
    have HM : Hid (m = ns.length) := hm
    rw [← hm] at hl hp0
    obtain ⟨b1, o1, sc, e1, hb1⟩ : ∃ b off sc, v = .slice (some ⟨b, off, none⟩) m sc ∧ b < (w.alloc (.cells (TC v) 24)).heap.size := by
      obtain ⟨sa, sc, e_v⟩ := hr.form
      subst e_v
      obtain ⟨b, off, e, hb, _⟩ := rd_spot hr (by omega)
      subst e
      exact ⟨b, off, sc, by rw [hm], hb⟩
    subst e1
    have HG : Hid (∀ o, o < m → ∃ x, ns[o]? = some x) := fun o ho => ⟨_, List.getElem?_eq_getElem (by omega)⟩
    clear hm h0
    go_enter Try.func19, Try.ntmps19
    go_upto_region 1 with fail
    generalize hV : w.alloc (.cells (TC (.slice (some ⟨b1, o1, none⟩) m sc)) 24) = V at *
    clear hV
    have cF0 := F0.cell
    have hm0 : ((m : Int) == 0) = false := by simp; omega
    have OL : Own VK (V.alloc (.cells ZV 73)) V.heap.size (.slice (some ⟨V.heap.size, 0, none⟩) 1 1) [(0, [])] := Own.lit VK V V.heap.size (Nat.le_refl _) [(0, [])] (by simp [maxLen]) ZV rfl
    have dL := (Below.refl V.heap.size V).alloc (Nat.le_refl _) (.cells ZV 73)
    go_upto_region 5 with fail
    clear cF0
    generalize hV1 : V.alloc (.cells ZV 73) = V1 at *
    clear hV1
    go_wp2_with fail
    go_loopw [4, 5, 6] (fun s4 s5 s6 wr => ∃ (n : Nat) (out : List Rw) (todo : List (Nat × Pth)) (sb : Option Addr) (q sd : Nat), s6 = .int .i64 (n : Int) ∧ s5 = .slice sb q sd ∧ n ≤ m + 1 ∧ Hid (todo.length = q) ∧ Own RK wr V.heap.size s4 out ∧ Own VK wr V.heap.size (.slice sb q sd) todo ∧ Hid (DfsI ns todo out n) ∧ Below V.heap.size V wr) (fun _ _ s _ => m + 2 - (intOf s).toNat)
    case atStart => exact ⟨0, [], [(0, [])], _, 1, 1, rfl, rfl, by omega, rfl, Own.nil _ _ _, OL, HI0, dL⟩
    case round =>
      clear OL dL HI0
      obtain ⟨n, out, todo, sb, q, sd, rfl, rfl, hn, HQ, OO, OV, HI, bel⟩ := hrel
      have F1 := F0.below bel F0.lt
      have hr1 := hr.below bel
      have bb := b0.trans (bel.mono b0.size)
      have cF1 := F1.cell
      rcases List.eq_nil_or_concat todo with e | ⟨st, ⟨o, p⟩, e⟩
      · subst e
        have hq := HQ.out
        simp only [List.length_nil] at hq
        subst hq
        have hou := HI.out.ou
        have hol := HI.out.ol
        have HR : Hid (∀ t, Rt ns t → out = rows t) := fun t ht => dinv_end HI.out ht
        have hB := b0.size
        clear HI HQ HG HM hr hr1 OV
        go_wp2_with fail
        go_ret2
        exact ro ⟨_, out, true, rfl, OO.mono hB, hou, by omega, fun t ht => ⟨rfl, HR.out t ht⟩, bb⟩
      · rw [List.concat_eq_append] at e
        subst e
        obtain ⟨k, hk⟩ : ∃ k, k = st.length := ⟨_, rfl⟩
        have hq : q = k + 1 := by rw [← HQ.out, hk]; simp
        subst hq
        have HK : Hid (st.length = k) := hk.symm
        have hst : (st ++ [(o, p)])[k]? = some (o, p) := by rw [hk]; simp
        obtain ⟨g, cap, e2, hBg, hgl, hcap, _, _⟩ := OV.form (by simp)
        simp only [Value.slice.injEq] at e2
        obtain ⟨rfl, e3, rfl⟩ := e2
        clear e3
        rw [HQ.out] at hcap
        obtain ⟨cv0, cv1⟩ := vs_at OV hst
        have OS : Own VK wr V.heap.size (.slice (some ⟨g, 0, none⟩) k sd) st := by
          have := rwc.own_take OV k (by simp [hk])
          rwa [hk, List.take_left, ← hk] at this
        have hd := HI.out.td (o, p) (by simp)
        have htl := HI.out.tl
        have hol := HI.out.ol
        rw [HQ.out] at htl
        simp only at hd
        obtain ⟨x, hx⟩ := HG.out o (by have := HM.out; omega)
        obtain ⟨hb1', cx0, cx1, cx2, cx3⟩ := nd_at hr1 hx
        have HOK : Hid (∀ t, Rt ns t → n < m ∧ p.length ≤ 32 ∧ (0 ≤ x.a ∧ x.a ≤ (m : Int) - 1) ∧ (0 ≤ x.b ∧ x.b ≤ (m : Int) - 1)) := fun t ht => by
          obtain ⟨y1, y2, y3⟩ := dinv_ok HI.out ht
          rw [HM.out]
          exact ⟨y1, y2, y3 x hx⟩
        have hps : ((en p).size : Int) = (p.length : Int) := by rw [en_size]
        have hom : o < m := by have := HM.out; omega
        clear hk hst OV HQ HG hd
        have dA := (Below.refl wr.heap.size wr).alloc (Nat.le_refl _) (.cells ZV 73)
        go_upto_region 9 with (refine blk_store _ rfl 73 _ _ rfl wr.heap.size (vsc (o, p)) rfl rfl _ _ (Blk.new wr ZV 73) 2 vs_info rfl rfl (vs_one (o, p)) ?_; intro W5 N5 p5)
        have zz := p5.below dA (Nat.le_refl _)
        have N5' : Blk W5 wr.heap.size #[.int .i64 (o : Int), .string (en p)] 73 := N5
        have F5 := F1.below zz F1.lt
        have bb5 := bb.trans (zz.mono bb.size)
        have bel5 := bel.trans (zz.mono bel.size)
        have OS5 := OS.kept zz
        have OO5 := OO.kept zz
        have d0 := (zz.cell (p := ⟨b1, o1 + o * 4, none⟩) hb1').trans cx0
        have d1 := (zz.cell (p := ⟨b1, o1 + o * 4 + 1, none⟩) hb1').trans cx1
        have d2 := (zz.cell (p := ⟨b1, o1 + o * 4 + 2, none⟩) hb1').trans cx2
        have d3 := (zz.cell (p := ⟨b1, o1 + o * 4 + 3, none⟩) hb1').trans cx3
        have neS : ∀ b, wr.heap.size ≤ b → (Value.slice (some ⟨g, 0, none⟩) k sd).ownBlock ≠ some b := fun b hb e => by have := own_lt OS _ e; omega
        have neO : ∀ b, wr.heap.size ≤ b → u4.ownBlock ≠ some b := fun b hb e => by have := own_lt OO _ e; omega
        have hVw : V.heap.size ≤ wr.heap.size := bel.size
        clear dA p5 cx0 cx1 cx2 cx3 zz N5 OS OO cv0 cv1 F1 cF1 hr1 bb bel hb1'
        have cN := N5'.cell
        have cF := F5.cell
        by_cases hn2 : m < n
        · have hn2' : (m : Int) < (n : Int) := by omega
          go_wp2_with fail
          go_ret2
          exact ro ⟨_, [], false, rfl, Own.nil _ _ _, by simp, by simp, fun t ht => by have := (HOK.out t ht).1; omega, bb5⟩
        by_cases hp : 32 < p.length
        · have hn2' : ¬ (m : Int) < (n : Int) := by omega
          have hp' : (32 : Int) < (p.length : Int) := by omega
          go_wp2_with fail
          go_ret2
          exact ro ⟨_, [], false, rfl, Own.nil _ _ _, by simp, by simp, fun t ht => by have := (HOK.out t ht).2.1; omega, bb5⟩
        have hn2' : ¬ (m : Int) < (n : Int) := by omega
        have hp' : ¬ (32 : Int) < (p.length : Int) := by omega
        have HST : Hid (x.a ≤ (m : Int) - 1 → x.b ≤ (m : Int) - 1 → DfsI ns ((st ++ opt x.b (p ++ [true])) ++ opt x.a (p ++ [false])) (out ++ tell x p) (n + 1)) := fun h1 h2 => by
          rw [HM.out] at h1 h2
          exact dinv_step HI.out (by omega) hx h1 h2
        clear HI hx
        have dB := (Below.refl W5.heap.size W5).alloc (Nat.le_refl _) (.cells ZD 57)
        go_upto_region 13 with (refine blk_store _ rfl 57 _ _ rfl W5.heap.size (Nd.cells x) rfl rfl _ _ (Blk.new W5 ZD 57) 4 nd_info rfl rfl (nd_one x) ?_; intro W6 M6 p6)
        have zz := p6.below dB (Nat.le_refl _)
        have N6 := N5'.below zz N5'.lt
        have F6 := F5.below zz F5.lt
        have bel6 := bel5.trans (zz.mono bel5.size)
        have OS6 := OS5.kept zz
        have OO6 := OO5.kept zz
        have hbv := N5'.lt
        have hW5w : wr.heap.size < W5.heap.size := hbv
        have nv6 := neS wr.heap.size (Nat.le_refl _)
        have nd6 := neS W5.heap.size (Nat.le_of_lt hbv)
        have nov := neO wr.heap.size (Nat.le_refl _)
        have nod := neO W5.heap.size (Nat.le_of_lt hbv)
        have M6' : Blk W6 W5.heap.size (DC x.a x.b x.s x.v) 57 := M6
        clear dB p6 zz N5' F5 bel5 OS5 OO5 d0 d1 d2 d3 cN cF neS neO M6
        generalize hbv' : wr.heap.size = bv at *
        generalize hbd' : W5.heap.size = bd at *
        have cN := N6.cell
        have cM := M6'.cell
        have cF := F6.cell
        dsimp only [Act.put]
        have HTL : Hid (tell x p = if x.s = true then [(p, x.v)] else []) := rfl
        have hpl : (en p).size ≤ 32 := by omega
        generalize tell x p = tl at *
        generalize x.a = xa at *
        generalize x.b = xb at *
        generalize x.s = xs at *
        generalize x.v = xv at *
        have hwz : w.heap.size < V.heap.size := F0.lt
        have L6 : Lk V.heap.size bv bd o w.heap.size p (DC xa xb xs xv) (TC (.slice (some ⟨b1, o1, none⟩) m sc)) u4 (.slice (some ⟨g, 0, none⟩) k sd) out st V W6 := ⟨OS6, OO6, N6, M6', F6, nv6, nd6, nov, nod, bel6, Nat.le_refl _⟩
        clear OS6 OO6 N6 M6' F6 nv6 nd6 nov nod bel6
        go_upto_if 51 with fail
        go_cut [4] (fun s4 wx => Lk V.heap.size bv bd o w.heap.size p (DC xa xb xs xv) (TC (.slice (some ⟨b1, o1, none⟩) m sc)) s4 (.slice (some ⟨g, 0, none⟩) k sd) (out ++ tl) st V wx)
        case first =>
          clear HST HOK
          cases xs with
          | false =>
            have e : tl = [] := HTL.out
            subst e
            go_wp2_with fail
            go_meet
            case rel => rw [List.append_nil]; exact L6
          | true =>
            have e : tl = [(p, xv)] := HTL.out
            subst e
            have OO7 := L6.oo.alloc (.cells (rwc (p, xv)) 45)
            have Y7 := Blk.new W6 (rwc (p, xv)) 45
            have bW := (Below.refl W6.heap.size W6).alloc (Nat.le_refl _) (.cells (rwc (p, xv)) 45)
            have hB7 : V.heap.size ≤ (W6.alloc (.cells (rwc (p, xv)) 45)).heap.size := by have := L6.bl.size; simp; omega
            go_wp2_with (at_builtin; refine app_at RK _ rfl _ _ rfl V.heap.size _ out rfl OO7 W6.heap.size 1 (p, xv) 45 rfl Y7 (by omega) (by show (out.length + 1) * 24 ≤ _; omega) hB7 ?_)
            intro v8 W8 O8 g8 x8
            have o8 := (Only.of_below (v := u4) bW).trans (Only.of_app g8 (x8.imp id fun e => by rw [e]; simp))
            have L8 : Lk V.heap.size bv bd o w.heap.size p (DC xa xb true xv) (TC (.slice (some ⟨b1, o1, none⟩) m sc)) v8 (.slice (some ⟨g, 0, none⟩) k sd) (out ++ [(p, xv)]) st V W8 := by
              have hk : VK.e ≠ RK.e := by unfold RK VK; decide
              have hn : ∀ b, b < W6.heap.size → u4.ownBlock ≠ some b → v8.ownBlock ≠ some b := fun b hb h1 e => by
                rcases o8.2 b e with e2 | e2
                · exact h1 e2
                · omega
              exact ⟨own_grown L6.ov o8.1 (kinds_ne L6.ov L6.oo hk), O8, o8.blk L6.fv L6.nov, o8.blk L6.fd L6.nod, o8.blk L6.ft (own_ne L6.oo hwz), L6.nv, L6.nd, hn _ L6.fv.lt L6.nov, hn _ L6.fd.lt L6.nod, L6.bl.trans (o8.below (own_ge L6.oo) L6.bl.size), Nat.le_refl _⟩
            clear OO7 Y7 bW hB7 O8 g8 x8 o8 L6 cN cM cF
            go_wp2_with fail
            go_meet
            case rel => exact L8
        case rest =>
          clear L6 cN cM cF HTL
          have L9 := hcut
          clear hcut
          have hol2 := hol
          generalize out ++ tl = out2 at *
          clear tl
          go_wp2_with fail
          go_loopw [5, 9] (fun s5 s9 wr => ∃ vs, s5 = vs ∧ ((s9 = .int .i64 1 ∧ Lk V.heap.size bv bd o w.heap.size p (DC xa xb xs xv) (TC (.slice (some ⟨b1, o1, none⟩) m sc)) u4 vs out2 st V wr) ∨ (s9 = .int .i64 0 ∧ Lk V.heap.size bv bd o w.heap.size p (DC xa xb xs xv) (TC (.slice (some ⟨b1, o1, none⟩) m sc)) u4 vs out2 (st ++ opt xb (p ++ [true])) V wr ∧ Hid (0 ≤ xb ∧ xb ≤ (m : Int) - 1)) ∨ (s9 = .int .i64 (-1) ∧ Lk V.heap.size bv bd o w.heap.size p (DC xa xb xs xv) (TC (.slice (some ⟨b1, o1, none⟩) m sc)) u4 vs out2 ((st ++ opt xb (p ++ [true])) ++ opt xa (p ++ [false])) V wr ∧ (0 ≤ xb ∧ xb ≤ (m : Int) - 1) ∧ (0 ≤ xa ∧ xa ≤ (m : Int) - 1)))) (fun _ s _ => (intOf s + 1).toNat)
          case atStart => exact ⟨_, rfl, Or.inl ⟨rfl, L9⟩⟩
          case round =>
            clear L9
            obtain ⟨vs, rfl, hd⟩ := hrel
            rcases hd with ⟨rfl, L9⟩ | ⟨rfl, L9, hbb⟩ | ⟨rfl, L9, hbb, hba⟩
            · have cN := L9.fv.cell
              have cM := L9.fd.cell
              have cF := L9.ft.cell
              by_cases hb : 0 ≤ xb ∧ xb ≤ (m : Int) - 1
              · have CBx := fun W => between_any xb 0 ((m : Int) - 1) W
                rw [decide_eq_true hb] at CBx
                go_wp2_with fail
                refine (CBx _).mono ?_
                rintro e wr ⟨rfl, rfl⟩
                clear CBx
                by_cases hz0 : 0 < xb
                · obtain ⟨z, hz⟩ : ∃ z : Nat, xb = (z : Int) := ⟨xb.toNat, by omega⟩
                  subst hz
                  have HOp : Hid (opt (z : Int) (p ++ [true]) = [(z, p ++ [true])]) := by show _ = _; unfold opt; rw [if_pos hz0, Int.toNat_natCast]
                  have hF : VK.enc (z, p ++ [true]) = #[.int .i64 (z : Int), .string (en p ++ en [true])] := by rw [← en_append]; rfl
                  have CNb := fun W => num_any true W
                  simp only [if_true] at CNb
                  have z2 : (en [true]).size ≤ 1 := Nat.le_of_eq (en_size _)
                  generalize en [true] = S at *
                  have TDl : (st).length ≤ 2000 := by
                    have h1 : st.length ≤ 600 := by rw [HK.out]; omega
                    have h2 : ∀ (z : Int) (q : Pth), (opt z q).length ≤ 1 := by intro z q; unfold opt; split <;> simp
                    omega
                  have hBw : V.heap.size ≤ wr.heap.size := L9.bl.size
                  have hcat : ¬ 9223372036854775807 < (en p).size + S.size := by omega
                  clear hps
                  go_upto_region 22 with fail
                  go_region_law (first
                    | (refine step_at VK rfl (.tmp 77) (.tmp 85) rfl V.heap.size u5 (st) (by simp [Act.eval]) ((L9.ov.drew).alloc _) wr.heap.size 1 (z, p ++ [true]) 73 (by simp [Act.eval]) (by rw [hF]; exact Blk.new _ _ _) (by omega) (by show ((st).length + 1) * 24 ≤ _; omega) (by simp; omega) ?_; intro v8 W8 O8 g8 x8)
                    | (go_simp; go_wp2_with (go_at_call 45; refine (CNb _).mono ?_; rintro e wn ⟨rfl, rfl⟩)))
                  all_goals
                    have bW := Below.drew ((Below.refl wr.heap.size wr).alloc (Nat.le_refl _) (.cells #[.int .i64 (z : Int), .string (en p ++ S)] 73))
                    have o8 := (Only.of_below (v := u5) bW).trans (Only.of_app g8 (x8.imp id fun e => by rw [e]))
                    have L10 := L9.push hwz O8 o8
                    clear bW o8 g8 x8 O8 L9 cN cM cF CNb hF hcat
                    go_wp2_with fail
                    go_roundw
                    case rel => exact ⟨_, rfl, Or.inr (Or.inl ⟨rfl, by rw [HOp.out]; exact L10, hb⟩)⟩
                    case measure => simp [intOf]
                · have HOp : Hid (opt xb (p ++ [true]) = []) := by show _ = _; unfold opt; rw [if_neg hz0]
                  go_wp2_with fail
                  go_roundw
                  case rel => exact ⟨_, rfl, Or.inr (Or.inl ⟨rfl, by rw [HOp.out, List.append_nil]; exact L9, hb⟩)⟩
                  case measure => simp [intOf]
              · have CBx := fun W => between_any xb 0 ((m : Int) - 1) W
                rw [decide_eq_false hb] at CBx
                have bb9 := b0.trans (L9.bl.mono b0.size)
                have HNo : Hid (∀ t, ¬ Rt ns t) := fun t ht => hb (HOK.out t ht).2.2.2
                clear HST HOK L9
                go_wp2_with fail
                refine (CBx _).mono ?_
                rintro e wr ⟨rfl, rfl⟩
                go_wp2_with fail
                go_ret2
                exact ro ⟨_, [], false, rfl, Own.nil _ _ _, by simp, by simp, fun t ht => absurd ht (HNo.out t), bb9⟩
            · have cN := L9.fv.cell
              have cM := L9.fd.cell
              have cF := L9.ft.cell
              by_cases hb : 0 ≤ xa ∧ xa ≤ (m : Int) - 1
              · have CBx := fun W => between_any xa 0 ((m : Int) - 1) W
                rw [decide_eq_true hb] at CBx
                go_wp2_with fail
                refine (CBx _).mono ?_
                rintro e wr ⟨rfl, rfl⟩
                clear CBx
                by_cases hz0 : 0 < xa
                · obtain ⟨z, hz⟩ : ∃ z : Nat, xa = (z : Int) := ⟨xa.toNat, by omega⟩
                  subst hz
                  have HOp : Hid (opt (z : Int) (p ++ [false]) = [(z, p ++ [false])]) := by show _ = _; unfold opt; rw [if_pos hz0, Int.toNat_natCast]
                  have hF : VK.enc (z, p ++ [false]) = #[.int .i64 (z : Int), .string (en p ++ en [false])] := by rw [← en_append]; rfl
                  have CNb := fun W => num_any false W
                  simp only [Bool.false_eq_true, if_false] at CNb
                  have z2 : (en [false]).size ≤ 1 := Nat.le_of_eq (en_size _)
                  generalize en [false] = S at *
                  have TDl : (st ++ opt xb (p ++ [true])).length ≤ 2000 := by
                    have h1 : st.length ≤ 600 := by rw [HK.out]; omega
                    have h2 : ∀ (z : Int) (q : Pth), (opt z q).length ≤ 1 := by intro z q; unfold opt; split <;> simp
                    rw [List.length_append]; have := h2 xb (p ++ [true]); omega
                  have hBw : V.heap.size ≤ wr.heap.size := L9.bl.size
                  have hcat : ¬ 9223372036854775807 < (en p).size + S.size := by omega
                  clear hps
                  go_upto_region 22 with fail
                  go_region_law (first
                    | (refine step_at VK rfl (.tmp 77) (.tmp 85) rfl V.heap.size u5 (st ++ opt xb (p ++ [true])) (by simp [Act.eval]) ((L9.ov.drew).alloc _) wr.heap.size 1 (z, p ++ [false]) 73 (by simp [Act.eval]) (by rw [hF]; exact Blk.new _ _ _) (by omega) (by show ((st ++ opt xb (p ++ [true])).length + 1) * 24 ≤ _; omega) (by simp; omega) ?_; intro v8 W8 O8 g8 x8)
                    | (go_simp; go_wp2_with (go_at_call 45; refine (CNb _).mono ?_; rintro e wn ⟨rfl, rfl⟩)))
                  all_goals
                    have bW := Below.drew ((Below.refl wr.heap.size wr).alloc (Nat.le_refl _) (.cells #[.int .i64 (z : Int), .string (en p ++ S)] 73))
                    have o8 := (Only.of_below (v := u5) bW).trans (Only.of_app g8 (x8.imp id fun e => by rw [e]))
                    have L10 := L9.push hwz O8 o8
                    clear bW o8 g8 x8 O8 L9 cN cM cF CNb hF hcat
                    go_wp2_with fail
                    go_roundw
                    case rel => exact ⟨_, rfl, Or.inr (Or.inr ⟨rfl, by rw [HOp.out]; exact L10, hbb.out, hb⟩)⟩
                    case measure => simp [intOf]
                · have HOp : Hid (opt xa (p ++ [false]) = []) := by show _ = _; unfold opt; rw [if_neg hz0]
                  go_wp2_with fail
                  go_roundw
                  case rel => exact ⟨_, rfl, Or.inr (Or.inr ⟨rfl, by rw [HOp.out, List.append_nil]; exact L9, hbb.out, hb⟩)⟩
                  case measure => simp [intOf]
              · have CBx := fun W => between_any xa 0 ((m : Int) - 1) W
                rw [decide_eq_false hb] at CBx
                have bb9 := b0.trans (L9.bl.mono b0.size)
                have HNo : Hid (∀ t, ¬ Rt ns t) := fun t ht => hb (HOK.out t ht).2.2.1
                clear HST HOK L9
                go_wp2_with fail
                refine (CBx _).mono ?_
                rintro e wr ⟨rfl, rfl⟩
                go_wp2_with fail
                go_ret2
                exact ro ⟨_, [], false, rfl, Own.nil _ _ _, by simp, by simp, fun t ht => absurd ht (HNo.out t), bb9⟩
            · have HI9 : Hid (DfsI ns ((st ++ opt xb (p ++ [true])) ++ opt xa (p ++ [false])) out2 (n + 1)) := HST.out (by omega) (by omega)
              clear HST HOK
              generalize (st ++ opt xb (p ++ [true])) ++ opt xa (p ++ [false]) = td at *
              have OV9 := L9.ov
              have OO9 := L9.oo
              have bl9 := L9.bl
              clear L9
              obtain ⟨sb9, sd9, e9⟩ := (Own.rd OV9).form
              subst e9
              obtain ⟨q9, hq9⟩ : ∃ q9, q9 = td.length := ⟨_, rfl⟩
              have HQ9 : Hid (td.length = q9) := hq9.symm
              rw [← hq9] at OV9 ⊢
              clear hq9
              go_wp2_with fail
              go_roundw
              case rel => exact ⟨n + 1, out2, td, sb9, q9, sd9, by go_num, rfl, by omega, HQ9, OO9, OV9, HI9, bl9⟩
              case measure => simp [intOf]; omega
end Go.Proofs.Ytiddpkppfpdfhaa.pf
