/- The walk through custkeep.FragOwn. -/
import Derived.Test.YtlbpapngcgnepaaFragFeed
import Derived.Test.YtlbpapngcgnepaaFragSame
import Derived.Test.YtlbpapngcgnepaaFragClone
import Derived.Test.YtlbpapngcgnepaaFragLives
import Derived.Test.YtlbpapngcgnepaaRawSt
namespace Go.Proofs.Ytlbpapngcgnepaa.frow
open Go.ChangeShapes Go.WideShapes Go.ChangeAt Go.RowKit Go.BigFrame
open Go.Proofs.Ytlbpapngcgnepaa Go.Proofs.Ytlbpapngcgnepaa.ipb Go.Proofs.Ytlbpapngcgnepaa.boxes Go.Proofs.Ytlbpapngcgnepaa.ipr Go.Proofs.Ytlbpapngcgnepaa.frb Go.Proofs.Ytlbpapngcgnepaa.frp Go.Proofs.Ytlbpapngcgnepaa.pl Go.Proofs.Ytlbpapngcgnepaa.frfe Go.Proofs.Ytlbpapngcgnepaa.frsa Go.Proofs.Ytlbpapngcgnepaa.frl
open Go.Proofs.Ytlbpapngcgnepaa.rws (Own Knd app_one)
open Go.Proofs.Ytlbpapngcgnepaa.frt (own_ne_kind)
open Go.Proofs.Ytlbpapngcgnepaa.rawst (raw_store)

/-- heaps, each with parts of its own -/
structure Bef (w : World) (B : Nat) (v : Value) (Q : List Hq) : Prop where
  row : Own HK w B v (Q.map (·.v))
  part : ∀ q ∈ Q, Own TK w B q.v.sl q.ps
theorem Bef.kept {w w' : World} {B : Nat} {v : Value} {Q : List Hq} (h : Bef w B v Q) (hb : Below w.heap.size w w') : Bef w' B v Q := ⟨h.row.kept hb, fun q hq => (h.part q hq).kept hb⟩
theorem Bef.prd {w : World} {B : Nat} {v : Value} {Q : List Hq} (h : Bef w B v Q) : PRd w v (Q.map Hq.p) := by
  refine ⟨Q.map (·.v), Own.rd h.row, by simp, fun j x y hx hy => ?_⟩
  rw [List.getElem?_map, Option.map_eq_some_iff] at hx hy
  obtain ⟨q, hq, rfl⟩ := hx
  obtain ⟨q', hq', rfl⟩ := hy
  rw [hq] at hq'
  obtain rfl := Option.some.inj hq'
  exact ⟨rfl, Own.rd (h.part q (List.mem_of_getElem? hq))⟩
theorem own_new {α : Type} {K : Knd α} {w : World} {B : Nat} {v : Value} {l : List α} (h : Own K w B v l) (b : Nat) (hb : w.heap.size ≤ b) : v.ownBlock ≠ some b := fun e => by
  have := (World.ownsRow.lt h b e).2
  omega
theorem own_ge {α : Type} {K : Knd α} {w : World} {B : Nat} {v : Value} {l : List α} (h : Own K w B v l) (b : Nat) (hb : b < B) : v.ownBlock ≠ some b := fun e => by
  have := (World.ownsRow.lt h b e).1
  omega
theorem row_kept {w w' : World} {B B' : Nat} {v v2 : Value} {X : List Hv} {ps : List Pt} (h : Own HK w B v X) (hp : Own TK w B' v2 ps) (g : w.grownBy w' v.ownBlock) : Own TK w' B' v2 ps := by
  refine World.ownsRow.kept (row := v.ownBlock) hp g ?_
  cases hv : v.ownBlock with
  | none =>
    cases hs : v2.ownBlock with
    | none => exact Or.inl rfl
    | some k => exact Or.inr (by simp)
  | some k => exact Or.inr (ne_kind h hp hv)
theorem Bef.more {w w' : World} {B : Nat} {v v' : Value} {Q : List Hq} {q : Hq} (h : Bef w B v Q) (hq : Own TK w B q.v.sl q.ps) (g : w.grownBy w' v.ownBlock) (hr : Own HK w' B v' (Q.map (·.v) ++ [q.v])) : Bef w' B v' (Q ++ [q]) := by
  refine ⟨by simpa using hr, fun x hx => ?_⟩
  rcases List.mem_append.1 hx with hx | hx
  · exact row_kept h.row (h.part x hx) g
  · rw [List.mem_singleton.1 hx]; exact row_kept h.row hq g
/-- a row of parts that may be written all over -/
def Wr (B : Nat) (u : World) (v : Value) : Prop := v = .slice none 0 0 ∨ ∃ g n cap cur, v = .slice (some ⟨g, 0, none⟩) n cap ∧ n ≤ cap ∧ B ≤ g ∧ Blk u g cur TK.e ∧ cur.size = cap * 3 ∧ cap ≤ maxLen
theorem own_wr {w : World} {B : Nat} {v : Value} {l : List Pt} (h : Own TK w B v l) : Wr B w v := by
  rcases h.2 with ⟨rfl, _⟩ | ⟨g, cap, cur, rfl, hB, hg, hnc, hm, hcs, _⟩
  · exact Or.inl rfl
  · exact Or.inr ⟨g, _, cap, cur, rfl, hnc, hB, hg, hcs, hm⟩
/-- what stands while what was told is written over -/
structure Iv (w5 u : World) (v : Value) (Q : List Hq) : Prop where
  bel : Below w5.heap.size w5 u
  row : Own HK u w5.heap.size v (Q.map (·.v))
  part : ∀ q ∈ Q, Wr w5.heap.size u q.v.sl
theorem Wr.below {B : Nat} {u u' : World} {v : Value} (h : Wr B u v) (hb : Below u.heap.size u u') : Wr B u' v := by
  rcases h with h | ⟨g, n, cap, cur, e, h1, h2, h3, h4, h5⟩
  · exact Or.inl h
  · exact Or.inr ⟨g, n, cap, cur, e, h1, h2, h3.below hb h3.lt, h4, h5⟩
theorem Iv.kept {w5 u u' : World} {v : Value} {Q : List Hq} (h : Iv w5 u v Q) (hb : Below u.heap.size u u') : Iv w5 u' v Q :=
  ⟨h.bel.trans (hb.mono h.bel.size), h.row.kept hb, fun q hq => (h.part q hq).below hb⟩
theorem Iv.store {w5 u u' : World} {v : Value} {Q : List Hq} {g : Nat} {cur cur' : Array Value} (h : Iv w5 u v Q) (hg : w5.heap.size ≤ g) (k : Blk u g cur TK.e) (k' : Blk u' g cur' TK.e) (hs : cur'.size = cur.size) (bu : But g u u') : Iv w5 u' v Q := by
  refine ⟨bu.below h.bel hg, h.row.but bu (own_ne_kind h.row k (by decide)), fun q hq => ?_⟩
  rcases h.part q hq with e | ⟨g', n, cap, c, e, h1, h2, h3, h4, h5⟩
  · exact Or.inl e
  · by_cases hgg : g' = g
    · subst hgg
      have e2 : cur = c := by
        unfold Blk at k h3
        rw [k] at h3
        have := Option.some.inj h3
        simp only [Obj.cells.injEq] at this
        exact this.1
      exact Or.inr ⟨g', n, cap, cur', e, h1, h2, k', by rw [hs, e2, h4], h5⟩
    · exact Or.inr ⟨g', n, cap, c, e, h1, h2, bu.blk h3 hgg, h4, h5⟩
set_option maxRecDepth 20000 in
set_option maxHeartbeats 8000000 in
theorem walk (v : Value) (L : List Hp) (p : Pk) (w : World) (h : PRd w v L) (hsz : ∀ x ∈ L, ∀ q ∈ x.ps, q.d.size ≤ 9223372036854775807) (hL : L.length * 80 ≤ 140737488355328) (hP : ∀ x ∈ L, x.ps.length * 32 ≤ 140737488355328)
    (hp : 20 + p.o.size + p.d.size ≤ 9223372036854775807) (ha : p.Adr) :
    Calls Try.prog 8 #[v, .agg p.cells] w fun e w' => e = .returned (.bool true) ∧ Below w.heap.size w w' := by
  have CF := fun u hu => feed_any v L p u hu hsz hL hP hp ha
  have HM : Hid (∀ u x y, PRd u x L → PRd u y L → Calls Try.prog 16 #[x, y] u fun e w' => e = .returned (.bool true) ∧ Below u.heap.size u w') := fun u x y h1 h2 => same_any x y L u h1 h2
  have CC : Hid (∀ x ∈ L, ∀ u y, Rd TK u y x.ps → Calls Try.prog 19 #[y] u fun e w' => ∃ v', e = .returned v' ∧ Own TK w' u.heap.size v' x.ps ∧ Below u.heap.size u w') := fun x hx u y hy => frcl.clone_any y x.ps u hy (hP x hx)
  generalize feed L p = T at CF
  have HF : Hid (∀ u, PRd u v L → Calls Try.prog 12 #[v, .agg p.cells] u fun e w' => ∃ v' Q', e = .returned (.tuple #[v', .agg T.q.cells, .bool T.ok, .int .i64 T.e]) ∧ Pool w' u.heap.size v' Q' ∧ Below u.heap.size u w') := fun u hu => by
    refine (CF u hu).mono ?_
    rintro e w' ⟨v', Q', rfl, hQ, _, hb⟩
    exact ⟨v', Q', rfl, hQ, hb⟩
  clear CF hp ha hsz hP
  have HP : Hid (PRd w v L) := h
  obtain ⟨X, ⟨sa, sc, rfl, hm, hf, hc⟩, hX, hx⟩ := h
  obtain ⟨n, N⟩ : ∃ n, n = X.length := ⟨_, rfl⟩
  have HN : Hid (n = X.length ∧ X.length = L.length) := ⟨N, hX⟩
  have nb : n * 80 ≤ 140737488355328 := by rw [N, hX]; exact hL
  rw [← N] at HP HF hc ⊢
  clear N hX hm hf hL
  have F0 := Blk.new w p.cells 24
  have d0 := (Below.refl w.heap.size w).alloc (Nat.le_refl _) (.cells p.cells 24)
  go_enter Try.func8, Try.ntmps8
  go_wp2_with fail
  go_loopw [5, 20] (fun vb i wr => ∃ (k : Nat) (Q : List Hq), i = .int .i64 (k : Int) ∧ k ≤ n ∧ Hid (Q.map Hq.p = L.take k ∧ Q.length = k) ∧ Bef wr (w.heap.size + 1) vb Q ∧ Blk wr w.heap.size p.cells 24 ∧ Below w.heap.size w wr) (fun _ i _ => n - (intOf i).toNat)
  case atStart => exact ⟨0, [], rfl, Nat.zero_le _, ⟨rfl, rfl⟩, ⟨Own.nil _ _ _, fun q hq => by simp at hq⟩, F0, d0⟩
  case round =>
    clear F0 d0
    obtain ⟨k, Q, rfl, hk, EQ, bef, F, bel⟩ := hrel
    have zB := bel.size
    by_cases hlt : k < n
    · obtain ⟨hN, hXL⟩ := HN.out
      obtain ⟨y, hy⟩ : ∃ y, X[k]? = some y := ⟨X[k]'(by omega), List.getElem?_eq_getElem _⟩
      obtain ⟨l, hl⟩ : ∃ l, L[k]? = some l := ⟨L[k]'(by omega), List.getElem?_eq_getElem _⟩
      obtain ⟨e1, r1⟩ := hx k y l hy hl
      obtain ⟨bb, off, rfl, hbb, hcc⟩ := hc (by omega)
      have hc' : ∀ (j : Nat) x, X[j]? = some x → ∀ i, i < HK.k → wr.cell? ⟨bb, off + j * HK.k + i, none⟩ = (HK.enc x)[i]? := fun j x hx i hi => (bel.cell (p := ⟨bb, off + j * HK.k + i, none⟩) hbb).trans (hcc j x hx i hi)
      have hlt' : (k : Int) < (n : Int) := by omega
      have D1 := Blk.new wr y.cells 46
      have dA := (Below.refl wr.heap.size wr).alloc (Nat.le_refl _) (.cells y.cells 46)
      have bel1 := bel.trans (dA.mono zB)
      have CL := CC.out l (List.mem_of_getElem? hl) (wr.alloc (.cells y.cells 46)) y.sl (r1.below bel1)
      have EQ' : Hid (∀ q : Hq, q.v.h = y.h → q.ps = l.ps → (Q ++ [q]).map Hq.p = L.take (k + 1) ∧ (Q ++ [q]).length = k + 1) := fun q h1 h2 => by
        obtain ⟨a1, a2⟩ := EQ.out
        refine ⟨?_, by simp [a2]⟩
        obtain ⟨hkl, hle⟩ := List.getElem?_eq_some_iff.1 hl
        rw [List.take_succ_eq_append_getElem hkl, hle, List.map_append, a1]
        congr 1
        simp only [List.map_cons, List.map_nil, Hq.p, h1, h2, e1]
      have qn : Q.length = k := EQ.out.2
      have HQN : Hid (Q.length = k) := qn
      have qz : (Q.map (·.v)).length * 80 + 80 ≤ 140737488355328 := by rw [List.length_map, qn]; omega
      have bef1 := bef.kept dA
      have F1 := F.below dA F.lt
      have f1 := F.lt
      have nb1 := own_new bef.row wr.heap.size (Nat.le_refl _)
      have nb2 : ∀ q ∈ Q, q.v.sl.ownBlock ≠ some wr.heap.size := fun q hq => own_new (bef.part q hq) _ (Nat.le_refl _)
      clear hN hXL hcc EQ bef F bel e1 r1 hl qn dA hx hc
      go_upto_region 5 with (refine rd_load HK _ rfl _ rfl bb off X hc' k _ rfl rfl _ hy y.cells rfl _ Try.underlying46 rfl ?_)
      change Code.wp _ _ _ _ (wr.alloc (.cells y.cells 46))
      generalize wr.alloc (.cells y.cells 46) = V at *
      have cD := D1.cell
      have vz := D1.lt
      clear hc' hy
      go_wp2_with fail
      refine CL.mono ?_
      rintro e W2 ⟨v2, rfl, o2, l2⟩
      obtain ⟨sa2, sc2, e2⟩ := (Own.rd o2).form
      obtain ⟨m2, hm2⟩ : ∃ m2, m2 = l.ps.length := ⟨_, rfl⟩
      rw [← hm2] at e2
      subst e2
      have D2 := D1.below l2 D1.lt
      have bef2 := bef1.kept l2
      have F2 := F1.below l2 F1.lt
      have bel2 := bel1.trans (l2.mono bel1.size)
      clear CL D1 bef1 F1 bel1 cD hm2
      have cD := D2.cell
      have fD := D2.free
      have u3 := but_setCell W2 wr.heap.size 7 (.slice sa2 m2 sc2)
      have D3 : Blk (W2.setCell ⟨wr.heap.size, 7, none⟩ (.slice sa2 m2 sc2)) wr.heap.size (Hv.cells ⟨y.h, sa2, m2, sc2⟩) 46 := D2.setCell 7 _
      have bef3 : Bef (W2.setCell ⟨wr.heap.size, 7, none⟩ (.slice sa2 m2 sc2)) (w.heap.size + 1) _ Q := ⟨bef2.row.but u3 nb1, fun q hq => (bef2.part q hq).but u3 (nb2 q hq)⟩
      have o3 := (o2.but u3 (own_ge o2 wr.heap.size vz)).mono (B' := w.heap.size + 1) (by have := l2.size; omega)
      have F3 := u3.blk F2 (by omega)
      have bel3 := bel2.setCell (p := ⟨wr.heap.size, 7, none⟩) zB (.slice sa2 m2 sc2)
      go_upto_region 6 with fail
      generalize W2.setCell ⟨wr.heap.size, 7, none⟩ (.slice sa2 m2 sc2) = U at *
      clear D2 bef2 F2 bel2 cD fD u3 o2 l2 nb1 nb2
      have uz := F3.lt
      go_wp2_with (first
        | (at_builtin; refine app_one HK _ rfl _ _ rfl (w.heap.size + 1) _ (Q.map (·.v)) rfl (bef3.row.alloc _) U.heap.size 1 ⟨y.h, sa2, m2, sc2⟩ _ rfl (Blk.new _ _ _) (by unfold maxLen; omega) (by show ((Q.map (·.v)).length + 1) * 80 ≤ _; omega) (by simp; omega) ?_; intro v4 W4 O4 c4 g4)
        | refine blk_load _ rfl 46 _ rfl wr.heap.size rfl _ _ D3 _ Try.underlying46 rfl 8 hp_info rfl ?_)
      have bef4 : Bef W4 (w.heap.size + 1) v4 (Q ++ [⟨⟨y.h, sa2, m2, sc2⟩, l.ps⟩]) := Bef.more (Bef.kept bef3 ((Below.refl _ _).alloc (Nat.le_refl _) _)) (o3.alloc _) g4 O4
      have EQ4 : Hid ((Q ++ [(⟨⟨y.h, sa2, m2, sc2⟩, l.ps⟩ : Hq)]).map Hq.p = L.take (k + 1) ∧ (Q ++ [(⟨⟨y.h, sa2, m2, sc2⟩, l.ps⟩ : Hq)]).length = k + 1) := EQ'.out ⟨⟨y.h, sa2, m2, sc2⟩, l.ps⟩ rfl rfl
      have F4 := (F3.alloc _).below c4 (by omega)
      have bel4 := (bel3.alloc (by omega) _).trans (c4.mono (by omega))
      clear bef3 o3 F3 bel3 D3 g4 O4 c4 EQ' qz
      go_wp2_with fail
      go_roundw
      case rel => exact ⟨k + 1, _, by go_num, by omega, EQ4, bef4, F4, bel4⟩
      case measure => simp [intOf]; omega
    · rename World => w5
      obtain ⟨hN, hXL⟩ := HN.out
      have hlt' : ¬ (k : Int) < (n : Int) := by omega
      have PB := bef.prd
      rw [EQ.out.1, List.take_of_length_le (by omega)] at PB
      have PV := HP.out.below bel
      clear EQ bef hx hc HP CC hN hXL hlt
      go_wp2_with (refine blk_load _ rfl 24 _ rfl w.heap.size rfl _ _ F _ Try.underlying24 rfl 11 pk_info rfl ?_)
      refine (HF.out _ PV).mono ?_
      rintro e w6 ⟨v6, Q6, rfl, P6, l6⟩
      clear HF F
      have dA := (Below.refl w6.heap.size w6).alloc (Nat.le_refl _) (.cells zeroP.cells 24)
      go_upto_region 9 with (refine blk_store _ rfl 24 _ _ rfl w6.heap.size T.q.cells rfl rfl _ _ (Blk.new w6 zeroP.cells 24) 11 pk_info rfl rfl (pk_one T.q) ?_; intro w7 k7 p7)
      have l7 := p7.below dA (Nat.le_refl _)
      have P7 := P6.kept l7
      have b7 := l6.trans (l7.mono l6.size)
      clear P6 l6 l7 dA p7 k7
      have SM7 := HM.out w7 _ _ (PV.below b7) (PB.below b7)
      go_wp2_with fail
      refine SM7.mono ?_
      rintro e w8 ⟨rfl, l8⟩
      have P8 := P7.kept l8
      have b8 := b7.trans (l8.mono b7.size)
      have iv8 : Iv w5 w8 v6 Q6 := ⟨b8, P8.row, fun q hq => own_wr (P8.part q hq)⟩
      clear SM7 P7 b7 l8 P8 b8
      obtain ⟨sa6, sc6, e6⟩ := (Own.rd iv8.row).form
      obtain ⟨m6, hm6⟩ : ∃ m6, m6 = (Q6.map (·.v)).length := ⟨_, rfl⟩
      have HM6 : Hid (m6 = (Q6.map (·.v)).length) := hm6
      rw [← hm6] at e6
      subst e6
      have m6b : m6 ≤ 9223372036854775807 := by
        obtain ⟨_, _, _, hm, _⟩ := Own.rd iv8.row
        unfold maxLen at hm; omega
      clear hm6
      go_wp2_with fail
      go_loopw [46] (fun i ua => ∃ k2 : Nat, i = .int .i64 (k2 : Int) ∧ k2 ≤ m6 ∧ Iv w5 ua (.slice sa6 m6 sc6) Q6) (fun i _ => m6 - (intOf i).toNat)
      case atStart => exact ⟨0, rfl, Nat.zero_le _, iv8⟩
      case round =>
        rename World => ua
        clear iv8
        obtain ⟨k2, rfl, hk2, iv⟩ := hrel
        by_cases hlt2 : k2 < m6
        · have hm6 := HM6.out
          rw [List.length_map] at hm6
          obtain ⟨q, hq⟩ : ∃ q, Q6[k2]? = some q := ⟨Q6[k2]'(by omega), List.getElem?_eq_getElem _⟩
          have hqv : (Q6.map (·.v))[k2]? = some q.v := by rw [List.getElem?_map, hq]; rfl
          have qm := List.mem_of_getElem? hq
          obtain ⟨g6, cap6, e6, gB6, gl6, _, _, _⟩ := iv.row.form (by rw [List.length_map]; omega)
          simp only [Value.slice.injEq] at e6
          obtain ⟨rfl, hnn, rfl⟩ := e6
          clear hnn hm6 hq
          have hlt2' : (k2 : Int) < (m6 : Int) := by omega
          have D1 := Blk.new ua q.v.cells 46
          have iv1 := iv.kept ((Below.refl ua.heap.size ua).alloc (Nat.le_refl _) (.cells q.v.cells 46))
          have wq := iv1.part q qm
          obtain ⟨⟨hh, s1, s2, s3⟩, ps⟩ := q
          go_upto_region 13 with (refine rws.elem_load HK _ rfl _ rfl w5.heap.size g6 m6 sc6 _ iv.row k2 _ rfl rfl _ hqv (Hv.cells ⟨hh, s1, s2, s3⟩) rfl _ Try.underlying46 rfl ?_)
          change Code.wp _ _ _ _ (ua.alloc (.cells (Hv.cells ⟨hh, s1, s2, s3⟩) 46))
          generalize ua.alloc (.cells (Hv.cells ⟨hh, s1, s2, s3⟩) 46) = V at *
          have cD := D1.cell
          clear iv hqv qm
          rcases wq with e | ⟨g, n3, cap, cur, e, hnc, hB, hg, hcs, hmx⟩
          · simp only [Value.slice.injEq] at e
            obtain ⟨rfl, rfl, rfl⟩ := e
            go_wp2_with fail
            go_loopg [58] 0 (fun g i ub => i = .int .i64 0 ∧ Iv w5 ub (.slice (some ⟨g6, 0, none⟩) m6 sc6) Q6)
            case atStart => exact ⟨rfl, iv1⟩
            case round =>
              clear iv1 D1 cD
              obtain ⟨rfl, iv2⟩ := hrel
              go_wp2_with fail
              go_roundw
              case rel => exact ⟨k2 + 1, by go_num, by omega, iv2⟩
              case measure => simp [intOf]; omega
          · simp only [Value.slice.injEq] at e
            obtain ⟨rfl, rfl, rfl⟩ := e
            have hmx' : s3 ≤ 9223372036854775807 := by unfold maxLen at hmx; omega
            clear hmx
            go_wp2_with fail
            go_loopw [58] (fun i ub => ∃ (j : Nat) (cu : Array Value), i = .int .i64 (j : Int) ∧ j ≤ s3 ∧ Blk ub g cu TK.e ∧ cu.size = s3 * 3 ∧ Iv w5 ub (.slice (some ⟨g6, 0, none⟩) m6 sc6) Q6) (fun i _ => s3 - (intOf i).toNat)
            case atStart => exact ⟨0, cur, rfl, Nat.zero_le _, hg, hcs, iv1⟩
            case round =>
              clear iv1 D1 cD hg hcs
              obtain ⟨j, cu, rfl, hj, gj, cj, iv2⟩ := hrel
              by_cases hlt3 : j < s3
              · have hlt3' : (j : Int) < (s3 : Int) := by omega
                go_wp2_with (refine raw_store TK _ rfl _ _ rfl g (j * 3) cu gj rfl (by rw [cj]; show j * 3 + 3 ≤ _; omega) ⟨99, ⟨#[]⟩, false⟩ rfl ?_; intro W' cu' gj' cj' bu)
                have iv3 := iv2.store hB gj gj' cj' bu
                rw [cj] at cj'
                clear iv2 gj cj bu
                go_wp2_with fail
                go_roundw
                case rel => exact ⟨j + 1, cu', by go_num, by omega, gj', cj', iv3⟩
                case measure => simp [intOf]; omega
              have hlt3' : ¬ (j : Int) < (s3 : Int) := by omega
              clear gj cj
              go_wp2_with fail
              go_roundw
              case rel => exact ⟨k2 + 1, by go_num, by omega, iv2⟩
              case measure => simp [intOf]; omega
        have hlt2' : ¬ (k2 : Int) < (m6 : Int) := by omega
        rcases iv.row.2 with ⟨e, _⟩ | ⟨g, cap, cur, e, hB, hg, hnc, hm, hcs, _⟩
        · simp only [Value.slice.injEq] at e
          obtain ⟨rfl, rfl, rfl⟩ := e
          have bq := iv.bel
          clear iv
          go_wp2_with fail
          go_loopg [73] 0 (fun g i uc => i = .int .i64 0 ∧ Below w5.heap.size w5 uc)
          case atStart => exact ⟨rfl, bq⟩
          case round =>
            clear bq
            obtain ⟨rfl, bz⟩ := hrel
            have d9 := bel.trans (bz.mono bel.size)
            have PVz := PV.below bz
            have PBz := PB.below bz
            clear bz
            go_wp2_with fail
            refine (lives _).mono ?_
            rintro e wx ⟨rfl, lx⟩
            have dx := d9.trans (lx.mono d9.size)
            have SMx := HM.out wx _ _ (PVz.below lx) (PBz.below lx)
            clear d9 PVz PBz lx HM
            go_wp2_with fail
            refine SMx.mono ?_
            rintro e wy ⟨rfl, ly⟩
            have dy := dx.trans (ly.mono dx.size)
            clear SMx dx ly
            go_wp2_with fail
            go_ret
            exact ⟨rfl, dy⟩
        · simp only [Value.slice.injEq] at e
          obtain ⟨rfl, hnn, rfl⟩ := e
          have hm' : sc6 ≤ 9223372036854775807 := by unfold maxLen at hm; omega
          have bq := iv.bel
          have nc : m6 ≤ sc6 := by rw [hnn]; exact hnc
          clear iv hm hnn hnc
          go_wp2_with fail
          go_loopw [73] (fun i uc => ∃ (j : Nat) (cu : Array Value), i = .int .i64 (j : Int) ∧ j ≤ sc6 ∧ Blk uc g cu HK.e ∧ cu.size = sc6 * 8 ∧ Below w5.heap.size w5 uc) (fun i _ => sc6 - (intOf i).toNat)
          case atStart => exact ⟨0, cur, rfl, Nat.zero_le _, hg, hcs, bq⟩
          case round =>
            clear bq hg hcs
            obtain ⟨j, cu, rfl, hj, gj, cj, bz⟩ := hrel
            by_cases hlt3 : j < sc6
            · have hlt3' : (j : Int) < (sc6 : Int) := by omega
              go_wp2_with (refine raw_store HK _ rfl _ _ rfl g (j * 8) cu gj rfl (by rw [cj]; show j * 8 + 8 ≤ _; omega) ⟨⟨0, 0, 0, 99, 0, 0, ⟨#[]⟩⟩, none, 0, 0⟩ rfl ?_; intro W' cu' gj' cj' bu)
              have bz' := bu.below bz hB
              rw [cj] at cj'
              clear bz gj cj bu
              go_wp2_with fail
              go_roundw
              case rel => exact ⟨j + 1, cu', by go_num, by omega, gj', cj', bz'⟩
              case measure => simp [intOf]; omega
            have hlt3' : ¬ (j : Int) < (sc6 : Int) := by omega
            clear gj cj
            have d9 := bel.trans (bz.mono bel.size)
            have PVz := PV.below bz
            have PBz := PB.below bz
            clear bz
            go_wp2_with fail
            refine (lives _).mono ?_
            rintro e wx ⟨rfl, lx⟩
            have dx := d9.trans (lx.mono d9.size)
            have SMx := HM.out wx _ _ (PVz.below lx) (PBz.below lx)
            clear d9 PVz PBz lx HM
            go_wp2_with fail
            refine SMx.mono ?_
            rintro e wy ⟨rfl, ly⟩
            have dy := dx.trans (ly.mono dx.size)
            clear SMx dx ly
            go_wp2_with fail
            go_ret
            exact ⟨rfl, dy⟩
end Go.Proofs.Ytlbpapngcgnepaa.frow
