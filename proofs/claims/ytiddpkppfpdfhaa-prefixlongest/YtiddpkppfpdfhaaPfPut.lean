/- prefix.Put: what it answers. -/
import Derived.Test.YtiddpkppfpdfhaaPfAdd
import Derived.Shelf.Abstract
namespace Go.Proofs.Ytiddpkppfpdfhaa.pf
open Go.ChangeShapes Go.WideShapes Go.ChangeAt Go.RowKit Go.BigFrame
open Go.Proofs.Ytiddpkppfpdfhaa Go.Proofs.Ytiddpkppfpdfhaa.pm Go.Proofs.Ytiddpkppfpdfhaa.boxes Go.Proofs.Ytiddpkppfpdfhaa.rwr Go.Proofs.Ytiddpkppfpdfhaa.rwat
open Go.Proofs.Ytiddpkppfpdfhaa.rws (Knd Own)

/-- of what there was just one box and the row's own block may have turned -/
structure OnlyB (bx : Nat) (v v' : Value) (w w' : World) : Prop where
  os : w'.os = w.os
  tape : w'.tape = w.tape
  output : w'.output = w.output
  size : w.heap.size ≤ w'.heap.size
  block : ∀ b, b < w.heap.size → b ≠ bx → v.ownBlock ≠ some b → w'.heap[b]? = w.heap[b]?
  own : ∀ g, v'.ownBlock = some g → v.ownBlock = some g ∨ w.heap.size ≤ g
theorem OnlyB.of_only {bx : Nat} {v v' : Value} {w w' : World} (h : Only v v' w w') : OnlyB bx v v' w w' := ⟨h.1.os, h.1.tape, h.1.output, h.1.size, fun b hb _ hne => h.1.block b hb fun e => hne e.symm, h.2⟩
theorem OnlyB.of_but {bx : Nat} {v : Value} {w w' : World} (h : But bx w w') : OnlyB bx v v w w' := ⟨h.os, h.tape, h.output, by rw [h.size]; exact Nat.le_refl _, fun b _ hne _ => h.block b hne, fun _ hg => Or.inl hg⟩
theorem OnlyB.trans {bx : Nat} {v v1 v2 : Value} {w w1 w2 : World} (h : OnlyB bx v v1 w w1) (k : OnlyB bx v1 v2 w1 w2) : OnlyB bx v v2 w w2 := by
  refine ⟨k.os.trans h.os, k.tape.trans h.tape, k.output.trans h.output, Nat.le_trans h.size k.size, fun b hb hx hne => ?_, fun g hg => ?_⟩
  · refine (k.block b (Nat.lt_of_lt_of_le hb h.size) hx fun e => ?_).trans (h.block b hb hx hne)
    rcases h.own b e with e2 | e2
    · exact hne e2
    · omega
  · rcases k.own g hg with e | e
    · exact h.own g e
    · exact Or.inr (Nat.le_trans h.size e)
theorem OnlyB.blk {bx : Nat} {v v' : Value} {w w' : World} (h : OnlyB bx v v' w w') {b : Nat} {F : Array Value} {t : TypeId} (k : Blk w b F t) (hx : b ≠ bx) (hne : v.ownBlock ≠ some b) : Blk w' b F t := (h.block b k.lt hx hne).trans k
theorem OnlyB.below {bx : Nat} {v v' : Value} {w w' : World} (h : OnlyB bx v v' w w') {B : Nat} (hv : ∀ g, v.ownBlock = some g → B ≤ g) (hx : B ≤ bx) (hB : B ≤ w.heap.size) : Below B w w' :=
  ⟨h.os, h.tape, h.output, h.size, fun k hk => h.block k (Nat.lt_of_lt_of_le hk hB) (by omega) fun e => by have := hv k e; omega⟩
set_option maxHeartbeats 4000000 in
set_option maxRecDepth 20000 in
theorem put1_any (bn bx bv B : Nat) (p q : Pth) (val u : Int) (A : T) (vn : Value) (W : World) (F1 : Blk W bn (NC (ad 32 p) p.length) 27) (F2 : Blk W bx #[vn] 22) (F3 : Blk W bv #[.int .i64 val] 3)
    (O : FO W B vn (lay 0 A)) (h1 : bn < B) (h2 : bx < B) (h3 : bv < B) (n1 : bn ≠ bx) (hB : B ≤ W.heap.size) (hp : p.length ≤ 32) (hq : q.length ≤ 32) (f1 : has A p ∨ last A p)
    (f2 : has (if ad 32 p < ad 32 q then ins A p val else A) q ∨ last (if ad 32 p < ad 32 q then ins A p val else A) q) (hs : sz A ≤ 900000) :
    Calls Try.prog 29 #[.agg (NC (ad 32 q) q.length), .int .i64 u, .pointer (some ⟨bn, 0, none⟩), .pointer (some ⟨bx, 0, none⟩), .pointer (some ⟨bv, 0, none⟩)] W fun e w' => e = .returned (.tuple #[]) ∧
      ∃ vn', Blk w' bx #[vn'] 22 ∧ FO w' B vn' (lay 0 (putN p val A (q, u))) ∧ OnlyB bx vn vn' W w' := by
  have bo := (Below.refl W.heap.size W).alloc (Nat.le_refl _) (.cells (NC (ad 32 q) q.length) 27)
  have Go0 := Blk.new W (NC (ad 32 q) q.length) 27
  have G1 := F1.alloc (.cells (NC (ad 32 q) q.length) 27)
  have G2 := F2.alloc (.cells (NC (ad 32 q) q.length) 27)
  have G3 := F3.alloc (.cells (NC (ad 32 q) q.length) 27)
  have O1 := O.alloc (.cells (NC (ad 32 q) q.length) 27)
  have N1 : OnlyB bx vn vn W (W.alloc (.cells (NC (ad 32 q) q.length) 27)) := OnlyB.of_only (Only.of_below bo)
  have hB1 : B ≤ (W.alloc (.cells (NC (ad 32 q) q.length) 27)).heap.size := by simp; omega
  have hlt0 : W.heap.size < (W.alloc (.cells (NC (ad 32 q) q.length) 27)).heap.size := Go0.lt
  have hvo : vn.ownBlock ≠ some W.heap.size := fun e => by have := fo_lt O _ e; omega
  have hszi := sz_ins A p val
  unfold putN
  clear F1 F2 F3 O bo
  by_cases hc : ad 32 p < ad 32 q
  · rw [if_pos hc] at f2
    simp only [hc, if_true]
    have AD1 : Hid (∀ W1, FO W1 B vn (lay 0 A) → B ≤ W1.heap.size → Calls Try.prog 30 #[vn, .agg (NC (ad 32 p) p.length), .int .i64 val] W1 fun e w' => ∃ v', e = .returned v' ∧ FO w' B v' (lay 0 (ins A p val)) ∧ Only vn v' W1 w') := fun W1 hO hB => add_any vn A p val B W1 hO hp f1 (by omega) hB
    have AD2 : Hid (∀ v W1, FO W1 B v (lay 0 (ins A p val)) → B ≤ W1.heap.size → Calls Try.prog 30 #[v, .agg (NC (ad 32 q) q.length), .int .i64 u] W1 fun e w' => ∃ v', e = .returned v' ∧ FO w' B v' (lay 0 (ins (ins A p val) q u)) ∧ Only v v' W1 w') := fun v W1 hO hB => add_any v _ q u B W1 hO hq f2 (by omega) hB
    clear f1 f2 hs hszi hp hq
    generalize lay 0 (ins (ins A p val) q u) = L2 at *
    generalize lay 0 (ins A p val) = L1 at *
    generalize lay 0 A = L0 at *
    generalize ad 32 p = pa at *
    generalize ad 32 q = qa at *
    generalize p.length = pl at *
    generalize q.length = ql at *
    obtain ⟨sa, sc, hv⟩ := (FO.rd O1).form
    subst hv
    have c1 := G1.cell
    have c2 := G2.cell
    have c3 := G3.cell
    go_enter Try.func29, Try.ntmps29
    go_upto_region 2 with fail
    generalize hW1 : W.alloc (Obj.cells (NC qa ql) 27) = W1 at *
    clear hW1
    have C1 := AD1.out W1 O1 hB1
    go_wp2_with fail
    refine C1.mono ?_
    rintro e W2 ⟨v2, rfl, O2, o2⟩
    have K1 := o2.blk G1 (fo_ne O1 h1)
    have K2 := o2.blk G2 (fo_ne O1 h2)
    have K3 := o2.blk G3 (fo_ne O1 h3)
    have K0 := o2.blk Go0 hvo
    have hB2 : B ≤ W2.heap.size := Nat.le_trans hB1 o2.1.size
    have N2 := N1.trans (OnlyB.of_only o2)
    clear C1 c1 c2 c3 G1 G2 G3 Go0 o2 N1 AD1 O1
    obtain ⟨sa2, sc2, hv2⟩ := (FO.rd O2).form
    subst hv2
    have d2 := K2.cell 0
    have d3 := K2.free 0
    go_upto_region 3 with fail
    have ne2 := fo_ne O2 h2
    have bu := but_setCell W2 bx 0 (.slice sa2 L1.length sc2)
    have O3 := O2.setCell (i := 0) (u := .slice sa2 L1.length sc2) ne2
    have N3 := N2.trans (OnlyB.of_but bu)
    have K1 := bu.blk K1 n1
    have K0 := bu.blk K0 (by omega)
    have K2 : Blk (W2.setCell ⟨bx, 0, none⟩ (.slice sa2 L1.length sc2)) bx #[.slice sa2 L1.length sc2] 22 := K2.setCell 0 _
    have hB3 : B ≤ (W2.setCell ⟨bx, 0, none⟩ (.slice sa2 L1.length sc2)).heap.size := by rw [bu.size]; exact hB2
    generalize hW3 : W2.setCell ⟨bx, 0, none⟩ (.slice sa2 L1.length sc2) = W3 at *
    clear hW3 bu d2 d3 N2 hB2 K3 O2
    have C2 := AD2.out _ W3 O3 hB3
    have c1 := K1.cell
    have c2 := K2.cell
    have c0 := K0.cell
    go_wp2_with fail
    refine C2.mono ?_
    rintro e W4 ⟨v4, rfl, O4, o4⟩
    have J2 := o4.blk K2 (fo_ne O3 h2)
    have N4 := N3.trans (OnlyB.of_only o4)
    clear C2 c1 c2 c0 AD2 K0 K1 K2 N3 o4
    obtain ⟨sa4, sc4, hv4⟩ := (FO.rd O4).form
    subst hv4
    have d2 := J2.cell 0
    have d3 := J2.free 0
    have ne4 := fo_ne O4 h2
    go_wp2_with fail
    go_end0
    exact ⟨rfl, _, J2.setCell 0 _, O4.setCell ne4, N4.trans (OnlyB.of_but (but_setCell W4 bx 0 _))⟩
  · rw [if_neg hc] at f2
    simp only [hc, if_false]
    have AD2 : Hid (∀ v W1, FO W1 B v (lay 0 A) → B ≤ W1.heap.size → Calls Try.prog 30 #[v, .agg (NC (ad 32 q) q.length), .int .i64 u] W1 fun e w' => ∃ v', e = .returned v' ∧ FO w' B v' (lay 0 (ins A q u)) ∧ Only v v' W1 w') := fun v W1 hO hB => add_any v _ q u B W1 hO hq f2 (by omega) hB
    clear f1 f2 hs hszi hp hq
    generalize lay 0 (ins A q u) = L2 at *
    generalize lay 0 A = L1 at *
    generalize ad 32 p = pa at *
    generalize ad 32 q = qa at *
    generalize p.length = pl at *
    generalize q.length = ql at *
    obtain ⟨sa, sc, hv⟩ := (FO.rd O1).form
    subst hv
    have c1 := G1.cell
    have c2 := G2.cell
    have c3 := G3.cell
    go_enter Try.func29, Try.ntmps29
    go_upto_region 3 with fail
    generalize hW3 : W.alloc (Obj.cells (NC qa ql) 27) = W3 at *
    clear hW3 c1 c2 c3
    have hB3 := hB1
    have K0 := Go0
    have K1 := G1
    have K2 := G2
    have N3 := N1
    have O3 := O1
    clear N1 G1 G2 Go0 O1
    have C2 := AD2.out _ W3 O3 hB3
    have c1 := K1.cell
    have c2 := K2.cell
    have c0 := K0.cell
    go_wp2_with fail
    refine C2.mono ?_
    rintro e W4 ⟨v4, rfl, O4, o4⟩
    have J2 := o4.blk K2 (fo_ne O3 h2)
    have N4 := N3.trans (OnlyB.of_only o4)
    clear C2 c1 c2 c0 AD2 K0 K1 K2 N3 o4
    obtain ⟨sa4, sc4, hv4⟩ := (FO.rd O4).form
    subst hv4
    have d2 := J2.cell 0
    have d3 := J2.free 0
    have ne4 := fo_ne O4 h2
    go_wp2_with fail
    go_end0
    exact ⟨rfl, _, J2.setCell 0 _, O4.setCell ne4, N4.trans (OnlyB.of_but (but_setCell W4 bx 0 _))⟩
/-- while rows are told to Put -/
def PInv (w0 : World) (bn bx bv B : Nat) (p : Pth) (val : Int) (rs : List Rw) (X : Nat → Prop) (k : Nat) (W : World) : Prop :=
  ∃ vn, Blk W bn (NC (ad 32 p) p.length) 27 ∧ Blk W bx #[vn] 22 ∧ Blk W bv #[.int .i64 val] 3 ∧ FO W B vn (lay 0 (acc p val rs k)) ∧
    (∀ b, X b → B ≤ b ∧ b < W.heap.size ∧ vn.ownBlock ≠ some b) ∧ Below w0.heap.size w0 W ∧ B ≤ W.heap.size
theorem put_tel {w0 : World} {bn bx bv B : Nat} {p : Pth} {val : Int} {t : T} {v : Value} (hr : Rd DK w0 v (lay 0 t)) (hf : Fine t) (hp : p.length ≤ 32) (h1 : bn < B) (h2 : bx < B) (h3 : bv < B) (n1 : bn ≠ bx) (n2 : bv ≠ bx) (hx0 : w0.heap.size ≤ bx) :
    Tel 29 #[.pointer (some ⟨bn, 0, none⟩), .pointer (some ⟨bx, 0, none⟩), .pointer (some ⟨bv, 0, none⟩)] v (lay 0 t) (rows t) (PInv w0 bn bx bv B p val (rows t)) where
  enters := enters_of Try.func29 (by kernel_rfl) rfl
  rd := fun X k W ⟨vn, _, _, _, _, _, hb, _⟩ => hr.below hb
  grow := fun X Y k W W' ⟨vn, F1, F2, F3, O, hX, hb, hB⟩ z hY => by
    refine ⟨vn, F1.below z F1.lt, F2.below z F2.lt, F3.below z F3.lt, O.kept z, fun b hb2 => ?_, hb.trans (z.mono hb.size), Nat.le_trans hB z.size⟩
    rcases hY b hb2 with h | ⟨h, h'⟩
    · obtain ⟨e1, e2, e3⟩ := hX b h
      exact ⟨e1, Nat.lt_of_lt_of_le e2 z.size, e3⟩
    · exact ⟨Nat.le_trans hB h, h', fun e => by have := fo_lt O _ e; omega⟩
  call := fun X k W q u hk ⟨vn, F1, F2, F3, O, hX, hb, hB⟩ => by
    have hkl := (List.getElem?_eq_some_iff.1 hk).1
    have hq : q.length ≤ 32 := hf.len (List.mem_of_getElem? hk)
    have hall : ∀ y ∈ (rows t).take k, y.1.length ≤ 32 := fun y hy => hf.len (List.mem_of_mem_take hy)
    have pin := acc_pin p val (rows t) k
    have hsz := acc_sz p val (rows t) hp (fun x hx => hf.len hx) k (Nat.le_of_lt hkl)
    have hrl := rows_le t
    have h5 := hf.s
    refine (put1_any bn bx bv B p q val u (acc p val (rows t) k) vn W F1 F2 F3 O h1 h2 h3 n1 hB hp hq (pin_p pin hp hall) (pin_x pin hp hall hq (sorted_take (rows_sorted t) hk)) (by omega)).mono ?_
    rintro e w' ⟨rfl, vn', K2, O', o⟩
    rw [← acc_step p val (rows t) k _ hk] at O'
    refine ⟨rfl, ⟨vn', o.blk F1 n1 (fo_ne O h1), K2, o.blk F3 n2 (fo_ne O h3), O', fun b hb2 => ?_, hb.trans (o.below (fun g hg => ?_) hx0 hb.size), Nat.le_trans hB o.size⟩, o.size, fun b hb2 hlt => ?_⟩
    · obtain ⟨e1, e2, e3⟩ := hX b hb2
      refine ⟨e1, Nat.lt_of_lt_of_le e2 o.size, fun e => ?_⟩
      rcases o.own b e with h | h
      · exact e3 h
      · omega
    · have := fo_ge O g hg; omega
    · obtain ⟨e1, e2, e3⟩ := hX b hb2
      exact o.block b hlt (by omega) e3
theorem tc_one (sa : Option Addr) (m c : Nat) : (TC (.slice sa m c)).all (·.oneCell') = true := by simp [Value.oneCell']
abbrev Z1 : Array Value := #[.slice none 0 0]
set_option maxHeartbeats 4000000 in
set_option maxRecDepth 20000 in
theorem put_no (v : Value) (ns : List Nd) (a : Nat) (l val : Int) (w : World) (h : Rd DK w v ns) (ha : a < 4294967296) (hno : ¬ (chk ns 2 4 = 0 ∧ isN a l = true)) :
    Calls Try.prog 9 #[.agg (TC v), .agg (NC a l), .int .i64 val] w fun e w' => e = .returned (.tuple #[.agg Z1, .int .i64 (if chk ns 2 4 = 0 then 1 else chk ns 2 4)]) ∧ Below w.heap.size w w' := by
  have b0 := ((((Below.refl w.heap.size w).alloc (Nat.le_refl _) (.cells (TC v) 24)).alloc (by simp) (.cells (NC a l) 27)).alloc (by simp; omega) (.cells #[.int .i64 val] 3)).alloc (by simp; omega) (.cells Z1 24)
  have G0 := (((Blk.new w (TC v) 24).alloc (.cells (NC a l) 27)).alloc (.cells #[.int .i64 val] 3)).alloc (.cells Z1 24)
  have G1 := ((Blk.newAt (w.alloc (.cells (TC v) 24)) (NC a l) 27 (b := w.heap.size + 1) (by simp)).alloc (.cells #[.int .i64 val] 3)).alloc (.cells Z1 24)
  have G2 := (Blk.newAt ((w.alloc (.cells (TC v) 24)).alloc (.cells (NC a l) 27)) #[.int .i64 val] 3 (b := w.heap.size + 2) (by simp)).alloc (.cells Z1 24)
  have G3 := Blk.newAt (((w.alloc (.cells (TC v) 24)).alloc (.cells (NC a l) 27)).alloc (.cells #[.int .i64 val] 3)) Z1 24 (b := w.heap.size + 3) (by simp)
  obtain ⟨V, HV⟩ : ∃ V, Hid ((((w.alloc (.cells (TC v) 24)).alloc (.cells (NC a l) 27)).alloc (.cells #[.int .i64 val] 3)).alloc (.cells Z1 24) = V) := ⟨_, rfl⟩
  rw [HV.out] at b0 G0 G1 G2 G3
  have CC := check_any v ns V (h.below b0)
  have c0 := G0.cell
  obtain ⟨sa, sc, rfl⟩ := h.form
  clear h
  by_cases hc : chk ns 2 4 = 0
  · have hn : isN a l = false := by
      cases e : isN a l
      · rfl
      · exact absurd ⟨hc, e⟩ hno
    rw [if_pos hc]
    rw [hc] at CC
    clear hno
    generalize ns.length = n at *
    go_enter Try.func9, Try.ntmps9
    go_upto_region 1 with fail
    rw [HV.out]
    go_wp2_with fail
    refine CC.mono ?_
    rintro e W2 ⟨rfl, z2⟩
    have b2 := b0.trans (z2.mono b0.size)
    have K0 := G0.below z2 G0.lt
    have K1 := G1.below z2 G1.lt
    have K2 := G2.below z2 G2.lt
    have K3 := G3.below z2 G3.lt
    clear CC c0 G0 G1 G2 G3 b0 z2
    have c1 := K1.cell
    have CN := isNet_any a l W2 ha
    rw [hn] at CN
    go_wp2_with fail
    refine CN.mono ?_
    rintro e W3 ⟨rfl, z3⟩
    have b3 := b2.trans (z3.mono b2.size)
    have J0 := K0.below z3 K0.lt
    have J1 := K1.below z3 K1.lt
    have J2 := K2.below z3 K2.lt
    have J3 := K3.below z3 K3.lt
    clear CN c1 K0 K1 K2 K3 b2 z3
    go_wp2_with (refine blk_store _ rfl 24 _ _ rfl (w.heap.size + 3) Z1 rfl rfl _ _ J3 1 tr_info rfl rfl (tc_one _ _ _) ?_; intro W4 K4 p4)
    exact blk_ret2 rfl rfl (w.heap.size + 3) Z1 24 rfl K4 _ Try.underlying24 rfl 1 tr_info rfl ⟨rfl, p4.below b3 (by omega)⟩
  · rw [if_neg hc]
    have hc' : (chk ns 2 4 != 0) = true := by simpa using hc
    clear hno hc
    generalize chk ns 2 4 = c at *
    generalize ns.length = n at *
    go_enter Try.func9, Try.ntmps9
    go_upto_region 1 with fail
    rw [HV.out]
    go_wp2_with fail
    refine CC.mono ?_
    rintro e W2 ⟨rfl, z2⟩
    have b2 := b0.trans (z2.mono b0.size)
    have K0 := G0.below z2 G0.lt
    have K1 := G1.below z2 G1.lt
    have K2 := G2.below z2 G2.lt
    have K3 := G3.below z2 G3.lt
    clear CC c0 G0 G1 G2 G3 b0 z2
    go_wp2_with (refine blk_store _ rfl 24 _ _ rfl (w.heap.size + 3) Z1 rfl rfl _ _ K3 1 tr_info rfl rfl (tc_one _ _ _) ?_; intro W4 K4 p4)
    exact blk_ret2 rfl rfl (w.heap.size + 3) Z1 24 rfl K4 _ Try.underlying24 rfl 1 tr_info rfl ⟨rfl, p4.below b2 (by omega)⟩
set_option maxHeartbeats 4000000 in
set_option maxRecDepth 20000 in
theorem put_yesF (v : Value) (t : T) (p : Pth) (val : Int) (w : World) (h : Rd DK w v (lay 0 t)) (hf : Fine t) (hp : p.length ≤ 32) :
    Calls Try.prog 9 #[.agg (TC v), .agg (NC (ad 32 p) p.length), .int .i64 val] w fun e w' => ∃ v', e = .returned (.tuple #[.agg (TC v'), .int .i64 (if 500 < sz (ins t p val) then 2 else 0)]) ∧ FO w' w.heap.size v' (if 500 < sz (ins t p val) then [] else lay 0 (ins t p val)) ∧ Below w.heap.size w w' := by
  obtain ⟨a, haa⟩ : ∃ a, a = ad 32 p := ⟨_, rfl⟩
  obtain ⟨l, hll⟩ : ∃ l : Int, l = p.length := ⟨_, rfl⟩
  have ha : a < 4294967296 := by rw [haa]; exact ad_lt 32 p
  have hn : isN a l = true := by rw [haa, hll]; exact (isN_path hp).1
  rw [← haa, ← hll]
  obtain ⟨ns, hns⟩ : ∃ ns, ns = lay 0 t := ⟨_, rfl⟩
  rw [← hns] at h
  have b0 := ((((Below.refl w.heap.size w).alloc (Nat.le_refl _) (.cells (TC v) 24)).alloc (by simp) (.cells (NC a l) 27)).alloc (by simp; omega) (.cells #[.int .i64 val] 3)).alloc (by simp; omega) (.cells Z1 24)
  have G0 := (((Blk.new w (TC v) 24).alloc (.cells (NC a l) 27)).alloc (.cells #[.int .i64 val] 3)).alloc (.cells Z1 24)
  have G1 := ((Blk.newAt (w.alloc (.cells (TC v) 24)) (NC a l) 27 (b := w.heap.size + 1) (by simp)).alloc (.cells #[.int .i64 val] 3)).alloc (.cells Z1 24)
  have G2 := (Blk.newAt ((w.alloc (.cells (TC v) 24)).alloc (.cells (NC a l) 27)) #[.int .i64 val] 3 (b := w.heap.size + 2) (by simp)).alloc (.cells Z1 24)
  have G3 := Blk.newAt (((w.alloc (.cells (TC v) 24)).alloc (.cells (NC a l) 27)).alloc (.cells #[.int .i64 val] 3)) Z1 24 (b := w.heap.size + 3) (by simp)
  obtain ⟨V, HV⟩ : ∃ V, Hid ((((w.alloc (.cells (TC v) 24)).alloc (.cells (NC a l) 27)).alloc (.cells #[.int .i64 val] 3)).alloc (.cells Z1 24) = V) := ⟨_, rfl⟩
  rw [HV.out] at b0 G0 G1 G2 G3
  have CC := check_any v ns V (h.below b0)
  have c0 := G0.cell
  have hc : chk ns 2 4 = 0 := by rw [hns]; exact rt_chk hf.rt 2 4
  rw [hc] at CC
  -- telling
  have HT : Hid (∀ W : World, Below w.heap.size w W → w.heap.size + 3 < W.heap.size → Blk W (w.heap.size + 1) (NC a l) 27 → Blk W (w.heap.size + 2) #[.int .i64 val] 3 →
      Calls Try.prog 28 #[.agg (TC v), .func (.func 29) #[] #[.pointer (some ⟨w.heap.size + 1, 0, none⟩), .pointer (some ⟨W.heap.size, 0, none⟩), .pointer (some ⟨w.heap.size + 2, 0, none⟩)]] (W.alloc (.cells #[.slice none 0 0] 22)) fun e w' => e = .returned (.tuple #[]) ∧
        ∃ vn, Blk w' W.heap.size #[vn] 22 ∧ FO w' (W.heap.size + 1) vn (lay 0 (acc p val (rows t) (rows t).length)) ∧ Below W.heap.size W w' ∧ W.heap.size + 1 ≤ w'.heap.size) := by
    intro W hb hlt F1 F2
    have z := (Below.refl W.heap.size W).alloc (Nat.le_refl _) (.cells #[.slice none 0 0] 22)
    have TL := put_tel (w0 := W) (bn := w.heap.size + 1) (bx := W.heap.size) (bv := w.heap.size + 2) (B := W.heap.size + 1) (p := p) (val := val) (t := t) (v := v) (by rw [← hns]; exact h.below hb) hf hp (by omega) (by omega) (by omega) (by omega) (by omega) (Nat.le_refl _)
    rw [haa, hll] at F1
    refine (each_any TL rfl hf.h (fun _ => False) (W.alloc (.cells #[.slice none 0 0] 22)) ⟨.slice none 0 0, F1.below z F1.lt, Blk.new _ _ _, F2.below z F2.lt, FO.nil _ _, fun _ hx => hx.elim, z, by simp⟩).mono ?_
    rintro e w' ⟨rfl, ⟨vn, _, K2, _, O, _, hb2, hB⟩, _⟩
    exact ⟨rfl, vn, K2, O, hb2, hB⟩
  have HA : Hid (∀ (vn : Value) (B : Nat) (W : World), FO W B vn (lay 0 (acc p val (rows t) (rows t).length)) → B ≤ W.heap.size → Calls Try.prog 30 #[vn, .agg (NC a l), .int .i64 val] W fun e w' => ∃ v', e = .returned v' ∧ FO w' B v' (lay 0 (ins t p val)) ∧ Only vn v' W w') := by
    intro vn B W hO hB
    have pin := acc_pin p val (rows t) (rows t).length
    have hsz := acc_sz p val (rows t) hp (fun x hx => hf.len hx) _ (Nat.le_refl _)
    have hrl := rows_le t
    have h5 := hf.s
    have := add_any vn _ p val B W hO hp (pin_p pin hp (fun y hy => hf.len (List.mem_of_mem_take hy))) (by omega) hB
    rw [acc_end hf.w] at this
    rw [haa, hll]
    exact this
  have hl5 : (lay 0 (ins t p val)).length = sz (ins t p val) := lay_length _ _
  have hsI := sz_ins t p val
  have hs5 := hf.s
  obtain ⟨sa, sc, rfl⟩ := h.form
  clear h hns hc hf haa hll
  generalize lay 0 (acc p val (rows t) (rows t).length) = LA at *
  generalize hL : lay 0 (ins t p val) = L at *
  generalize hN : sz (ins t p val) = N at *
  clear hL hN
  generalize ns.length = n at *
  have hv3 : w.heap.size + 3 < V.heap.size := G3.lt
  by_cases hN : 500 < N
  · rw [if_pos hN, if_pos hN]
    go_enter Try.func9, Try.ntmps9
    go_upto_region 1 with fail
    rw [HV.out]
    go_wp2_with fail
    refine CC.mono ?_
    rintro e W2 ⟨rfl, z2⟩
    have b2 := b0.trans (z2.mono b0.size)
    have K0 := G0.below z2 G0.lt
    have K1 := G1.below z2 G1.lt
    have K2 := G2.below z2 G2.lt
    have K3 := G3.below z2 G3.lt
    clear CC c0 G0 G1 G2 G3 b0 z2
    have c1 := K1.cell
    have CN := isNet_any a l W2 ha
    rw [hn] at CN
    go_wp2_with fail
    refine CN.mono ?_
    rintro e W3 ⟨rfl, z3⟩
    have b3 := b2.trans (z3.mono b2.size)
    have J0 := K0.below z3 K0.lt
    have J1 := K1.below z3 K1.lt
    have J2 := K2.below z3 K2.lt
    have J3 := K3.below z3 K3.lt
    clear CN c1 K0 K1 K2 K3 b2 z3
    have lt3 : w.heap.size + 3 < W3.heap.size := J3.lt
    have CE := HT.out W3 b3 lt3 J1 J2
    have zA := (Below.refl W3.heap.size W3).alloc (Nat.le_refl _) (.cells #[.slice none 0 0] 22)
    have c0 := (J0.below zA J0.lt).cell
    go_wp2_with fail
    refine CE.mono ?_
    rintro e W5 ⟨rfl, vn, Kx, O5, z5, hB5⟩
    have J1 := J1.below z5 J1.lt
    have J2 := J2.below z5 J2.lt
    have J3 := J3.below z5 J3.lt
    have b5 := b3.trans (z5.mono b3.size)
    clear CE c0 zA J0 b3 HT z5
    have CA := HA.out vn _ W5 O5 hB5
    have nvx := fo_ne O5 (show W3.heap.size < W3.heap.size + 1 by omega)
    have nv3 := fo_ne O5 (show w.heap.size + 3 < W3.heap.size + 1 by omega)
    have gvn : ∀ g, vn.ownBlock = some g → w.heap.size ≤ g := fun g hg => by have := fo_ge O5 g hg; omega
    obtain ⟨sa5, sc5, hv5⟩ := (FO.rd O5).form
    subst hv5
    have cx := Kx.cell
    have c1 := J1.cell
    have c2 := J2.cell
    go_wp2_with fail
    refine CA.mono ?_
    rintro e W6 ⟨v6, rfl, O6, o6⟩
    have Kx := o6.blk Kx nvx
    have J3 := o6.blk J3 nv3
    have b6 := b5.trans (o6.below gvn b5.size)
    clear CA cx c1 c2 J1 J2 b5 o6 O5 gvn nv3 nvx HA
    obtain ⟨sa7, sc7, hv6⟩ := (FO.rd O6).form
    rw [hl5] at hv6
    subst hv6
    have nv6 := fo_ne O6 (show W3.heap.size < W3.heap.size + 1 by omega)
    have d2 := Kx.cell 0
    have d3 := Kx.free 0
    go_upto_region 9 with fail
    have bu := but_setCell W6 W3.heap.size 0 (.slice sa7 N sc7)
    have O7 := O6.setCell (i := 0) (u := .slice sa7 N sc7) nv6
    have M3 := bu.blk J3 (by omega)
    have Mx : Blk (W6.setCell ⟨W3.heap.size, 0, none⟩ (.slice sa7 N sc7)) W3.heap.size #[.slice sa7 N sc7] 22 := Kx.setCell 0 _
    have b7 := bu.below b6 (by omega)
    generalize hW7 : W6.setCell ⟨W3.heap.size, 0, none⟩ (.slice sa7 N sc7) = W7 at *
    clear hW7 bu d2 d3 b6 O6 Kx J3
    have cx := Mx.cell
    go_wp2_with (refine blk_store _ rfl 24 _ _ rfl (w.heap.size + 3) Z1 rfl rfl _ _ M3 1 tr_info rfl rfl (tc_one _ _ _) ?_; intro W8 K8 p8)
    exact blk_ret2 rfl rfl (w.heap.size + 3) Z1 24 rfl K8 _ Try.underlying24 rfl 1 tr_info rfl ⟨_, rfl, FO.nil _ _, p8.below b7 (by omega)⟩
  · rw [if_neg hN, if_neg hN]
    go_enter Try.func9, Try.ntmps9
    go_upto_region 1 with fail
    rw [HV.out]
    go_wp2_with fail
    refine CC.mono ?_
    rintro e W2 ⟨rfl, z2⟩
    have b2 := b0.trans (z2.mono b0.size)
    have K0 := G0.below z2 G0.lt
    have K1 := G1.below z2 G1.lt
    have K2 := G2.below z2 G2.lt
    have K3 := G3.below z2 G3.lt
    clear CC c0 G0 G1 G2 G3 b0 z2
    have c1 := K1.cell
    have CN := isNet_any a l W2 ha
    rw [hn] at CN
    go_wp2_with fail
    refine CN.mono ?_
    rintro e W3 ⟨rfl, z3⟩
    have b3 := b2.trans (z3.mono b2.size)
    have J0 := K0.below z3 K0.lt
    have J1 := K1.below z3 K1.lt
    have J2 := K2.below z3 K2.lt
    have J3 := K3.below z3 K3.lt
    clear CN c1 K0 K1 K2 K3 b2 z3
    have lt3 : w.heap.size + 3 < W3.heap.size := J3.lt
    have CE := HT.out W3 b3 lt3 J1 J2
    have zA := (Below.refl W3.heap.size W3).alloc (Nat.le_refl _) (.cells #[.slice none 0 0] 22)
    have c0 := (J0.below zA J0.lt).cell
    go_wp2_with fail
    refine CE.mono ?_
    rintro e W5 ⟨rfl, vn, Kx, O5, z5, hB5⟩
    have J1 := J1.below z5 J1.lt
    have J2 := J2.below z5 J2.lt
    have J3 := J3.below z5 J3.lt
    have b5 := b3.trans (z5.mono b3.size)
    clear CE c0 zA J0 b3 HT z5
    have CA := HA.out vn _ W5 O5 hB5
    have nvx := fo_ne O5 (show W3.heap.size < W3.heap.size + 1 by omega)
    have nv3 := fo_ne O5 (show w.heap.size + 3 < W3.heap.size + 1 by omega)
    have gvn : ∀ g, vn.ownBlock = some g → w.heap.size ≤ g := fun g hg => by have := fo_ge O5 g hg; omega
    obtain ⟨sa5, sc5, hv5⟩ := (FO.rd O5).form
    subst hv5
    have cx := Kx.cell
    have c1 := J1.cell
    have c2 := J2.cell
    go_wp2_with fail
    refine CA.mono ?_
    rintro e W6 ⟨v6, rfl, O6, o6⟩
    have Kx := o6.blk Kx nvx
    have J3 := o6.blk J3 nv3
    have b6 := b5.trans (o6.below gvn b5.size)
    clear CA cx c1 c2 J1 J2 b5 o6 O5 gvn nv3 nvx HA
    obtain ⟨sa7, sc7, hv6⟩ := (FO.rd O6).form
    rw [hl5] at hv6
    subst hv6
    have nv6 := fo_ne O6 (show W3.heap.size < W3.heap.size + 1 by omega)
    have d2 := Kx.cell 0
    have d3 := Kx.free 0
    go_upto_region 9 with fail
    have bu := but_setCell W6 W3.heap.size 0 (.slice sa7 N sc7)
    have O7 := O6.setCell (i := 0) (u := .slice sa7 N sc7) nv6
    have M3 := bu.blk J3 (by omega)
    have Mx : Blk (W6.setCell ⟨W3.heap.size, 0, none⟩ (.slice sa7 N sc7)) W3.heap.size #[.slice sa7 N sc7] 22 := Kx.setCell 0 _
    have b7 := bu.below b6 (by omega)
    generalize hW7 : W6.setCell ⟨W3.heap.size, 0, none⟩ (.slice sa7 N sc7) = W7 at *
    clear hW7 bu d2 d3 b6 O6 Kx J3
    have cx := Mx.cell
    go_wp2_with (refine blk_store _ rfl 24 _ _ rfl (w.heap.size + 3) (TC (.slice sa7 N sc7)) rfl rfl _ _ M3 1 tr_info rfl rfl (tc_one _ _ _) ?_; intro W8 K8 p8)
    exact blk_ret2 rfl rfl (w.heap.size + 3) (TC (.slice sa7 N sc7)) 24 rfl K8 _ Try.underlying24 rfl 1 tr_info rfl ⟨_, rfl, (O7.but p8 (fo_ne O7 (by omega))).mono (by omega), p8.below b7 (by omega)⟩
theorem put_yes (v : Value) (t : T) (p : Pth) (val : Int) (w : World) (h : Rd DK w v (lay 0 t)) (hf : Fine t) (hp : p.length ≤ 32) :
    Calls Try.prog 9 #[.agg (TC v), .agg (NC (ad 32 p) p.length), .int .i64 val] w fun e w' => ∃ v', e = .returned (.tuple #[.agg (TC v'), .int .i64 (if 500 < sz (ins t p val) then 2 else 0)]) ∧ Own DK w' w.heap.size v' (if 500 < sz (ins t p val) then [] else lay 0 (ins t p val)) ∧ Below w.heap.size w w' := by
  refine (put_yesF v t p val w h hf hp).mono ?_
  rintro e w' ⟨v', h1, O, b⟩
  exact ⟨v', h1, O.1, b⟩
end Go.Proofs.Ytiddpkppfpdfhaa.pf
