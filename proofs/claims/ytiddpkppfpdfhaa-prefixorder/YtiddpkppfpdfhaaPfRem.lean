/- prefix.Remove: what it answers. -/
import Derived.Test.YtiddpkppfpdfhaaPfPut
namespace Go.Proofs.Ytiddpkppfpdfhaa.pf
open Go.ChangeShapes Go.WideShapes Go.ChangeAt Go.RowKit Go.BigFrame
open Go.Proofs.Ytiddpkppfpdfhaa Go.Proofs.Ytiddpkppfpdfhaa.pm Go.Proofs.Ytiddpkppfpdfhaa.boxes Go.Proofs.Ytiddpkppfpdfhaa.rwr Go.Proofs.Ytiddpkppfpdfhaa.rwat
open Go.Proofs.Ytiddpkppfpdfhaa.rws (Knd Own)

/-- of what there was just these boxes and the row's own block may have turned -/
structure OnlyP (S : Nat → Prop) (v v' : Value) (w w' : World) : Prop where
  os : w'.os = w.os
  tape : w'.tape = w.tape
  output : w'.output = w.output
  size : w.heap.size ≤ w'.heap.size
  block : ∀ b, b < w.heap.size → ¬ S b → v.ownBlock ≠ some b → w'.heap[b]? = w.heap[b]?
  own : ∀ g, v'.ownBlock = some g → v.ownBlock = some g ∨ w.heap.size ≤ g
theorem OnlyP.of_only {S : Nat → Prop} {v v' : Value} {w w' : World} (h : Only v v' w w') : OnlyP S v v' w w' := ⟨h.1.os, h.1.tape, h.1.output, h.1.size, fun b hb _ hne => h.1.block b hb fun e => hne e.symm, h.2⟩
theorem OnlyP.of_but {S : Nat → Prop} {bx : Nat} {v : Value} {w w' : World} (h : But bx w w') (hs : S bx) : OnlyP S v v w w' := ⟨h.os, h.tape, h.output, by rw [h.size]; exact Nat.le_refl _, fun b _ hne _ => h.block b fun e => hne (by rw [e]; exact hs), fun _ hg => Or.inl hg⟩
theorem OnlyP.trans {S : Nat → Prop} {v v1 v2 : Value} {w w1 w2 : World} (h : OnlyP S v v1 w w1) (k : OnlyP S v1 v2 w1 w2) : OnlyP S v v2 w w2 := by
  refine ⟨k.os.trans h.os, k.tape.trans h.tape, k.output.trans h.output, Nat.le_trans h.size k.size, fun b hb hx hne => ?_, fun g hg => ?_⟩
  · refine (k.block b (Nat.lt_of_lt_of_le hb h.size) hx fun e => ?_).trans (h.block b hb hx hne)
    rcases h.own b e with e2 | e2
    · exact hne e2
    · omega
  · rcases k.own g hg with e | e
    · exact h.own g e
    · exact Or.inr (Nat.le_trans h.size e)
theorem OnlyP.blk {S : Nat → Prop} {v v' : Value} {w w' : World} (h : OnlyP S v v' w w') {b : Nat} {F : Array Value} {t : TypeId} (k : Blk w b F t) (hx : ¬ S b) (hne : v.ownBlock ≠ some b) : Blk w' b F t := (h.block b k.lt hx hne).trans k
theorem OnlyP.below {S : Nat → Prop} {v v' : Value} {w w' : World} (h : OnlyP S v v' w w') {B : Nat} (hv : ∀ g, v.ownBlock = some g → B ≤ g) (hx : ∀ b, S b → B ≤ b) (hB : B ≤ w.heap.size) : Below B w w' :=
  ⟨h.os, h.tape, h.output, h.size, fun k hk => h.block k (Nat.lt_of_lt_of_le hk hB) (fun hs => by have := hx k hs; omega) fun e => by have := hv k e; omega⟩
/-- what is told, once a net was met -/
def eV (b : Bool) : Int := if b then 0 else 7
set_option maxHeartbeats 4000000 in
set_option maxRecDepth 20000 in
theorem rem1_any (bn be bx B : Nat) (a : Nat) (l : Int) (q : Pth) (u : Int) (A : T) (hit : Bool) (vn : Value) (W : World) (F1 : Blk W bn (NC a l) 27) (F2 : Blk W bx #[vn] 22) (F3 : Blk W be #[.int .i64 (eV hit)] 28)
    (O : FO W B vn (lay 0 A)) (h2 : bx < B) (h3 : be < B) (n3 : be ≠ bx) (hB : B ≤ W.heap.size) (hq : q.length ≤ 32) (f : has A q ∨ last A q) (hs : sz A ≤ 900000) :
    Calls Try.prog 36 #[.agg (NC (ad 32 q) q.length), .int .i64 u, .pointer (some ⟨bn, 0, none⟩), .pointer (some ⟨be, 0, none⟩), .pointer (some ⟨bx, 0, none⟩)] W fun e w' => e = .returned (.tuple #[]) ∧
      ∃ vn', Blk w' bx #[vn'] 22 ∧ Blk w' be #[.int .i64 (eV (hit || same a l q))] 28 ∧ FO w' B vn' (lay 0 (if same a l q then A else ins A q u)) ∧ OnlyP (fun b => b = bx ∨ b = be) vn vn' W w' := by
  have bo := (Below.refl W.heap.size W).alloc (Nat.le_refl _) (.cells (NC (ad 32 q) q.length) 27)
  have Go0 := Blk.new W (NC (ad 32 q) q.length) 27
  have G1 := F1.alloc (.cells (NC (ad 32 q) q.length) 27)
  have G2 := F2.alloc (.cells (NC (ad 32 q) q.length) 27)
  have G3 := F3.alloc (.cells (NC (ad 32 q) q.length) 27)
  have O1 := O.alloc (.cells (NC (ad 32 q) q.length) 27)
  have N1 : OnlyP (fun b => b = bx ∨ b = be) vn vn W (W.alloc (.cells (NC (ad 32 q) q.length) 27)) := OnlyP.of_only (Only.of_below bo)
  have hB1 : B ≤ (W.alloc (.cells (NC (ad 32 q) q.length) 27)).heap.size := by simp; omega
  clear F1 F2 F3 O bo
  have c1 := G1.cell
  have c2 := G2.cell
  have c3 := G3.cell
  by_cases hc : same a l q = true
  · rw [hc, Bool.or_true]
    simp only [if_true]
    simp only [same, Bool.and_eq_true, decide_eq_true_eq] at hc
    obtain ⟨hc1, hc2⟩ := hc
    clear f hs hq
    generalize lay 0 A = L1 at *
    subst hc1
    subst hc2
    generalize ad 32 q = qa at *
    generalize q.length = ql at *
    have f3 := G3.free 0
    go_enter Try.func36, Try.ntmps36
    go_wp2_with fail
    refine bodyPost_ret (results_none rfl _ _ _) rfl ?_
    have bu := but_setCell (W.alloc (.cells (NC qa ql) 27)) be 0 (.int .i64 0)
    exact ⟨rfl, vn, bu.blk G2 (fun e => n3 e.symm), G3.setCell 0 _, O1.setCell (fo_ne O1 h3), N1.trans (OnlyP.of_but bu (Or.inr rfl))⟩
  · have hc' : same a l q = false := by simpa using hc
    rw [hc', Bool.or_false]
    simp only [Bool.false_eq_true, if_false]
    have hne : ¬ (ad 32 q = a ∧ (q.length : Int) = l) := by simpa [same] using hc
    have AD : Hid (∀ v W1, FO W1 B v (lay 0 A) → B ≤ W1.heap.size → Calls Try.prog 30 #[v, .agg (NC (ad 32 q) q.length), .int .i64 u] W1 fun e w' => ∃ v', e = .returned v' ∧ FO w' B v' (lay 0 (ins A q u)) ∧ Only v v' W1 w') := fun v W1 hO hB => add_any v A q u B W1 hO hq f (by omega) hB
    by_cases e1 : ad 32 q = a
    · subst e1
      have e2 : ¬ (q.length : Int) = l := fun e => hne ⟨rfl, e⟩
      clear hne
      clear f hs hq hc hc'
      generalize lay 0 (ins A q u) = L2 at *
      generalize lay 0 A = L1 at *
      generalize ad 32 q = qa at *
      generalize q.length = ql at *
      obtain ⟨sa, sc, hv⟩ := (FO.rd O1).form
      subst hv
      go_enter Try.func36, Try.ntmps36
      go_upto_region 3 with fail
      generalize hW3 : W.alloc (Obj.cells (NC qa ql) 27) = W3 at *
      clear hW3 c1 c2 c3
      have c2 := G2.cell
      have C2 := AD.out _ W3 O1 hB1
      have c0 := Go0.cell
      go_wp2_with fail
      refine C2.mono ?_
      rintro e W4 ⟨v4, rfl, O4, o4⟩
      have J2 := o4.blk G2 (fo_ne O1 h2)
      have J3 := o4.blk G3 (fo_ne O1 h3)
      have N4 := N1.trans (OnlyP.of_only o4)
      clear C2 c0 c2 AD G1 G2 G3 Go0 N1 o4
      obtain ⟨sa4, sc4, hv4⟩ := (FO.rd O4).form
      subst hv4
      have d2 := J2.cell 0
      have d3 := J2.free 0
      have ne4 := fo_ne O4 h2
      go_wp2_with fail
      go_end0
      have bu := but_setCell W4 bx 0 (.slice sa4 L2.length sc4)
      exact ⟨rfl, _, J2.setCell 0 _, bu.blk J3 n3, O4.setCell ne4, N4.trans (OnlyP.of_but bu (Or.inl rfl))⟩
    · clear hne
      clear f hs hq hc hc'
      generalize lay 0 (ins A q u) = L2 at *
      generalize lay 0 A = L1 at *
      generalize ad 32 q = qa at *
      generalize q.length = ql at *
      obtain ⟨sa, sc, hv⟩ := (FO.rd O1).form
      subst hv
      go_enter Try.func36, Try.ntmps36
      go_upto_region 3 with fail
      generalize hW3 : W.alloc (Obj.cells (NC qa ql) 27) = W3 at *
      clear hW3 c1 c2 c3
      have c2 := G2.cell
      have C2 := AD.out _ W3 O1 hB1
      have c0 := Go0.cell
      go_wp2_with fail
      refine C2.mono ?_
      rintro e W4 ⟨v4, rfl, O4, o4⟩
      have J2 := o4.blk G2 (fo_ne O1 h2)
      have J3 := o4.blk G3 (fo_ne O1 h3)
      have N4 := N1.trans (OnlyP.of_only o4)
      clear C2 c0 c2 AD G1 G2 G3 Go0 N1 o4
      obtain ⟨sa4, sc4, hv4⟩ := (FO.rd O4).form
      subst hv4
      have d2 := J2.cell 0
      have d3 := J2.free 0
      have ne4 := fo_ne O4 h2
      go_wp2_with fail
      go_end0
      have bu := but_setCell W4 bx 0 (.slice sa4 L2.length sc4)
      exact ⟨rfl, _, J2.setCell 0 _, bu.blk J3 n3, O4.setCell ne4, N4.trans (OnlyP.of_but bu (Or.inl rfl))⟩
/-- while rows are told to Remove -/
def RInv (w0 : World) (bn be bx B : Nat) (a : Nat) (l : Int) (rs : List Rw) (X : Nat → Prop) (k : Nat) (W : World) : Prop :=
  ∃ vn, Blk W bn (NC a l) 27 ∧ Blk W bx #[vn] 22 ∧ Blk W be #[.int .i64 (eV ((rs.take k).any fun x => same a l x.1))] 28 ∧ FO W B vn (lay 0 (ofR ((rs.take k).filter fun x => !same a l x.1))) ∧
    (∀ b, X b → B ≤ b ∧ b < W.heap.size ∧ vn.ownBlock ≠ some b) ∧ Below w0.heap.size w0 W ∧ B ≤ W.heap.size
theorem rem_tel {w0 : World} {bn be bx B : Nat} {a : Nat} {l : Int} {t : T} {v : Value} (hr : Rd DK w0 v (lay 0 t)) (hf : Fine t) (h1 : bn < B) (h2 : bx < B) (h3 : be < B) (n1 : bn ≠ bx) (n2 : bn ≠ be) (n3 : be ≠ bx) (hx0 : w0.heap.size ≤ bx) (hx1 : w0.heap.size ≤ be) :
    Tel 36 #[.pointer (some ⟨bn, 0, none⟩), .pointer (some ⟨be, 0, none⟩), .pointer (some ⟨bx, 0, none⟩)] v (lay 0 t) (rows t) (RInv w0 bn be bx B a l (rows t)) where
  enters := enters_of Try.func36 (by kernel_rfl) rfl
  rd := fun X k W ⟨vn, _, _, _, _, _, hb, _⟩ => hr.below hb
  grow := fun X Y k W W' ⟨vn, F1, F2, F3, O, hX, hb, hB⟩ z hY => by
    refine ⟨vn, F1.below z F1.lt, F2.below z F2.lt, F3.below z F3.lt, O.kept z, fun b hb2 => ?_, hb.trans (z.mono hb.size), Nat.le_trans hB z.size⟩
    rcases hY b hb2 with h | ⟨h, h'⟩
    · obtain ⟨e1, e2, e3⟩ := hX b h
      exact ⟨e1, Nat.lt_of_lt_of_le e2 z.size, e3⟩
    · exact ⟨Nat.le_trans hB h, h', fun e => by have := fo_lt O _ e; omega⟩
  call := fun X k W q u hk ⟨vn, F1, F2, F3, O, hX, hb, hB⟩ => by
    have hkl := (List.getElem?_eq_some_iff.1 hk).1
    have hq : q.length ≤ 32 := hf.len (List.mem_of_getElem? hk)
    have hall : ∀ y ∈ ((rows t).take k).filter (fun x => !same a l x.1), y.1.length ≤ 32 := fun y hy => hf.len (List.mem_of_mem_take (List.mem_filter.1 hy).1)
    have hsz := sz_ofR _ hall
    have hlen : (((rows t).take k).filter (fun x => !same a l x.1)).length ≤ k := Nat.le_trans (List.length_filter_le _ _) (List.length_take_le _ _)
    have hrl := rows_le t
    have h5 := hf.s
    have hfit := fit_r (d := ((rows t).take k).filter (fun x => !same a l x.1)) (x := (q, u)) (fun y hy => sorted_take (rows_sorted t) hk y (List.mem_filter.1 hy).1)
    refine (rem1_any bn be bx B a l q u _ _ vn W F1 F2 F3 O h2 h3 n3 hB hq hfit (by omega)).mono ?_
    rintro e w' ⟨rfl, vn', K2, K3, O', o⟩
    have e1 : (rows t).take (k + 1) = (rows t).take k ++ [(q, u)] := take_succ _ k _ hk
    have e2 : ((rows t).take (k + 1)).any (fun x => same a l x.1) = (((rows t).take k).any (fun x => same a l x.1) || same a l q) := by rw [e1, List.any_append]; simp
    have e3 : ofR (((rows t).take (k + 1)).filter (fun x => !same a l x.1)) = if same a l q = true then ofR (((rows t).take k).filter (fun x => !same a l x.1)) else ins (ofR (((rows t).take k).filter (fun x => !same a l x.1))) q u := by
      rw [e1, List.filter_append]
      by_cases hs : same a l q = true
      · simp [hs]
      · have hs' : same a l q = false := by simpa using hs
        simp [hs', ofR_snoc]
    refine ⟨rfl, ⟨vn', o.blk F1 (fun h => by rcases h with h | h; exact n1 h; exact n2 h) (fo_ne O h1), K2, by rw [e2]; exact K3, by rw [e3]; exact O', fun b hb2 => ?_, hb.trans (o.below (fun g hg => ?_) (fun b hb => by rcases hb with h | h <;> omega) hb.size), Nat.le_trans hB o.size⟩, o.size, fun b hb2 hlt => ?_⟩
    · obtain ⟨e1, e2, e3⟩ := hX b hb2
      refine ⟨e1, Nat.lt_of_lt_of_le e2 o.size, fun e => ?_⟩
      rcases o.own b e with h | h
      · exact e3 h
      · omega
    · have := fo_ge O g hg; omega
    · obtain ⟨e1, e2, e3⟩ := hX b hb2
      exact o.block b hlt (fun h => by rcases h with h | h <;> omega) e3
set_option maxHeartbeats 4000000 in
set_option maxRecDepth 20000 in
theorem rem_no (v : Value) (ns : List Nd) (a : Nat) (l : Int) (w : World) (h : Rd DK w v ns) (hc : ¬ chk ns 2 4 = 0) :
    Calls Try.prog 11 #[.agg (TC v), .agg (NC a l)] w fun e w' => e = .returned (.tuple #[.agg Z1, .int .i64 (chk ns 2 4)]) ∧ Below w.heap.size w w' := by
  have b0 := (((Below.refl w.heap.size w).alloc (Nat.le_refl _) (.cells (TC v) 24)).alloc (by simp) (.cells (NC a l) 27)).alloc (by simp; omega) (.cells Z1 24)
  have G0 := ((Blk.new w (TC v) 24).alloc (.cells (NC a l) 27)).alloc (.cells Z1 24)
  have G1 := (Blk.newAt (w.alloc (.cells (TC v) 24)) (NC a l) 27 (b := w.heap.size + 1) (by simp)).alloc (.cells Z1 24)
  have G3 := Blk.newAt ((w.alloc (.cells (TC v) 24)).alloc (.cells (NC a l) 27)) Z1 24 (b := w.heap.size + 2) (by simp)
  obtain ⟨V, HV⟩ : ∃ V, Hid (((w.alloc (.cells (TC v) 24)).alloc (.cells (NC a l) 27)).alloc (.cells Z1 24) = V) := ⟨_, rfl⟩
  rw [HV.out] at b0 G0 G1 G3
  have CC := check_any v ns V (h.below b0)
  have c0 := G0.cell
  obtain ⟨sa, sc, rfl⟩ := h.form
  clear h
  · have hc' : (chk ns 2 4 != 0) = true := by simpa using hc
    clear hc
    generalize chk ns 2 4 = c at *
    generalize ns.length = n at *
    go_enter Try.func11, Try.ntmps11
    go_upto_region 1 with fail
    rw [HV.out]
    go_wp2_with fail
    refine CC.mono ?_
    rintro e W3 ⟨rfl, z2⟩
    have b3 := b0.trans (z2.mono b0.size)
    have J0 := G0.below z2 G0.lt
    have J1 := G1.below z2 G1.lt
    have J3 := G3.below z2 G3.lt
    clear CC c0 G0 G1 G3 b0 z2
    go_wp2_with (refine blk_store _ rfl 24 _ _ rfl (w.heap.size + 2) Z1 rfl rfl _ _ J3 1 tr_info rfl rfl (tc_one _ _ _) ?_; intro W4 K4 p4)
    exact blk_ret2 rfl rfl (w.heap.size + 2) Z1 24 rfl K4 _ Try.underlying24 rfl 1 tr_info rfl ⟨rfl, p4.below b3 (by omega)⟩
set_option maxHeartbeats 4000000 in
set_option maxRecDepth 20000 in
theorem rem_yes (v : Value) (t : T) (a : Nat) (l : Int) (w : World) (h : Rd DK w v (lay 0 t)) (hf : Fine t) :
    Calls Try.prog 11 #[.agg (TC v), .agg (NC a l)] w fun e w' => ∃ v', e = .returned (.tuple #[.agg (TC v'), .int .i64 (eV ((rows t).any fun x => same a l x.1))]) ∧ FO w' w.heap.size v' (if (rows t).any (fun x => same a l x.1) then lay 0 (rmv t a l) else []) ∧ Below w.heap.size w w' := by
  obtain ⟨ns, hns⟩ : ∃ ns, ns = lay 0 t := ⟨_, rfl⟩
  rw [← hns] at h
  have b0 := (((Below.refl w.heap.size w).alloc (Nat.le_refl _) (.cells (TC v) 24)).alloc (by simp) (.cells (NC a l) 27)).alloc (by simp; omega) (.cells Z1 24)
  have G0 := ((Blk.new w (TC v) 24).alloc (.cells (NC a l) 27)).alloc (.cells Z1 24)
  have G1 := (Blk.newAt (w.alloc (.cells (TC v) 24)) (NC a l) 27 (b := w.heap.size + 1) (by simp)).alloc (.cells Z1 24)
  have G3 := Blk.newAt ((w.alloc (.cells (TC v) 24)).alloc (.cells (NC a l) 27)) Z1 24 (b := w.heap.size + 2) (by simp)
  obtain ⟨V, HV⟩ : ∃ V, Hid (((w.alloc (.cells (TC v) 24)).alloc (.cells (NC a l) 27)).alloc (.cells Z1 24) = V) := ⟨_, rfl⟩
  rw [HV.out] at b0 G0 G1 G3
  have CC := check_any v ns V (h.below b0)
  have c0 := G0.cell
  have hc : chk ns 2 4 = 0 := by rw [hns]; exact rt_chk hf.rt 2 4
  rw [hc] at CC
  have HT : Hid (∀ W : World, Below w.heap.size w W → w.heap.size + 2 < W.heap.size → Blk W (w.heap.size + 1) (NC a l) 27 → ∀ W1, Below W.heap.size W W1 → Blk W1 W.heap.size #[.slice none 0 0] 22 → Blk W1 (W.heap.size + 1) #[.int .i64 7] 28 →
      Calls Try.prog 28 #[.agg (TC v), .func (.func 36) #[] #[.pointer (some ⟨w.heap.size + 1, 0, none⟩), .pointer (some ⟨W.heap.size + 1, 0, none⟩), .pointer (some ⟨W.heap.size, 0, none⟩)]] W1 fun e w' => e = .returned (.tuple #[]) ∧
        ∃ vn, Blk w' W.heap.size #[vn] 22 ∧ Blk w' (W.heap.size + 1) #[.int .i64 (eV ((rows t).any fun x => same a l x.1))] 28 ∧ FO w' (W.heap.size + 2) vn (lay 0 (rmv t a l)) ∧ Below W.heap.size W w' ∧ W.heap.size + 2 ≤ w'.heap.size) := by
    intro W hb hlt F1 W1 z F2 F3
    have TL := rem_tel (w0 := W) (bn := w.heap.size + 1) (bx := W.heap.size) (be := W.heap.size + 1) (B := W.heap.size + 2) (a := a) (l := l) (t := t) (v := v) (by rw [← hns]; exact h.below hb) hf (by omega) (by omega) (by omega) (by omega) (by omega) (by omega) (Nat.le_refl _) (by omega)
    refine (each_any TL rfl hf.h (fun _ => False) W1 ⟨.slice none 0 0, F1.below z F1.lt, F2, F3, FO.nil _ _, fun _ hx => hx.elim, z, F3.lt⟩).mono ?_
    rintro e w' ⟨rfl, ⟨vn, _, K2, K3, O, _, hb2, hB⟩, _⟩
    rw [List.take_length] at K3 O
    exact ⟨rfl, vn, K2, K3, O, hb2, hB⟩
  have hlR : (lay 0 (rmv t a l)).length ≤ 1000000 := by
    rw [lay_length]
    have := sz_ofR (k := 32) ((rows t).filter fun x => !same a l x.1) (fun y hy => hf.len (List.mem_filter.1 hy).1)
    have h2 := List.length_filter_le (fun x : Rw => !same a l x.1) (rows t)
    have h3 := rows_le t
    have h4 := hf.s
    unfold rmv
    omega
  obtain ⟨sa, sc, rfl⟩ := h.form
  clear h hns hc hf
  generalize lay 0 (rmv t a l) = L at *
  generalize (rows t).any (fun x => same a l x.1) = hit at *
  generalize ns.length = n at *
  have hv3 : w.heap.size + 2 < V.heap.size := G3.lt
  cases hit
  · simp only [Bool.false_eq_true, if_false]
    go_enter Try.func11, Try.ntmps11
    go_upto_region 1 with fail
    rw [HV.out]
    go_wp2_with fail
    refine CC.mono ?_
    rintro e W3 ⟨rfl, z2⟩
    have b3 := b0.trans (z2.mono b0.size)
    have J0 := G0.below z2 G0.lt
    have J1 := G1.below z2 G1.lt
    have J3 := G3.below z2 G3.lt
    clear CC c0 G0 G1 G3 b0 z2
    have lt3 : w.heap.size + 2 < W3.heap.size := J3.lt
    have CE := HT.out W3 b3 lt3 J1
    have zA := ((Below.refl W3.heap.size W3).alloc (Nat.le_refl _) (.cells #[.slice none 0 0] 22)).alloc (by simp) (.cells #[.int .i64 7] 28)
    have A1 := (Blk.new W3 #[.slice none 0 0] 22).alloc (.cells #[.int .i64 7] 28)
    have A2 := Blk.newAt (W3.alloc (.cells #[.slice none 0 0] 22)) #[.int .i64 7] 28 (b := W3.heap.size + 1) (by simp)
    go_upto_region 6 with fail
    generalize hW4 : (W3.alloc (.cells #[.slice none 0 0] 22)).alloc (.cells #[.int .i64 7] 28) = W4 at *
    clear hW4
    have CE := CE W4 zA A1 A2
    have c0 := (J0.below zA J0.lt).cell
    go_wp2_with fail
    refine CE.mono ?_
    rintro e W5 ⟨rfl, vn, Kx, Ke, O5, z5, hB5⟩
    have J3 := J3.below z5 J3.lt
    have b5 := b3.trans (z5.mono b3.size)
    clear CE c0 zA J0 J1 b3 HT z5 A1 A2
    have nvx := fo_ne O5 (show W3.heap.size < W3.heap.size + 2 by omega)
    have nv3 := fo_ne O5 (show w.heap.size + 2 < W3.heap.size + 2 by omega)
    obtain ⟨sa5, sc5, hv5⟩ := (FO.rd O5).form
    subst hv5
    have cx := Kx.cell
    have e7 : eV false = 7 := rfl
    rw [e7] at Ke
    have ce := Ke.cell
    have cr := J3.cell
    have fr := J3.free
    have K8 : Blk (W5.setCell ⟨w.heap.size + 2, 0, none⟩ (.slice none 0 0)).drew (w.heap.size + 2) Z1 24 := (J3.setCell 0 (.slice none 0 0)).drew
    have d8 : Below w.heap.size w (W5.setCell ⟨w.heap.size + 2, 0, none⟩ (.slice none 0 0)).drew := ((but_setCell _ _ _ _).below b5 (by omega)).trans ((ab.Ab.drew _).mono (by have := b5.size; simp; omega))
    go_upto_region 8 with fail
    go_region
    all_goals go_wp2_with fail
    all_goals exact blk_ret2 rfl rfl (w.heap.size + 2) Z1 24 rfl K8 _ Try.underlying24 rfl 1 tr_info rfl ⟨_, rfl, FO.nil _ _, d8⟩
  · simp only [if_true]
    go_enter Try.func11, Try.ntmps11
    go_upto_region 1 with fail
    rw [HV.out]
    go_wp2_with fail
    refine CC.mono ?_
    rintro e W3 ⟨rfl, z2⟩
    have b3 := b0.trans (z2.mono b0.size)
    have J0 := G0.below z2 G0.lt
    have J1 := G1.below z2 G1.lt
    have J3 := G3.below z2 G3.lt
    clear CC c0 G0 G1 G3 b0 z2
    have lt3 : w.heap.size + 2 < W3.heap.size := J3.lt
    have CE := HT.out W3 b3 lt3 J1
    have zA := ((Below.refl W3.heap.size W3).alloc (Nat.le_refl _) (.cells #[.slice none 0 0] 22)).alloc (by simp) (.cells #[.int .i64 7] 28)
    have A1 := (Blk.new W3 #[.slice none 0 0] 22).alloc (.cells #[.int .i64 7] 28)
    have A2 := Blk.newAt (W3.alloc (.cells #[.slice none 0 0] 22)) #[.int .i64 7] 28 (b := W3.heap.size + 1) (by simp)
    go_upto_region 6 with fail
    generalize hW4 : (W3.alloc (.cells #[.slice none 0 0] 22)).alloc (.cells #[.int .i64 7] 28) = W4 at *
    clear hW4
    have CE := CE W4 zA A1 A2
    have c0 := (J0.below zA J0.lt).cell
    go_wp2_with fail
    refine CE.mono ?_
    rintro e W5 ⟨rfl, vn, Kx, Ke, O5, z5, hB5⟩
    have J3 := J3.below z5 J3.lt
    have b5 := b3.trans (z5.mono b3.size)
    clear CE c0 zA J0 J1 b3 HT z5 A1 A2
    have nvx := fo_ne O5 (show W3.heap.size < W3.heap.size + 2 by omega)
    have nv3 := fo_ne O5 (show w.heap.size + 2 < W3.heap.size + 2 by omega)
    obtain ⟨sa5, sc5, hv5⟩ := (FO.rd O5).form
    subst hv5
    have cx := Kx.cell
    have e7 : eV true = 0 := rfl
    rw [e7] at Ke
    have ce := Ke.cell
    go_wp2_with (refine blk_store _ rfl 24 _ _ rfl (w.heap.size + 2) (TC (.slice sa5 L.length sc5)) rfl rfl _ _ J3 1 tr_info rfl rfl (tc_one _ _ _) ?_; intro W8 K8 p8)
    exact blk_ret2 rfl rfl (w.heap.size + 2) (TC (.slice sa5 L.length sc5)) 24 rfl K8 _ Try.underlying24 rfl 1 tr_info rfl ⟨_, by rw [e7]; rfl, (O5.but p8 nv3).mono (by omega), p8.below b5 (by omega)⟩
end Go.Proofs.Ytiddpkppfpdfhaa.pf
