/- prefix.Find: what it answers. -/
import Derived.Test.YtiddpkppfpdfhaaPfRem
namespace Go.Proofs.Ytiddpkppfpdfhaa.pf
open Go.ChangeShapes Go.WideShapes Go.ChangeAt Go.RowKit Go.BigFrame
open Go.Proofs.Ytiddpkppfpdfhaa Go.Proofs.Ytiddpkppfpdfhaa.pm Go.Proofs.Ytiddpkppfpdfhaa.boxes Go.Proofs.Ytiddpkppfpdfhaa.rwr Go.Proofs.Ytiddpkppfpdfhaa.rwat
open Go.Proofs.Ytiddpkppfpdfhaa.rws (Knd Own)

def fA (b : Option Rw) : Nat := match b with | none => 0 | some x => ad 32 x.1
def fL (b : Option Rw) : Int := match b with | none => 0 | some x => x.1.length
def fV (b : Option Rw) : Int := match b with | none => 0 | some x => x.2
def fE (b : Option Rw) : Int := match b with | none => 7 | some _ => 0
abbrev nv : Value := .slice none 0 0
set_option maxHeartbeats 4000000 in
set_option maxRecDepth 20000 in
theorem fnd1_any (ba bb bv be : Nat) (c : Nat) (q : Pth) (u : Int) (b : Option Rw) (W : World) (F0 : Blk W ba #[.int .u32 (c : Int)] 25) (F1 : Blk W bb (NC (fA b) (fL b)) 27) (F2 : Blk W bv #[.int .i64 (fV b)] 3) (F3 : Blk W be #[.int .i64 (fE b)] 28)
    (n1 : bb ≠ bv) (n2 : bb ≠ be) (n3 : bv ≠ be) (hq : q.length ≤ 32) (hc : c < 4294967296) :
    Calls Try.prog 40 #[.agg (NC (ad 32 q) q.length), .int .i64 u, .pointer (some ⟨ba, 0, none⟩), .pointer (some ⟨bb, 0, none⟩), .pointer (some ⟨bv, 0, none⟩), .pointer (some ⟨be, 0, none⟩)] W fun e w' => e = .returned (.tuple #[]) ∧
      Blk w' bb (NC (fA (if bts 32 c q.length = q then some (q, u) else b)) (fL (if bts 32 c q.length = q then some (q, u) else b))) 27 ∧ Blk w' bv #[.int .i64 (fV (if bts 32 c q.length = q then some (q, u) else b))] 3 ∧
      Blk w' be #[.int .i64 (fE (if bts 32 c q.length = q then some (q, u) else b))] 28 ∧ OnlyP (fun x => x = bb ∨ x = bv ∨ x = be) nv nv W w' := by
  have bo := (Below.refl W.heap.size W).alloc (Nat.le_refl _) (.cells (NC (ad 32 q) q.length) 27)
  have Go0 := Blk.new W (NC (ad 32 q) q.length) 27
  have G0 := F0.alloc (.cells (NC (ad 32 q) q.length) 27)
  have G1 := F1.alloc (.cells (NC (ad 32 q) q.length) 27)
  have G2 := F2.alloc (.cells (NC (ad 32 q) q.length) 27)
  have G3 := F3.alloc (.cells (NC (ad 32 q) q.length) 27)
  have CH : Hid (∀ W1, Calls Try.prog 41 #[.agg (NC (ad 32 q) q.length), .int .u32 (c : Int)] W1 fun e w' => e = .returned (.bool (decide (bts 32 c q.length = q))) ∧ Below W1.heap.size W1 w') := fun W1 => has_any q c W1 hq hc
  have S1 : OnlyP (fun x => x = bb ∨ x = bv ∨ x = be) nv nv W (W.alloc (.cells (NC (ad 32 q) q.length) 27)) := OnlyP.of_only (Only.of_below bo)
  clear F0 F1 F2 F3 bo
  by_cases hh : bts 32 c q.length = q
  · rw [decide_eq_true hh] at CH
    simp only [if_pos hh, fA, fL, fV, fE]
    clear hh hq
    generalize ad 32 q = qa at *
    generalize q.length = ql at *
    have c0 := G0.cell
    go_enter Try.func40, Try.ntmps40
    go_upto_region 1 with fail
    generalize hW1 : W.alloc (Obj.cells (NC qa ql) 27) = W1 at *
    clear hW1
    have CH1 := CH.out W1
    have co := Go0.cell
    go_wp2_with fail
    refine CH1.mono ?_
    rintro e W2 ⟨rfl, z⟩
    have K1 := G1.below z G1.lt
    have K2 := G2.below z G2.lt
    have K3 := G3.below z G3.lt
    have Ko := Go0.below z Go0.lt
    have S2 := S1.trans (OnlyP.of_only (Only.of_below z))
    clear CH CH1 co c0 G0 G1 G2 G3 Go0 S1 z
    go_upto_region 2 with fail
    have co := Ko.cell
    have n3' : be ≠ bv := fun e => n3 e.symm
    go_wp2_with (refine blk_store _ rfl 27 _ _ rfl bb (NC qa ql) rfl rfl _ _ K1 2 nt_info rfl rfl (nt_one ⟨qa, _⟩) ?_; intro W3 H1 p3; have h2 : W3.cell? ⟨bv, 0, none⟩ = some (.int .i64 (fV b)) := (p3.blk K2 (fun e => n1 e.symm)).cell 0; have h2f : W3.frozen? ⟨bv, 0, none⟩ = false := (p3.blk K2 (fun e => n1 e.symm)).free 0; have h4 : W3.cell? ⟨be, 0, none⟩ = some (.int .i64 (fE b)) := (p3.blk K3 (fun e => n2 e.symm)).cell 0; have h4f : W3.frozen? ⟨be, 0, none⟩ = false := (p3.blk K3 (fun e => n2 e.symm)).free 0)
    have H2 := p3.blk K2 (fun e => n1 e.symm)
    have H3 := p3.blk K3 (fun e => n2 e.symm)
    have bu2 := but_setCell W3 bv 0 (.int .i64 u)
    have H3' := bu2.blk H3 (fun e => n3 e.symm)
    have bu3 := but_setCell (W3.setCell ⟨bv, 0, none⟩ (.int .i64 u)) be 0 (.int .i64 0)
    have R1 := bu3.blk (bu2.blk H1 n1) n2
    have R2 : Blk ((W3.setCell ⟨bv, 0, none⟩ (.int .i64 u)).setCell ⟨be, 0, none⟩ (.int .i64 0)) bv #[.int .i64 u] 3 := bu3.blk (H2.setCell 0 (.int .i64 u)) n3
    have R3 : Blk ((W3.setCell ⟨bv, 0, none⟩ (.int .i64 u)).setCell ⟨be, 0, none⟩ (.int .i64 0)) be #[.int .i64 0] 28 := H3'.setCell 0 _
    have R4 := S2.trans ((OnlyP.of_but p3 (Or.inl rfl)).trans ((OnlyP.of_but bu2 (Or.inr (Or.inl rfl))).trans (OnlyP.of_but bu3 (Or.inr (Or.inr rfl)))))
    go_end0
    exact ⟨rfl, R1, R2, R3, R4⟩
  · rw [decide_eq_false hh] at CH
    simp only [if_neg hh]
    clear hh hq
    generalize ad 32 q = qa at *
    generalize q.length = ql at *
    have c0 := G0.cell
    go_enter Try.func40, Try.ntmps40
    go_upto_region 1 with fail
    generalize hW1 : W.alloc (Obj.cells (NC qa ql) 27) = W1 at *
    clear hW1
    have CH1 := CH.out W1
    have co := Go0.cell
    go_wp2_with fail
    refine CH1.mono ?_
    rintro e W2 ⟨rfl, z⟩
    have K1 := G1.below z G1.lt
    have K2 := G2.below z G2.lt
    have K3 := G3.below z G3.lt
    have S2 := S1.trans (OnlyP.of_only (Only.of_below z))
    clear CH CH1 co c0 G0 G1 G2 G3 Go0 S1 z
    go_wp2_with fail
    go_end0
    exact ⟨rfl, K1, K2, K3, S2⟩
/-- while rows are told to Find -/
def DInv (w0 : World) (ba bb bv be B c : Nat) (rs : List Rw) (X : Nat → Prop) (k : Nat) (W : World) : Prop :=
  Blk W ba #[.int .u32 (c : Int)] 25 ∧ Blk W bb (NC (fA (fnd c (rs.take k))) (fL (fnd c (rs.take k)))) 27 ∧ Blk W bv #[.int .i64 (fV (fnd c (rs.take k)))] 3 ∧ Blk W be #[.int .i64 (fE (fnd c (rs.take k)))] 28 ∧
    (∀ b, X b → B ≤ b) ∧ Below w0.heap.size w0 W ∧ B ≤ W.heap.size
theorem fnd_tel {w0 : World} {ba bb bv be B c : Nat} {t : T} {v : Value} (hr : Rd DK w0 v (lay 0 t)) (hf : Fine t) (hc : c < 4294967296) (h1 : bb < B) (h2 : bv < B) (h3 : be < B) (m1 : ba ≠ bb) (m2 : ba ≠ bv) (m3 : ba ≠ be) (n1 : bb ≠ bv) (n2 : bb ≠ be) (n3 : bv ≠ be) (x1 : w0.heap.size ≤ bb) (x2 : w0.heap.size ≤ bv) (x3 : w0.heap.size ≤ be) :
    Tel 40 #[.pointer (some ⟨ba, 0, none⟩), .pointer (some ⟨bb, 0, none⟩), .pointer (some ⟨bv, 0, none⟩), .pointer (some ⟨be, 0, none⟩)] v (lay 0 t) (rows t) (DInv w0 ba bb bv be B c (rows t)) where
  enters := enters_of Try.func40 (by kernel_rfl) rfl
  rd := fun X k W ⟨_, _, _, _, _, hb, _⟩ => hr.below hb
  grow := fun X Y k W W' ⟨F0, F1, F2, F3, hX, hb, hB⟩ z hY => by
    refine ⟨F0.below z F0.lt, F1.below z F1.lt, F2.below z F2.lt, F3.below z F3.lt, fun b hb2 => ?_, hb.trans (z.mono hb.size), Nat.le_trans hB z.size⟩
    rcases hY b hb2 with h | ⟨h, h'⟩
    · exact hX b h
    · exact Nat.le_trans hB h
  call := fun X k W q u hk ⟨F0, F1, F2, F3, hX, hb, hB⟩ => by
    have hq : q.length ≤ 32 := hf.len (List.mem_of_getElem? hk)
    have e1 : fnd c ((rows t).take (k + 1)) = if bts 32 c q.length = q then some (q, u) else fnd c ((rows t).take k) := by rw [take_succ _ k _ hk, fnd_snoc]
    refine (fnd1_any ba bb bv be c q u _ W F0 F1 F2 F3 n1 n2 n3 hq hc).mono ?_
    rintro e w' ⟨rfl, K1, K2, K3, o⟩
    rw [← e1] at K1 K2 K3
    refine ⟨rfl, ⟨o.blk F0 (fun h => by rcases h with h | h | h; exact m1 h; exact m2 h; exact m3 h) (by simp [Value.ownBlock]), K1, K2, K3, hX, hb.trans (o.below (fun g hg => by simp [Value.ownBlock] at hg) (fun b hb => by rcases hb with h | h | h <;> omega) hb.size), Nat.le_trans hB o.size⟩, o.size, fun b hb2 hlt => ?_⟩
    have := hX b hb2
    exact o.block b hlt (fun h => by rcases h with h | h | h <;> omega) (by simp [Value.ownBlock])
abbrev ZN : Array Value := #[.int .u32 0, .int .i64 0]
set_option maxHeartbeats 4000000 in
set_option maxRecDepth 20000 in
theorem find_no (v : Value) (ns : List Nd) (c : Nat) (w : World) (h : Rd DK w v ns) (hc : ¬ chk ns 2 4 = 0) :
    Calls Try.prog 16 #[.agg (TC v), .int .u32 (c : Int)] w fun e w' => e = .returned (.tuple #[.agg ZN, .int .i64 0, .int .i64 (chk ns 2 4)]) ∧ Below w.heap.size w w' := by
  have b0 := (((Below.refl w.heap.size w).alloc (Nat.le_refl _) (.cells (TC v) 24)).alloc (by simp) (.cells #[.int .u32 (c : Int)] 25)).alloc (by simp; omega) (.cells ZN 27)
  have G0 := ((Blk.new w (TC v) 24).alloc (.cells #[.int .u32 (c : Int)] 25)).alloc (.cells ZN 27)
  have G1 := (Blk.newAt (w.alloc (.cells (TC v) 24)) #[.int .u32 (c : Int)] 25 (b := w.heap.size + 1) (by simp)).alloc (.cells ZN 27)
  have G3 := Blk.newAt ((w.alloc (.cells (TC v) 24)).alloc (.cells #[.int .u32 (c : Int)] 25)) ZN 27 (b := w.heap.size + 2) (by simp)
  obtain ⟨V, HV⟩ : ∃ V, Hid (((w.alloc (.cells (TC v) 24)).alloc (.cells #[.int .u32 (c : Int)] 25)).alloc (.cells ZN 27) = V) := ⟨_, rfl⟩
  rw [HV.out] at b0 G0 G1 G3
  have CC := check_any v ns V (h.below b0)
  have c0 := G0.cell
  obtain ⟨sa, sc, rfl⟩ := h.form
  clear h
  · have hc' : (chk ns 2 4 != 0) = true := by simpa using hc
    clear hc
    generalize chk ns 2 4 = q at *
    generalize ns.length = n at *
    go_enter Try.func16, Try.ntmps16
    go_upto_region 1 with fail
    rw [HV.out]
    go_wp2_with fail
    refine CC.mono ?_
    rintro e W3 ⟨rfl, z2⟩
    have b3 := b0.trans (z2.mono b0.size)
    have J0 := G0.below z2 G0.lt
    have J1 := G1.below z2 G1.lt
    have J3 := G3.below z2 G3.lt
    clear CC c0 G0 G1 G3 b0 z2
    go_wp2_with (refine blk_store _ rfl 27 _ _ rfl (w.heap.size + 2) ZN rfl rfl _ _ J3 2 nt_info rfl rfl (nt_one ⟨0, 0⟩) ?_; intro W4 K4 p4)
    exact blk_ret3 rfl rfl (w.heap.size + 2) ZN 27 rfl K4 _ Try.underlying27 rfl 2 nt_info rfl ⟨rfl, p4.below b3 (by omega)⟩
set_option maxHeartbeats 4000000 in
set_option maxRecDepth 20000 in
theorem find_yes (v : Value) (t : T) (c : Nat) (w : World) (h : Rd DK w v (lay 0 t)) (hf : Fine t) (hcb : c < 4294967296) :
    Calls Try.prog 16 #[.agg (TC v), .int .u32 (c : Int)] w fun e w' => e = .returned (.tuple #[.agg (NC (fA (fnd c (rows t))) (fL (fnd c (rows t)))), .int .i64 (fV (fnd c (rows t))), .int .i64 (fE (fnd c (rows t)))]) ∧ Below w.heap.size w w' := by
  obtain ⟨ns, hns⟩ : ∃ ns, ns = lay 0 t := ⟨_, rfl⟩
  rw [← hns] at h
  have b0 := (((Below.refl w.heap.size w).alloc (Nat.le_refl _) (.cells (TC v) 24)).alloc (by simp) (.cells #[.int .u32 (c : Int)] 25)).alloc (by simp; omega) (.cells ZN 27)
  have G0 := ((Blk.new w (TC v) 24).alloc (.cells #[.int .u32 (c : Int)] 25)).alloc (.cells ZN 27)
  have G1 := (Blk.newAt (w.alloc (.cells (TC v) 24)) #[.int .u32 (c : Int)] 25 (b := w.heap.size + 1) (by simp)).alloc (.cells ZN 27)
  have G3 := Blk.newAt ((w.alloc (.cells (TC v) 24)).alloc (.cells #[.int .u32 (c : Int)] 25)) ZN 27 (b := w.heap.size + 2) (by simp)
  obtain ⟨V, HV⟩ : ∃ V, Hid (((w.alloc (.cells (TC v) 24)).alloc (.cells #[.int .u32 (c : Int)] 25)).alloc (.cells ZN 27) = V) := ⟨_, rfl⟩
  rw [HV.out] at b0 G0 G1 G3
  have CC := check_any v ns V (h.below b0)
  have c0 := G0.cell
  have hc : chk ns 2 4 = 0 := by rw [hns]; exact rt_chk hf.rt 2 4
  rw [hc] at CC
  have HT : Hid (∀ W : World, Below w.heap.size w W → w.heap.size + 2 < W.heap.size → Blk W (w.heap.size + 1) #[.int .u32 (c : Int)] 25 → ∀ W1, Below W.heap.size W W1 → Blk W1 W.heap.size ZN 27 → Blk W1 (W.heap.size + 1) #[.int .i64 0] 3 → Blk W1 (W.heap.size + 2) #[.int .i64 7] 28 →
      Calls Try.prog 28 #[.agg (TC v), .func (.func 40) #[] #[.pointer (some ⟨w.heap.size + 1, 0, none⟩), .pointer (some ⟨W.heap.size, 0, none⟩), .pointer (some ⟨W.heap.size + 1, 0, none⟩), .pointer (some ⟨W.heap.size + 2, 0, none⟩)]] W1 fun e w' => e = .returned (.tuple #[]) ∧
        Blk w' W.heap.size (NC (fA (fnd c (rows t))) (fL (fnd c (rows t)))) 27 ∧ Blk w' (W.heap.size + 1) #[.int .i64 (fV (fnd c (rows t)))] 3 ∧ Blk w' (W.heap.size + 2) #[.int .i64 (fE (fnd c (rows t)))] 28 ∧ Below W.heap.size W w') := by
    intro W hb hlt F0 W1 z F1 F2 F3
    have TL := fnd_tel (w0 := W) (ba := w.heap.size + 1) (bb := W.heap.size) (bv := W.heap.size + 1) (be := W.heap.size + 2) (B := W.heap.size + 3) (c := c) (t := t) (v := v) (by rw [← hns]; exact h.below hb) hf hcb (by omega) (by omega) (by omega) (by omega) (by omega) (by omega) (by omega) (by omega) (by omega) (Nat.le_refl _) (by omega) (by omega)
    refine (each_any TL rfl hf.h (fun _ => False) W1 ⟨F0.below z F0.lt, F1, F2, F3, fun _ hx => hx.elim, z, F3.lt⟩).mono ?_
    rintro e w' ⟨rfl, ⟨_, K1, K2, K3, _, hb2, _⟩, _⟩
    rw [List.take_length] at K1 K2 K3
    exact ⟨rfl, K1, K2, K3, hb2⟩
  obtain ⟨sa, sc, rfl⟩ := h.form
  clear h hns hc hf
  generalize fA (fnd c (rows t)) = rA at *
  generalize fL (fnd c (rows t)) = rL at *
  generalize fV (fnd c (rows t)) = rV at *
  generalize fE (fnd c (rows t)) = rE at *
  generalize ns.length = n at *
  · skip
    go_enter Try.func16, Try.ntmps16
    go_upto_region 1 with fail
    rw [HV.out]
    go_wp2_with fail
    refine CC.mono ?_
    rintro e W3 ⟨rfl, z2⟩
    have b3 := b0.trans (z2.mono b0.size)
    have J0 := G0.below z2 G0.lt
    have J1 := G1.below z2 G1.lt
    have J3 := G3.below z2 G3.lt
    clear CC c0 G0 G1 G3 b0 z2
    have lt3 : w.heap.size + 2 < W3.heap.size := J3.lt
    have CE := HT.out W3 b3 lt3 J1
    have zA := (((Below.refl W3.heap.size W3).alloc (Nat.le_refl _) (.cells ZN 27)).alloc (by simp) (.cells #[.int .i64 0] 3)).alloc (by simp; omega) (.cells #[.int .i64 7] 28)
    have A1 := ((Blk.new W3 ZN 27).alloc (.cells #[.int .i64 0] 3)).alloc (.cells #[.int .i64 7] 28)
    have A2 := (Blk.newAt (W3.alloc (.cells ZN 27)) #[.int .i64 0] 3 (b := W3.heap.size + 1) (by simp)).alloc (.cells #[.int .i64 7] 28)
    have A3 := Blk.newAt ((W3.alloc (.cells ZN 27)).alloc (.cells #[.int .i64 0] 3)) #[.int .i64 7] 28 (b := W3.heap.size + 2) (by simp)
    go_upto_region 6 with fail
    generalize hW4 : ((W3.alloc (.cells ZN 27)).alloc (.cells #[.int .i64 0] 3)).alloc (.cells #[.int .i64 7] 28) = W4 at *
    clear hW4
    have CE := CE W4 zA A1 A2 A3
    have c0 := (J0.below zA J0.lt).cell
    go_wp2_with fail
    refine CE.mono ?_
    rintro e W5 ⟨rfl, K1, K2, K3, z5⟩
    have J3 := J3.below z5 J3.lt
    have b5 := b3.trans (z5.mono b3.size)
    clear CE c0 zA J0 J1 b3 HT z5 A1 A2 A3
    have c1 := K1.cell
    have c2 := K2.cell
    have c3 := K3.cell
    have cr := J3.cell
    have fr := J3.free
    have K8 : Blk ((W5.setCell ⟨w.heap.size + 2, 0, none⟩ (.int .u32 (rA : Int))).setCell ⟨w.heap.size + 2, 1, none⟩ (.int .i64 rL)).drew (w.heap.size + 2) (NC rA rL) 27 := ((J3.setCell 0 (.int .u32 (rA : Int))).setCell 1 (.int .i64 rL)).drew
    have d8 : Below w.heap.size w ((W5.setCell ⟨w.heap.size + 2, 0, none⟩ (.int .u32 (rA : Int))).setCell ⟨w.heap.size + 2, 1, none⟩ (.int .i64 rL)).drew := ((but_setCell _ _ _ _).below ((but_setCell _ _ _ _).below b5 (by omega)) (by omega)).trans ((ab.Ab.drew _).mono (by have := b5.size; simp; omega))
    go_upto_region 7 with fail
    go_region
    all_goals go_wp2_with fail
    all_goals exact blk_ret3 rfl rfl (w.heap.size + 2) (NC rA rL) 27 rfl K8 _ Try.underlying27 rfl 2 nt_info rfl ⟨rfl, d8⟩
end Go.Proofs.Ytiddpkppfpdfhaa.pf
