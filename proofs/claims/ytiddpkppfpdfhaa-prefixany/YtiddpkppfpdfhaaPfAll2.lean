/- prefix.All: what it answers. -/
import Derived.Test.YtiddpkppfpdfhaaPfAll
namespace Go.Proofs.Ytiddpkppfpdfhaa.pf
open Go.ChangeShapes Go.WideShapes Go.ChangeAt Go.RowKit Go.BigFrame
open Go.Proofs.Ytiddpkppfpdfhaa Go.Proofs.Ytiddpkppfpdfhaa.pm Go.Proofs.Ytiddpkppfpdfhaa.boxes Go.Proofs.Ytiddpkppfpdfhaa.rwr Go.Proofs.Ytiddpkppfpdfhaa.rwat
open Go.Proofs.Ytiddpkppfpdfhaa.rws (Knd Own)

def netsOf (rs : List Rw) : List Nt := rs.map fun x => nt x.1
def valsOf (rs : List Rw) : List Int := rs.map fun x => x.2
/-- while rows are told to All -/
def AInv (w0 : World) (b1 b2 B : Nat) (rs : List Rw) (X : Nat → Prop) (k : Nat) (W : World) : Prop :=
  ∃ v1 v2, Blk W b1 #[v1] 37 ∧ Blk W b2 #[v2] 38 ∧ Own TK W B v1 (netsOf (rs.take k)) ∧ Own NK W B v2 (valsOf (rs.take k)) ∧
    (∀ b, X b → B ≤ b ∧ b < W.heap.size ∧ v1.ownBlock ≠ some b ∧ v2.ownBlock ≠ some b) ∧ Below w0.heap.size w0 W ∧ B ≤ W.heap.size
theorem all_tel {w0 : World} {b1 b2 B : Nat} {t : T} {v : Value} (hr : Rd DK w0 v (lay 0 t)) (hf : Fine t) (h1 : b1 < B) (h2 : b2 < B) (n1 : b1 ≠ b2) (x1 : w0.heap.size ≤ b1) (x2 : w0.heap.size ≤ b2) :
    Tel 43 #[.pointer (some ⟨b1, 0, none⟩), .pointer (some ⟨b2, 0, none⟩)] v (lay 0 t) (rows t) (AInv w0 b1 b2 B (rows t)) where
  enters := enters_of Try.func43 (by kernel_rfl) rfl
  rd := fun X k W ⟨_, _, _, _, _, _, _, hb, _⟩ => hr.below hb
  grow := fun X Y k W W' ⟨v1, v2, F1, F2, O1, O2, hX, hb, hB⟩ z hY => by
    refine ⟨v1, v2, F1.below z F1.lt, F2.below z F2.lt, O1.kept z, O2.kept z, fun b hb2 => ?_, hb.trans (z.mono hb.size), Nat.le_trans hB z.size⟩
    rcases hY b hb2 with h | ⟨h, h'⟩
    · obtain ⟨e1, e2, e3, e4⟩ := hX b h
      exact ⟨e1, Nat.lt_of_lt_of_le e2 z.size, e3, e4⟩
    · exact ⟨Nat.le_trans hB h, h', fun e => by have := own_lt O1 _ e; omega, fun e => by have := own_lt O2 _ e; omega⟩
  call := fun X k W q u hk ⟨v1, v2, F1, F2, O1, O2, hX, hb, hB⟩ => by
    have hkl := (List.getElem?_eq_some_iff.1 hk).1
    have hrl := rows_le t
    have h5 := hf.s
    have hl1 : (netsOf ((rows t).take k)).length ≤ 1000000 := by simp only [netsOf, List.length_map, List.length_take]; omega
    have hl2 : (valsOf ((rows t).take k)).length ≤ 1000000 := by simp only [valsOf, List.length_map, List.length_take]; omega
    have e1 : netsOf ((rows t).take (k + 1)) = netsOf ((rows t).take k) ++ [⟨ad 32 q, q.length⟩] := by rw [take_succ _ k _ hk]; simp [netsOf, nt]
    have e2 : valsOf ((rows t).take (k + 1)) = valsOf ((rows t).take k) ++ [u] := by rw [take_succ _ k _ hk]; simp [valsOf]
    refine (all1_any b1 b2 B (ad 32 q) q.length u v1 v2 _ _ W F1 F2 O1 O2 h1 h2 n1 hB hl1 hl2).mono ?_
    rintro e w' ⟨rfl, v1', v2', K1, K2, P1, P2, z1, z2, os, tp, ou, hs, hbl⟩
    rw [← e1] at P1
    rw [← e2] at P2
    refine ⟨rfl, ⟨v1', v2', K1, K2, P1, P2, fun b hb2 => ?_, hb.trans ⟨os, tp, ou, hs, fun j hj => ?_⟩, Nat.le_trans hB hs⟩, hs, fun b hb2 hlt => ?_⟩
    · obtain ⟨a1, a2, a3, a4⟩ := hX b hb2
      refine ⟨a1, Nat.lt_of_lt_of_le a2 hs, fun e => ?_, fun e => ?_⟩
      · rcases z1 b e with h | h
        · exact a3 h
        · omega
      · rcases z2 b e with h | h
        · exact a4 h
        · omega
    · have := hb.size
      exact hbl j (by omega) (by omega) (by omega) (fun e => by have := own_ge O1 _ e; omega) (fun e => by have := own_ge O2 _ e; omega)
    · obtain ⟨a1, a2, a3, a4⟩ := hX b hb2
      exact hbl b hlt (by omega) (by omega) a3 a4
set_option maxHeartbeats 4000000 in
set_option maxRecDepth 20000 in
theorem all_no (v : Value) (ns : List Nd) (w : World) (h : Rd DK w v ns) (hc : ¬ chk ns 2 4 = 0) :
    Calls Try.prog 18 #[.agg (TC v)] w fun e w' => e = .returned (.tuple #[.slice none 0 0, .slice none 0 0, .int .i64 (chk ns 2 4)]) ∧ Below w.heap.size w w' := by
  have b0 := (Below.refl w.heap.size w).alloc (Nat.le_refl _) (.cells (TC v) 24)
  have G0 := Blk.new w (TC v) 24
  have CC := check_any v ns _ (h.below b0)
  obtain ⟨sa, sc, rfl⟩ := h.form
  clear h
  have hc' : (chk ns 2 4 != 0) = true := by simpa using hc
  clear hc
  generalize chk ns 2 4 = c at *
  generalize ns.length = n at *
  have c0 := G0.cell
  go_enter Try.func18, Try.ntmps18
  go_wp2_with fail
  refine CC.mono ?_
  rintro e W3 ⟨rfl, z2⟩
  have b3 := b0.trans (z2.mono b0.size)
  go_wp2_with fail
  go_ret3
  exact ⟨rfl, b3⟩
set_option maxHeartbeats 4000000 in
set_option maxRecDepth 20000 in
theorem all_yes (v : Value) (t : T) (w : World) (h : Rd DK w v (lay 0 t)) (hf : Fine t) :
    Calls Try.prog 18 #[.agg (TC v)] w fun e w' => ∃ v1 v2, e = .returned (.tuple #[v1, v2, .int .i64 0]) ∧ Own TK w' w.heap.size v1 (netsOf (rows t)) ∧ Own NK w' w.heap.size v2 (valsOf (rows t)) ∧ Below w.heap.size w w' := by
  obtain ⟨ns, hns⟩ : ∃ ns, ns = lay 0 t := ⟨_, rfl⟩
  rw [← hns] at h
  have b0 := (Below.refl w.heap.size w).alloc (Nat.le_refl _) (.cells (TC v) 24)
  have G0 := Blk.new w (TC v) 24
  have CC := check_any v ns _ (h.below b0)
  have hc : chk ns 2 4 = 0 := by rw [hns]; exact rt_chk hf.rt 2 4
  rw [hc] at CC
  have HT : Hid (∀ W : World, Below w.heap.size w W → ∀ W1, Below W.heap.size W W1 → Blk W1 W.heap.size #[.slice none 0 0] 37 → Blk W1 (W.heap.size + 1) #[.slice none 0 0] 38 →
      Calls Try.prog 28 #[.agg (TC v), .func (.func 43) #[] #[.pointer (some ⟨W.heap.size, 0, none⟩), .pointer (some ⟨W.heap.size + 1, 0, none⟩)]] W1 fun e w' => e = .returned (.tuple #[]) ∧
        ∃ v1 v2, Blk w' W.heap.size #[v1] 37 ∧ Blk w' (W.heap.size + 1) #[v2] 38 ∧ Own TK w' (W.heap.size + 2) v1 (netsOf (rows t)) ∧ Own NK w' (W.heap.size + 2) v2 (valsOf (rows t)) ∧ Below W.heap.size W w') := by
    intro W hb W1 z F1 F2
    have TL := all_tel (w0 := W) (b1 := W.heap.size) (b2 := W.heap.size + 1) (B := W.heap.size + 2) (t := t) (v := v) (by rw [← hns]; exact h.below hb) hf (by omega) (by omega) (by omega) (Nat.le_refl _) (by omega)
    refine (each_any TL rfl hf.h (fun _ => False) W1 ⟨.slice none 0 0, .slice none 0 0, F1, F2, Own.nil _ _ _, Own.nil _ _ _, fun _ hx => hx.elim, z, F2.lt⟩).mono ?_
    rintro e w' ⟨rfl, ⟨v1, v2, K1, K2, P1, P2, _, hb2, _⟩, _⟩
    rw [List.take_length] at P1 P2
    exact ⟨rfl, v1, v2, K1, K2, P1, P2, hb2⟩
  obtain ⟨sa, sc, rfl⟩ := h.form
  clear h hns hc hf
  generalize netsOf (rows t) = NL at *
  generalize valsOf (rows t) = VL at *
  generalize ns.length = n at *
  have c0 := G0.cell
  go_enter Try.func18, Try.ntmps18
  go_wp2_with fail
  refine CC.mono ?_
  rintro e W3 ⟨rfl, z2⟩
  have b3 := b0.trans (z2.mono b0.size)
  have J0 := G0.below z2 G0.lt
  clear CC c0 G0 b0 z2
  have CE := HT.out W3 b3
  have zA := ((Below.refl W3.heap.size W3).alloc (Nat.le_refl _) (.cells #[.slice none 0 0] 37)).alloc (by simp) (.cells #[.slice none 0 0] 38)
  have A1 := (Blk.new W3 #[.slice none 0 0] 37).alloc (.cells #[.slice none 0 0] 38)
  have A2 := Blk.newAt (W3.alloc (.cells #[.slice none 0 0] 37)) #[.slice none 0 0] 38 (b := W3.heap.size + 1) (by simp)
  go_upto_region 6 with fail
  generalize hW4 : (W3.alloc (.cells #[.slice none 0 0] 37)).alloc (.cells #[.slice none 0 0] 38) = W4 at *
  clear hW4
  have CE := CE W4 zA A1 A2
  have c0 := (J0.below zA J0.lt).cell
  go_wp2_with fail
  refine CE.mono ?_
  rintro e W5 ⟨rfl, v1, v2, K1, K2, P1, P2, z5⟩
  have b5 := b3.trans (z5.mono b3.size)
  have hb3 := b3.size
  clear CE c0 zA J0 b3 HT A1 A2
  obtain ⟨sa1, sc1, e1⟩ := (Own.rd P1).form
  obtain ⟨sa2, sc2, e2⟩ := (Own.rd P2).form
  subst e1
  subst e2
  go_upto_region 7 with fail
  have nn := ab.ne W5
  have c1 := ab.cells K1
  have c2 := ab.cells K2
  refine ab.region (by kernel_rfl) (by kernel_rfl) ?_
  repeat (go_big_quiet_step (fail))
  refine wpQuiet_nil ?_
  intro _ hx
  obtain ⟨y, rfl⟩ := hx
  have b6 := b5.trans (Below.mono y.h b5.size)
  have P1 := (P1.kept y.h).mono (B' := w.heap.size) (by omega)
  have P2 := (P2.kept y.h).mono (B' := w.heap.size) (by omega)
  go_wp2_with fail
  go_ret3
  exact ⟨_, _, rfl, P1, P2, b6⟩
end Go.Proofs.Ytiddpkppfpdfhaa.pf
