/- What frag.joined answers: the packet of a heap, all its data joined. -/
import Derived.Test.YtlbpapngcgnepaaFragBuilder
import Derived.Test.YtlbpapngcgnepaaShelfB
import Derived.Test.YtlbpapngcgnepaaIpRead
import Derived.Test.YtlbpapngcgnepaaLast
namespace Go.Proofs.Ytlbpapngcgnepaa.frj
open Go.ChangeShapes Go.WideShapes Go.ChangeAt Go.RowKit Go.BigFrame
open Go.Proofs.Ytlbpapngcgnepaa Go.Proofs.Ytlbpapngcgnepaa.ipb Go.Proofs.Ytlbpapngcgnepaa.boxes Go.Proofs.Ytlbpapngcgnepaa.ipr Go.Proofs.Ytlbpapngcgnepaa.frb Go.Proofs.Ytlbpapngcgnepaa.frp Go.Proofs.Ytlbpapngcgnepaa.fbu
open Go.Proofs.Ytlbpapngcgnepaa.rws (Own Knd)

/-- all data of parts -/
def dj (ps : List Pt) : List UInt8 := ps.flatMap fun q => q.d.data.toList
/-- the packet of a heap -/
def jp (h : Hd) (ps : List Pt) : Pk := ⟨h.tos, h.id, false, false, 0, h.li, h.pr, h.fr, h.to, h.o, ⟨(dj ps).toArray⟩⟩
theorem dj_succ {ps : List Pt} {i : Nat} {q : Pt} (h : ps[i]? = some q) : dj (ps.take (i + 1)) = dj (ps.take i) ++ q.d.data.toList := by
  rw [List.take_add_one, h]; simp [dj]
theorem dj_le (ps : List Pt) (i : Nat) : (dj (ps.take i)).length ≤ (dj ps).length := by
  have e : dj ps = dj (ps.take i) ++ dj (ps.drop i) := by unfold dj; rw [← List.flatMap_append, List.take_append_drop]
  rw [e, List.length_append]; omega
/-- what stands while the text is told -/
structure KJ (w : World) (F : Array Value) (l : List UInt8) (W : World) : Prop where
  h : Blk W w.heap.size F 46
  p : Blk W (w.heap.size + 1) zeroP.cells 24
  b : Lib.IsBuilderF 105 5 (w.heap.size + 1 + 1) (w.heap.size + 1 + 1) (Lib.byteCells l) W
  bel : Below w.heap.size w W
  s : w.heap.size + 1 + 1 ≤ W.heap.size
set_option maxRecDepth 20000 in
set_option maxHeartbeats 8000000 in
theorem joined_any (x : Hv) (ps : List Pt) (w : World) (hr : Rd TK w x.sl ps) (hsz : (dj ps).length ≤ 140737488355328) :
    Calls Try.prog 58 #[.agg x.cells] w fun e w' => e = .returned (.agg (jp x.h ps).cells) ∧ Below w.heap.size w w' := by
  obtain ⟨sa, sc, he, hm, hf, hc⟩ := hr
  obtain ⟨n, hn⟩ : ∃ n, ps.length = n := ⟨_, rfl⟩
  have hm' : n ≤ 9223372036854775807 := by unfold maxLen at hm; omega
  obtain ⟨⟨h0, h1, h2, h3, h4, h5, h6⟩, xa, xn, xc⟩ := x
  simp only [Hv.sl, Value.slice.injEq] at he
  rw [hn] at he
  obtain ⟨rfl, rfl, rfl⟩ := he
  show Calls Try.prog 58 #[.agg (Hd.cells ⟨h0, h1, h2, h3, h4, h5, h6⟩ (.slice xa xn xc))] w _
  have W1 := Blk.new w (Hd.cells ⟨h0, h1, h2, h3, h4, h5, h6⟩ (.slice xa xn xc)) 46
  have b1 := (Below.refl w.heap.size w).alloc (Nat.le_refl _) (.cells (Hd.cells ⟨h0, h1, h2, h3, h4, h5, h6⟩ (.slice xa xn xc)) 46)
  have P1 := Blk.newAt (w.alloc (.cells (Hd.cells ⟨h0, h1, h2, h3, h4, h5, h6⟩ (.slice xa xn xc)) 46)) zeroP.cells 24 (b := w.heap.size + 1) (by simp)
  have W2 := W1.alloc (.cells zeroP.cells 24)
  have b2 := b1.alloc b1.size (.cells zeroP.cells 24)
  have U3 := Blk.newAt ((w.alloc (.cells (Hd.cells ⟨h0, h1, h2, h3, h4, h5, h6⟩ (.slice xa xn xc)) 46)).alloc (.cells zeroP.cells 24)) #[.pointer none, .slice none 0 0] 105 (b := w.heap.size + 1 + 1) (by simp)
  have W3 := W2.alloc (.cells #[.pointer none, .slice none 0 0] 105)
  have P3 := P1.alloc (.cells #[.pointer none, .slice none 0 0] 105)
  have b3 := b2.alloc b2.size (.cells #[.pointer none, .slice none 0 0] 105)
  have BU : Bu (((w.alloc (.cells (Hd.cells ⟨h0, h1, h2, h3, h4, h5, h6⟩ (.slice xa xn xc)) 46)).alloc (.cells zeroP.cells 24)).alloc (.cells #[.pointer none, .slice none 0 0] 105)) (w.heap.size + 1 + 1) (w.heap.size + 1 + 1) [] := ⟨Nat.le_refl _, none, .slice none 0 0, Or.inl rfl, U3, buf.Own.nil _ _⟩
  go_enter Try.func58, Try.ntmps58
  go_wp2_with fail
  clear U3 W1 W2 P1 b1 b2
  go_loopw [9] (fun s9 wr => ∃ i : Nat, s9 = .int .i64 (i : Int) ∧ i ≤ xn ∧ Bu wr (w.heap.size + 1 + 1) (w.heap.size + 1 + 1) (dj (ps.take i)) ∧ Blk wr w.heap.size (Hd.cells ⟨h0, h1, h2, h3, h4, h5, h6⟩ (.slice xa xn xc)) 46 ∧ Blk wr (w.heap.size + 1) zeroP.cells 24 ∧ Below w.heap.size w wr) (fun i _ => xn - (intOf i).toNat)
  case atStart => exact ⟨0, rfl, Nat.zero_le _, BU, W3, P3, b3⟩
  case round =>
    clear BU W3 P3 b3
    obtain ⟨i, rfl, hi, BU, W3, P3, b3⟩ := hrel
    have hB := b3.size
    by_cases hlt : i < xn
    · obtain ⟨b, off, rfl, hb, hx⟩ := hc (by omega)
      obtain ⟨q, hq⟩ : ∃ q, ps[i]? = some q := ⟨ps[i]'(by omega), List.getElem?_eq_getElem (by omega)⟩
      have hlt' : (i : Int) < (xn : Int) := by omega
      have hx1 : ∀ (j : Nat) y, ps[j]? = some y → ∀ i, i < TK.k → wr.cell? ⟨b, off + j * TK.k + i, none⟩ = (TK.enc y)[i]? := fun j y hj i hi => (b3.cell (p := ⟨b, off + j * TK.k + i, none⟩) hb).trans (hx j y hj i hi)
      have hs := dj_succ hq
      have hl := dj_le ps (i + 1)
      have hl2 : (dj (ps.take i)).length + q.d.size ≤ 140737488355328 := by
        rw [hs, List.length_append] at hl
        have : q.d.data.toList.length = q.d.size := by simp
        omega
      have bn := (Below.refl wr.heap.size wr).alloc (Nat.le_refl _) (.cells q.cells 49)
      have CW := write_any (w.heap.size + 1 + 1) (w.heap.size + 1 + 1) (dj (ps.take i)) q.d (wr.alloc (.cells q.cells 49)) (BU.kept bn) hl2
      rw [← hs] at CW
      have W4 := W3.alloc (.cells q.cells 49)
      have P4 := P3.alloc (.cells q.cells 49)
      have b4 := b3.alloc hB (.cells q.cells 49)
      clear hs hl hl2 BU hx
      obtain ⟨qa, qd, ql⟩ := q
      go_wp2_with (refine rd_load TK _ rfl _ rfl b off ps hx1 i _ rfl rfl _ hq (Pt.cells ⟨qa, qd, ql⟩) rfl _ Try.underlying49 rfl ?_)
      refine CW.mono ?_
      rintro e w5 ⟨rfl, BU5, c5⟩
      have W5 := W4.below c5 (by omega)
      have P5 := P4.below c5 (by omega)
      have b5 := b4.trans (c5.mono (by omega))
      clear CW W4 P4 b4 c5 W3 P3 b3
      go_wp2_with fail
      go_roundw
      case rel => exact ⟨i + 1, by simp, by omega, BU5, W5, P5, b5⟩
      case measure => simp [intOf]; omega
    · have hin : i = xn := by omega
      have hlt' : ¬ (i : Int) < (xn : Int) := by omega
      have hd : dj (ps.take i) = dj ps := by rw [List.take_of_length_le (by omega)]
      rw [hd] at BU
      have K : KJ w (Hd.cells ⟨h0, h1, h2, h3, h4, h5, h6⟩ (.slice xa xn xc)) (dj ps) wr := ⟨W3, P3, Lib.IsBuilderF.of BU.lib, b3, Nat.le_of_lt BU.lt⟩
      clear BU hd hin W3 P3 hc
      go_upto_region 7 with fail
      have ne : Nonempty (cls.In (KJ w (Hd.cells ⟨h0, h1, h2, h3, h4, h5, h6⟩ (.slice xa xn xc)) (dj ps))) := ⟨⟨_, K⟩⟩
      have cm : ∀ (x : cls.In (KJ w (Hd.cells ⟨h0, h1, h2, h3, h4, h5, h6⟩ (.slice xa xn xc)) (dj ps))) o, x.W.cell? ⟨w.heap.size, o, none⟩ = (Hd.cells ⟨h0, h1, h2, h3, h4, h5, h6⟩ (.slice xa xn xc))[o]? := fun x => x.h.h.cell
      have CS := fun x : cls.In (KJ w (Hd.cells ⟨h0, h1, h2, h3, h4, h5, h6⟩ (.slice xa xn xc)) (dj ps)) => cls.call_class (x := x) (Try.Builder_String_any_f _ _ (dj ps) x.W x.h.b x.h.s) fun w' hw => (⟨x.h.h.below hw.2 (by omega), x.h.p.below hw.2 (by omega), hw.1, x.h.bel.trans (hw.2.mono (by omega)), Nat.le_trans x.h.s hw.2.size⟩ : KJ w _ _ w')
      have K0 : KJ w (Hd.cells ⟨h0, h1, h2, h3, h4, h5, h6⟩ (.slice xa xn xc)) (dj ps) wr.drew := ⟨K.h, K.p, K.b, Below.drew K.bel, K.s⟩
      refine lst.wp_region_last (KJ w (Hd.cells ⟨h0, h1, h2, h3, h4, h5, h6⟩ (.slice xa xn xc)) (dj ps)) (by kernel_rfl) (by simp only [List.dropLast]; exact rfl) (by simp only [List.getLast?_cons_cons, List.getLast?_singleton]; exact rfl) (by kernel_rfl) (by kernel_rfl) K0 ?_
      repeat (go_big_quiet_step ((go_at_call 73; exact CS _)))
      refine wpQuiet_nil ?_
      intro _ hx
      obtain ⟨y, rfl⟩ := hx
      obtain ⟨W, Kx⟩ := y
      refine blk_store W rfl 24 _ _ rfl _ (jp ⟨h0, h1, h2, h3, h4, h5, h6⟩ ps).cells rfl rfl _ _ Kx.p 11 pk_info rfl rfl (pk_one _) ?_
      intro W2 k2 p2
      go_wp2_with fail
      exact blk_ret1 rfl rfl _ _ _ rfl k2 _ Try.underlying24 rfl 11 pk_info rfl ⟨rfl, p2.below Kx.bel (by omega)⟩
end Go.Proofs.Ytlbpapngcgnepaa.frj
