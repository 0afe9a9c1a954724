/- FragClone, FragFed1, Parts, FragFedZ, OwnSt, FragFedY, joined. -/
import Derived.Test.YtlbpapngcgnepaaJoinA
import Derived.Test.YtlbpapngcgnepaaShelf
import Derived.Test.YtlbpapngcgnepaaFragTake
import Derived.Test.YtlbpapngcgnepaaLastn
import Derived.Test.YtlbpapngcgnepaaTold
import Derived.Control
import Derived.Test.YtlbpapngcgnepaaFragFeed
/- slices.Clone of parts. -/
namespace Go.Proofs.Ytlbpapngcgnepaa.frcl
open Go.ChangeShapes Go.WideShapes Go.ChangeAt Go.RowKit Go.BigFrame
open Go.Proofs.Ytlbpapngcgnepaa Go.Proofs.Ytlbpapngcgnepaa.boxes Go.Proofs.Ytlbpapngcgnepaa.frp Go.Proofs.Ytlbpapngcgnepaa.pl
open Go.Proofs.Ytlbpapngcgnepaa.rws (Own Knd)

set_option maxRecDepth 20000 in
theorem clone_any (v : Value) (ps : List Pt) (w : World) (h : Rd TK w v ps) (hb : ps.length * 32 ≤ 140737488355328) :
    Calls Try.prog 19 #[v] w fun e w' => ∃ v', e = .returned v' ∧ Own TK w' w.heap.size v' ps ∧ Below w.heap.size w w' := by
  have hm : ps.length ≤ maxLen := by unfold maxLen; omega
  obtain ⟨sa, sc, rfl, hm', hf, hc⟩ := h
  cases sa with
  | none =>
    have e0 := hf.nil rfl
    have e1 := hf.le
    have el : ps = [] := List.eq_nil_of_length_eq_zero (by omega)
    subst el
    refine (AnyE.slices_Clone_nil Try.clonePt 0 sc w).mono ?_
    rintro e w' ⟨rfl, rfl⟩
    exact ⟨_, rfl, Own.nil _ _ _, Below.refl _ _⟩
  | some a =>
    have b1 := (Below.refl w.heap.size w).alloc (Nat.le_refl _) (.cells #[] 49)
    have hr : Rd TK (w.alloc (.cells #[] 49)) (.slice (some a) ps.length sc) ps := Rd.below ⟨_, _, rfl, hm', hf, hc⟩ b1
    have ow : Own TK (w.alloc (.cells #[] 49)) w.heap.size (.slice (some ⟨w.heap.size, 0, none⟩) 0 0) [] := ⟨rfl, Or.inr ⟨w.heap.size, 0, #[], rfl, Nat.le_refl _, Blk.new _ _ _, Nat.le_refl _, Nat.zero_le _, rfl, rfl⟩⟩
    clear hc
    have q : ∀ (w : World) (a : Option Addr) (n c n' c' : Nat), (binOp .eql 44 (.slice a n c) (.slice none n' c')).run Try.prog w = .ok (.bool a.isNone) w := fun w a n c n' c' => Lib.run_eql_slice_nil w _ _ a n c n' c' Try.underlying44
    go_enter Try.func19, Try.ntmps19
    go_wp2_with (at_builtin; refine app_rd TK _ rfl _ _ rfl w.heap.size _ [] rfl ow (.slice (some a) ps.length sc) ps rfl hr (by simpa using hm) (by show ([].length + ps.length) * 32 ≤ _; simpa using hb) (by simp) ?_)
    intro v4 W4 O4 c4 _
    go_wp2_with fail
    go_ret
    exact ⟨_, rfl, O4, b1.trans c4⟩
end Go.Proofs.Ytlbpapngcgnepaa.frcl
/- slices.Clone of heaps; custref.without; where custref.Fed finds a heap. -/
namespace Go.Proofs.Ytlbpapngcgnepaa.fd1
open Go.ChangeShapes Go.WideShapes Go.ChangeAt Go.RowKit Go.BigFrame
open Go.Proofs.Ytlbpapngcgnepaa Go.Proofs.Ytlbpapngcgnepaa.ipb Go.Proofs.Ytlbpapngcgnepaa.boxes Go.Proofs.Ytlbpapngcgnepaa.frb Go.Proofs.Ytlbpapngcgnepaa.frp Go.Proofs.Ytlbpapngcgnepaa.pl Go.Proofs.Ytlbpapngcgnepaa.frx
open Go.Proofs.Ytlbpapngcgnepaa.rws (Own Knd)

set_option maxRecDepth 20000 in
theorem cloneH_any (v : Value) (X : List Hv) (w : World) (h : Rd HK w v X) (hb : X.length * 80 ≤ 140737488355328) :
    Calls Try.prog 30 #[v] w fun e w' => ∃ v', e = .returned v' ∧ Own HK w' w.heap.size v' X ∧ Below w.heap.size w w' := by
  have hm : X.length ≤ maxLen := by unfold maxLen; omega
  obtain ⟨sa, sc, rfl, hm', hf, hc⟩ := h
  cases sa with
  | none =>
    have e0 := hf.nil rfl
    have e1 := hf.le
    have el : X = [] := List.eq_nil_of_length_eq_zero (by omega)
    subst el
    refine (AnyE.slices_Clone_nil Try.cloneHp 0 sc w).mono ?_
    rintro e w' ⟨rfl, rfl⟩
    exact ⟨_, rfl, Own.nil _ _ _, Below.refl _ _⟩
  | some a =>
    have b1 := (Below.refl w.heap.size w).alloc (Nat.le_refl _) (.cells #[] 46)
    have hr : Rd HK (w.alloc (.cells #[] 46)) (.slice (some a) X.length sc) X := Rd.below ⟨_, _, rfl, hm', hf, hc⟩ b1
    have ow : Own HK (w.alloc (.cells #[] 46)) w.heap.size (.slice (some ⟨w.heap.size, 0, none⟩) 0 0) [] := ⟨rfl, Or.inr ⟨w.heap.size, 0, #[], rfl, Nat.le_refl _, Blk.new _ _ _, Nat.le_refl _, Nat.zero_le _, rfl, rfl⟩⟩
    clear hc
    have q : ∀ (w : World) (a : Option Addr) (n c n' c' : Nat), (binOp .eql 31 (.slice a n c) (.slice none n' c')).run Try.prog w = .ok (.bool a.isNone) w := fun w a n c n' c' => Lib.run_eql_slice_nil w _ _ a n c n' c' Try.underlying31
    go_enter Try.func30, Try.ntmps30
    go_wp2_with (at_builtin; refine app_rd HK _ rfl _ _ rfl w.heap.size _ [] rfl ow (.slice (some a) X.length sc) X rfl hr (by simpa using hm) (by show ([].length + X.length) * 80 ≤ _; simpa using hb) (by simp) ?_)
    intro v4 W4 O4 c4 _
    go_wp2_with fail
    go_ret
    exact ⟨_, rfl, O4, b1.trans c4⟩
section
variable {α : Type} {K : Knd α}
theorem rd_take {w : World} {sa : Option Addr} {sc : Nat} {X : List α} (h : Rd K w (.slice sa X.length sc) X) (i : Nat) (hi : i ≤ X.length) : Rd K w (.slice sa i sc) (X.take i) := by
  obtain ⟨sa', sc', e, hm, hf, hc⟩ := h
  simp only [Value.slice.injEq] at e
  obtain ⟨rfl, -, rfl⟩ := e
  have hl : (X.take i).length = i := by rw [List.length_take]; omega
  refine ⟨sa, sc, by rw [hl], by omega, ⟨by have := hf.le; omega, hf.nil⟩, fun h0 => ?_⟩
  obtain ⟨b, off, rfl, hb, hx⟩ := hc (by omega)
  refine ⟨b, off, rfl, hb, fun j x hj t ht => hx j x ?_ t ht⟩
  rw [List.getElem?_take] at hj
  split at hj
  · exact hj
  · cases hj
theorem rd_drop {w : World} {sa : Option Addr} {sc : Nat} {X : List α} (h : Rd K w (.slice sa X.length sc) X) (j : Nat) (hj : j ≤ X.length) : Rd K w (sliced sa j X.length sc K.k) (X.drop j) := by
  obtain ⟨sa', sc', e, hm, hf, hc⟩ := h
  simp only [Value.slice.injEq] at e
  obtain ⟨rfl, -, rfl⟩ := e
  have hl : (X.drop j).length = X.length - j := by rw [List.length_drop]
  have hle := hf.le
  refine ⟨_, sc - j, by unfold sliced; rw [hl], by omega, ⟨by omega, fun he => ?_⟩, fun h0 => ?_⟩
  · split at he
    · omega
    · have := hf.nil (by simpa using he); omega
  · obtain ⟨b, off, rfl, hb, hx⟩ := hc (by omega)
    have hadd : (⟨b, off, none⟩ : Addr).add (j * K.k) = ⟨b, off + j * K.k, none⟩ := by unfold Addr.add; split <;> simp_all
    refine ⟨b, off + j * K.k, ?_, hb, fun t x ht i hi => ?_⟩
    · rw [if_neg (by omega)]; simp [hadd]
    · rw [List.getElem?_drop] at ht
      have := hx (j + t) x ht i hi
      rw [Nat.add_mul, ← Nat.add_assoc] at this
      exact this
end
set_option maxRecDepth 20000 in
set_option maxHeartbeats 2000000 in
theorem without_any (v : Value) (X : List Hv) (i : Nat) (w : World) (h : Rd HK w v X) (hi : i < X.length) (hb : X.length * 80 ≤ 140737488355328) :
    Calls Try.prog 29 #[v, .int .i64 (i : Int)] w fun e w' => ∃ v', e = .returned v' ∧ Own HK w' w.heap.size v' (X.take i ++ X.drop (i + 1)) ∧ Below w.heap.size w w' := by
  obtain ⟨sa, sc, rfl⟩ := h.form
  have rt := rd_take h i (by omega)
  have rd := rd_drop h (i + 1) (by omega)
  have hf : X.length ≤ sc := by obtain ⟨_, _, e, _, hf, _⟩ := h; simp only [Value.slice.injEq] at e; obtain ⟨-, -, rfl⟩ := e; exact hf.le
  obtain ⟨b, off, rfl⟩ : ∃ b off, sa = some ⟨b, off, none⟩ := by
    obtain ⟨_, _, e, _, _, hc⟩ := h
    simp only [Value.slice.injEq] at e
    obtain ⟨rfl, -, -⟩ := e
    obtain ⟨b, off, e, _⟩ := hc (by omega)
    exact ⟨b, off, e⟩
  obtain ⟨n, N⟩ : ∃ n, n = X.length := ⟨_, rfl⟩
  have HN : Hid (n = X.length) := N
  have el : Try.prog.elem 31 = 46 := by kernel_rfl
  have he : Try.prog.underlying 31 = some (.slice (Try.prog.elem 31)) := by rw [el]; exact Try.underlying31
  have hadd : (⟨b, off, none⟩ : Addr).add 0 = ⟨b, off, none⟩ := by unfold Addr.add; split <;> simp_all
  have sl1 : ∀ u, (Instr.slice 31 (.slice (some ⟨b, off, none⟩) X.length sc) none (some (.int .i64 (i : Int))) none).run Try.prog u = .ok (.slice (some ⟨b, off, none⟩) i sc) u := fun u => by
    rw [run_slice_h u 31 _ X.length sc he .i64 (i : Int) (by omega) (by omega), el, Try.sizeOf46]
    simp [Result.andThen, sliced, hadd]
  have sl2 : ∀ u, (Instr.slice 31 (.slice (some ⟨b, off, none⟩) X.length sc) (some (.int .i64 ((i : Int) + 1))) none none).run Try.prog u = .ok (sliced (some ⟨b, off, none⟩) (i + 1) X.length sc 8) u := fun u => by
    rw [run_slice_l u 31 _ X.length sc he .i64 ((i : Int) + 1) (by omega) (by omega), el, Try.sizeOf46]
    simp only [Result.andThen]
    rw [show ((i : Int) + 1).toNat = i + 1 by omega]
  have rd' : Rd HK w (sliced (some ⟨b, off, none⟩) (i + 1) X.length sc 8) (X.drop (i + 1)) := rd
  generalize sliced (some ⟨b, off, none⟩) (i + 1) X.length sc 8 = V2 at *
  have CC := fun u hu => cloneH_any (.slice (some ⟨b, off, none⟩) i sc) (X.take i) u hu (by rw [List.length_take]; omega)
  have wr1 : IntKind.i64.wrap ((i : Int) + 1) = (i : Int) + 1 := by rw [IntKind.wrap_i64]; omega
  have q1 : (X.take i).length + (X.drop (i + 1)).length ≤ maxLen := by rw [List.length_take, List.length_drop]; unfold maxLen; omega
  have q2 : ((X.take i).length + (X.drop (i + 1)).length) * 80 ≤ 140737488355328 := by rw [List.length_take, List.length_drop]; omega
  have Q1 : Hid _ := q1
  have Q2 : Hid _ := q2
  rw [← N] at sl1 sl2 ⊢
  clear rd h N q1 q2 el he hadd hb hf hi
  generalize X.take i = X1 at *
  generalize X.drop (i + 1) = X2 at *
  go_enter Try.func29, Try.ntmps29
  go_upto_region 1 with fail
  have ne : Nonempty (spc.In (ab.Ab w)) := ⟨⟨_, ab.Ab.refl w⟩⟩
  refine' lsn.told 8 _ [(3, undef)] [(3, 8)] (fun k v W => Own HK W w.heap.size v X1) (ab.Ab w) (fun W W' => Below W.heap.size W W') (by kernel_rfl) (by simp only [List.take]; exact rfl) (by simp only [List.drop]; exact rfl) (by kernel_rfl) (by kernel_rfl) (ab.Ab.drew w)
    (fun k v W W' hb h => Own.kept h hb) (by simp only [spc.rep, List.lookup, Nat.zero_add, Nat.reduceAdd, Nat.reduceBEq]; exact rfl) ?_
  repeat (go_big_quiet_step (fail))
  refine wpQuiet_nil ⟨?_, ?_, ?_⟩
  · simp only [List.forall_mem_cons, List.not_mem_nil, false_imp_iff, implies_true, and_true]
    rintro _ ⟨⟩
    rfl
  · simp only [List.forall_mem_cons, List.not_mem_nil, false_imp_iff, implies_true, and_true]
    rintro _ ⟨⟩ x u hC - -
    refine told.call1 30 _ _ _ rfl (by intro args w; simp [go_sem]) rfl ((CC u (rt.below hC)).mono ?_)
    rintro e w' ⟨v', rfl, o, hb⟩
    refine ⟨_, rfl, Below.trans hC (hb.mono (Below.size hC)), hb, ?_⟩
    rw [if_pos (by decide)]
    exact o.mono (Below.size hC)
  intro x W hC hS
  have own := hS (3, 8) (by simp)
  have rdW := rd'.below hC
  have wz := Below.size hC
  clear hS CC rt rd' ne sl1 sl2
  simp only [spc.jn, Act.put, List.setIfInBounds_toArray, List.set_cons_succ, List.set_cons_zero]
  refine app_rd HK W rfl _ _ rfl w.heap.size _ X1 rfl own V2 X2 rfl rdW Q1.out Q2.out wz ?_
  intro v' w' O b' _
  have bel := Below.trans hC (b'.mono (Nat.le_refl _))
  clear own rdW b' hC
  go_wp2_with fail
  go_ret
  exact ⟨_, rfl, O, bel⟩
end Go.Proofs.Ytlbpapngcgnepaa.fd1
/- A long function in parts: what follows a statement, by name; a part's own theorem stands for it where the walk arrives. -/
namespace Go.Proofs.Ytlbpapngcgnepaa.pts
/-- the first statement; what follows it -/
def fst : Code → Code
  | .seq a _ => a
  | c => c
def sec : Code → Code
  | .seq _ b => b
  | c => c
def secs : Nat → Code → Code
  | 0, c => c
  | n + 1, c => secs n (sec c)
def body (f : Func) : Code := f.body.getD .skip
/-- the n-th statement of a body; what follows it -/
def st (f : Func) (n : Nat) : Code := fst (secs n (body f))
def rest (f : Func) (n : Nat) : Code := sec (secs n (body f))
theorem part {P : Program} {c d : Code} {K : Act → World → Prop} {Q : Exit → Act → World → Prop} {a : Act} {w : World} (hK : ∀ a w, d.wp P Q a w → K a w) (h : c.wp P (Exit.then (d.wp P Q) Q) a w) : c.wp P (Exit.then K Q) a w :=
  wp_mono h fun e a w hh => by cases e <;> first | exact hK _ _ hh | exact hh
/-- a part's start, laid open -/
theorem start {P : Program} {c d : Code} {Q : Exit → Act → World → Prop} {a : Act} {w : World} (h : (Code.seq c d).wp P Q a w) : (Code.seq c d).wp P Q a w := h
end Go.Proofs.Ytlbpapngcgnepaa.pts
/- custref.Fed, from its last clone on. -/
namespace Go.Proofs.Ytlbpapngcgnepaa.fdz
open Go.ChangeShapes Go.WideShapes Go.ChangeAt Go.RowKit Go.BigFrame
open Go.Proofs.Ytlbpapngcgnepaa Go.Proofs.Ytlbpapngcgnepaa.ipb Go.Proofs.Ytlbpapngcgnepaa.boxes Go.Proofs.Ytlbpapngcgnepaa.ipr Go.Proofs.Ytlbpapngcgnepaa.frb Go.Proofs.Ytlbpapngcgnepaa.frp Go.Proofs.Ytlbpapngcgnepaa.pl Go.Proofs.Ytlbpapngcgnepaa.frx Go.Proofs.Ytlbpapngcgnepaa.frh Go.Proofs.Ytlbpapngcgnepaa.frf2 Go.Proofs.Ytlbpapngcgnepaa.frt Go.Proofs.Ytlbpapngcgnepaa.frfe
open Go.Proofs.Ytlbpapngcgnepaa.rws (Own Knd)

/-- heaps as values, and what they hold -/
def Ms (w : World) (X : List Hv) (L : List Hp) : Prop := X.length = L.length ∧ ∀ (j : Nat) x (h : Hp), X[j]? = some x → L[j]? = some h → x.h = h.h ∧ Rd TK w x.sl h.ps
theorem Ms.below {w w' : World} {X : List Hv} {L : List Hp} (h : Ms w X L) (hb : Below w.heap.size w w') : Ms w' X L := ⟨h.1, fun j x y hx hy => ⟨(h.2 j x y hx hy).1, (h.2 j x y hx hy).2.below hb⟩⟩
theorem Ms.prd {w : World} {v : Value} {X : List Hv} {L : List Hp} (h : Ms w X L) (hr : Rd HK w v X) : PRd w v L := ⟨X, hr, h.1, h.2⟩
theorem Ms.set {w : World} {X : List Hv} {L : List Hp} (h : Ms w X L) (i : Nat) (x : Hv) (y : Hp) (e : x.h = y.h) (hr : Rd TK w x.sl y.ps) : Ms w (X.set i x) (L.set i y) := by
  refine ⟨by simp [h.1], fun j a b ha hb => ?_⟩
  rw [List.getElem?_set] at ha hb
  by_cases hj : i = j
  · subst hj
    simp only [if_true] at ha hb
    split at ha
    · split at hb
      · cases ha; cases hb; exact ⟨e, hr⟩
      · cases hb
    · cases ha
  · rw [if_neg hj] at ha hb
    exact h.2 j a b ha hb
theorem Ms.wo {w : World} {X : List Hv} {L : List Hp} (h : Ms w X L) (i : Nat) : Ms w (X.take i ++ X.drop (i + 1)) (wo L i) := by
  have h1 := h.1
  refine ⟨by unfold frt.wo; simp [h1], fun j a b ha hb => ?_⟩
  unfold frt.wo at hb
  rw [List.getElem?_append] at ha hb
  rw [List.length_take] at ha hb
  rw [h1] at ha
  split at ha
  · rename_i hl
    rw [if_pos hl] at hb
    rw [List.getElem?_take] at ha hb
    split at ha
    · rename_i hl2
      rw [if_pos hl2] at hb
      exact h.2 j a b ha hb
    · cases ha
  · rename_i hl
    rw [if_neg hl] at hb
    rw [List.getElem?_drop] at ha hb
    exact h.2 _ a b ha hb
theorem Ms.snoc {w : World} {X : List Hv} {L : List Hp} (h : Ms w X L) (x : Hv) (y : Hp) (e : x.h = y.h) (hr : Rd TK w x.sl y.ps) : Ms w (X ++ [x]) (L ++ [y]) := by
  have h1 := h.1
  refine ⟨by simp [h1], fun j a b ha hb => ?_⟩
  rw [List.getElem?_append] at ha hb
  rw [h1] at ha
  split at ha
  · rename_i hl
    rw [if_pos hl] at hb
    exact h.2 j a b ha hb
  · rename_i hl
    rw [if_neg hl] at hb
    have : j - L.length = 0 := by
      rcases Nat.eq_zero_or_pos (j - L.length) with e | e
      · exact e
      · rw [List.getElem?_eq_none (by simp; omega)] at ha; cases ha
    rw [this] at ha hb
    simp at ha hb
    subst ha hb
    exact ⟨e, hr⟩
/-- a block that holds other cells is not where the row lies -/
theorem rd_but {α : Type} {K : Knd α} {w w' : World} {b : Nat} {F : Array Value} {t : TypeId} {v : Value} {l : List α} (hno : ∀ (x : α) (off : Nat), ∃ i, i < K.k ∧ F[off + i]? ≠ (K.enc x)[i]?) (h : Rd K w v l) (hb : Blk w b F t) (u : But b w w') : Rd K w' v l := by
  obtain ⟨sa, sc, rfl, hm, hf, hc⟩ := h
  refine ⟨sa, sc, rfl, hm, hf, fun h0 => ?_⟩
  obtain ⟨b', off, rfl, hlt, hx⟩ := hc h0
  have hne : b' ≠ b := by
    rintro rfl
    obtain ⟨i, hi, hn⟩ := hno (l[0]'h0) off
    have h1 := hx 0 _ (List.getElem?_eq_getElem h0) i hi
    rw [hb.cell, Nat.zero_mul, Nat.add_zero] at h1
    exact hn h1
  exact ⟨b', off, rfl, by rw [u.size]; exact hlt, fun j x hj i hi => (World.cell?_of_block (w := w) (a := ⟨b', off + j * K.k + i, none⟩) (u.block b' hne)).trans (hx j x hj i hi)⟩
theorem no_hv (x : Hv) (off : Nat) : ∃ i, i < HK.k ∧ zeroP.cells[off + i]? ≠ (HK.enc x)[i]? := by
  match off with
  | 0 => exact ⟨0, by decide, by show some (Value.int .i64 _) ≠ some (Value.int .u32 _); simp⟩
  | 1 => exact ⟨0, by decide, by show some (Value.int .i64 _) ≠ some (Value.int .u32 _); simp⟩
  | 2 => exact ⟨0, by decide, by show some (Value.bool _) ≠ some (Value.int .u32 _); simp⟩
  | 3 => exact ⟨0, by decide, by show some (Value.bool _) ≠ some (Value.int .u32 _); simp⟩
  | 4 => exact ⟨0, by decide, by show some (Value.int .i64 _) ≠ some (Value.int .u32 _); simp⟩
  | 5 => exact ⟨0, by decide, by show some (Value.int .i64 _) ≠ some (Value.int .u32 _); simp⟩
  | 6 => exact ⟨0, by decide, by show some (Value.int .i64 _) ≠ some (Value.int .u32 _); simp⟩
  | 7 => exact ⟨2, by decide, by show some (Value.string _) ≠ some (Value.int .i64 _); simp⟩
  | 8 => exact ⟨1, by decide, by show some (Value.string _) ≠ some (Value.int .u32 _); simp⟩
  | 9 => exact ⟨0, by decide, by show some (Value.string _) ≠ some (Value.int .u32 _); simp⟩
  | 10 => exact ⟨0, by decide, by show some (Value.string _) ≠ some (Value.int .u32 _); simp⟩
  | n + 11 => exact ⟨0, by decide, by rw [Array.getElem?_eq_none (by show 11 ≤ n + 11 + 0; omega)]; show none ≠ some (Value.int .u32 _); simp⟩
theorem no_pt (x : Pt) (off : Nat) : ∃ i, i < TK.k ∧ zeroP.cells[off + i]? ≠ (TK.enc x)[i]? := by
  match off with
  | 0 => exact ⟨1, by decide, by show some (Value.int .i64 _) ≠ some (Value.string _); simp⟩
  | 1 => exact ⟨1, by decide, by show some (Value.bool _) ≠ some (Value.string _); simp⟩
  | 2 => exact ⟨1, by decide, by show some (Value.bool _) ≠ some (Value.string _); simp⟩
  | 3 => exact ⟨1, by decide, by show some (Value.int .i64 _) ≠ some (Value.string _); simp⟩
  | 4 => exact ⟨1, by decide, by show some (Value.int .i64 _) ≠ some (Value.string _); simp⟩
  | 5 => exact ⟨1, by decide, by show some (Value.int .i64 _) ≠ some (Value.string _); simp⟩
  | 6 => exact ⟨1, by decide, by show some (Value.int .u32 _) ≠ some (Value.string _); simp⟩
  | 7 => exact ⟨1, by decide, by show some (Value.int .u32 _) ≠ some (Value.string _); simp⟩
  | 8 => exact ⟨2, by decide, by show some (Value.string _) ≠ some (Value.bool _); simp⟩
  | 9 => exact ⟨0, by decide, by show some (Value.string _) ≠ some (Value.int .i64 _); simp⟩
  | 10 => exact ⟨0, by decide, by show some (Value.string _) ≠ some (Value.int .i64 _); simp⟩
  | n + 11 => exact ⟨0, by decide, by rw [Array.getElem?_eq_none (by show 11 ≤ n + 11 + 0; omega)]; show none ≠ some (Value.int .i64 _); simp⟩
theorem Ms.but {w w' : World} {b : Nat} {t : TypeId} {X : List Hv} {L : List Hp} (h : Ms w X L) (hb : Blk w b zeroP.cells t) (u : But b w w') : Ms w' X L := ⟨h.1, fun j x y hx hy => ⟨(h.2 j x y hx hy).1, rd_but no_pt (h.2 j x y hx hy).2 hb u⟩⟩
theorem prd_but {w w' : World} {b : Nat} {t : TypeId} {v : Value} {L : List Hp} (h : PRd w v L) (hb : Blk w b zeroP.cells t) (u : But b w w') : PRd w' v L := by
  obtain ⟨X, hr, hM⟩ := h
  exact ⟨X, rd_but no_hv hr hb u, Ms.but hM hb u⟩
end Go.Proofs.Ytlbpapngcgnepaa.fdz
/- A store of an element into a row of the call's own: the row with it in its place. -/
namespace Go.Proofs.Ytlbpapngcgnepaa.ownst
open Go.ChangeShapes Go.WideShapes Go.ChangeAt Go.RowKit
open Go.Proofs.Ytlbpapngcgnepaa.boxes Go.Proofs.Ytlbpapngcgnepaa.rws

theorem cs_set {α : Type} (K : Knd α) : ∀ (l : List α) (i : Nat) (y : α), i < l.length → K.cs (l.set i y) = (K.cs l).take (i * K.k) ++ ((K.enc y).toList ++ (K.cs l).drop (i * K.k + K.k))
  | [], _, _, h => absurd h (by simp)
  | x :: r, 0, y, _ => by
    have e1 : K.cs (x :: r) = (K.enc x).toList ++ K.cs r := rfl
    have e2 : K.cs ((x :: r).set 0 y) = (K.enc y).toList ++ K.cs r := rfl
    have hl : (K.enc x).toList.length = K.k := by rw [Array.length_toList, K.hk]
    rw [e2, e1, Nat.zero_mul, List.take_zero, List.nil_append, Nat.zero_add, ← hl, List.drop_left]
  | x :: r, i + 1, y, h => by
    have e1 : K.cs (x :: r) = (K.enc x).toList ++ K.cs r := rfl
    have e2 : K.cs ((x :: r).set (i + 1) y) = (K.enc x).toList ++ K.cs (r.set i y) := rfl
    have hl : (K.enc x).toList.length = K.k := by rw [Array.length_toList, K.hk]
    have ih := cs_set K r i y (by simpa using h)
    have m1 : (i + 1) * K.k = (K.enc x).toList.length + i * K.k := by rw [hl, Nat.add_mul, Nat.one_mul, Nat.add_comm]
    have m2 : (i + 1) * K.k + K.k = (K.enc x).toList.length + (i * K.k + K.k) := by rw [m1, Nat.add_assoc]
    rw [e2, e1, ih, m2, m1, List.take_length_add_append, List.drop_length_add_append, List.append_assoc]
theorem own_store {α : Type} {ops : Array Oper} {rest : List Oper} {o : Oper} {a : Act} {Q : Exit → Act → World → Prop} (K : Knd α) (W : World) (hgd : o.guard = none) (x z : Operand) (ho : o.op = .store K.e x z)
    (B g cap : Nat) (l : List α) (h : Own K W B (.slice (some ⟨g, 0, none⟩) l.length cap) l) (i : Nat) (hi : i < l.length) (hx : a.eval x = .pointer (some ⟨g, i * K.k, none⟩)) (y : α) (hz : a.eval z = .agg (K.enc y))
    (hK : ∀ W', Own K W' B (.slice (some ⟨g, 0, none⟩) l.length cap) (l.set i y) → But g W W' → wpList Try.prog ops Q rest (a.put o.dst undef) W') : wpList Try.prog ops Q (o :: rest) a W := by
  rcases h.2 with ⟨e, _⟩ | ⟨g', cap', cur, ev, hB, hg, hnc, hm, hcs, htake⟩
  · cases e
  simp only [Value.slice.injEq, Option.some.injEq, Addr.mk.injEq, and_true] at ev
  obtain ⟨rfl, _, rfl⟩ := ev
  refine wpList_plain hgd fun _ hK' => ?_
  obtain ⟨i0, hi0, _, hz1, _⟩ := info_parts K.info
  have hk := K.hk y
  have hkl : i * K.k + K.k ≤ l.length * K.k := by
    have := Nat.mul_le_mul_right K.k (show i + 1 ≤ l.length by omega)
    rwa [Nat.add_mul, Nat.one_mul] at this
  have hlc : l.length * K.k ≤ cur.size := by rw [hcs]; exact Nat.mul_le_mul_right _ hnc
  have hst := run_storeCells_at (P := Try.prog) g (i * K.k) K.e (K.enc y).toList 0 cur W hg (by rw [Array.length_toList, hk]; omega) (fun v hv => Array.all_eq_true'.1 (K.h1 y) v (by simpa using hv))
  have hsv : (storeVar K.e ⟨g, i * K.k, none⟩ (.agg (K.enc y))).run Try.prog W = .ok () (W.setRow g (cur.toList.take (i * K.k + 0) ++ (K.enc y).toList ++ cur.toList.drop (i * K.k + 0 + (K.enc y).toList.length)).toArray) := by
    have hs : (K.enc y).size = i0.size := by rw [hk, hz1]
    simp [storeVar, sizeOf, typeInfo, hi0, Value.cells, hs, hst]
  unfold Oper.wp execOp
  simp only [ho, hx, hz, Instr.storeAt, Instr.sureAddr, Sem.run_bind, Sem.run_pure, Result.andThen_ok, hsv]
  refine hK' _ _ (hK _ ⟨by rw [cs_length], .inr ⟨g, cap, _, by simp, hB, setRow_heap W g cur _ K.e _ hg, by simpa using hnc, hm, ?_, ?_⟩⟩ (but_setRow W g _))
  · simp only [List.size_toArray, List.length_append, List.length_take, List.length_drop, Array.length_toList, hk]
    omega
  · have hl2 : (K.enc y).toList.length = K.k := by rw [Array.length_toList, hk]
    rw [cs_set K l i y hi, ← htake, List.length_set, Nat.add_zero, hl2]
    apply List.ext_getElem?
    intro t
    simp only [List.getElem?_append, List.getElem?_take, List.getElem?_drop, List.length_take, Array.length_toList, hk, List.append_assoc]
    rw [Nat.min_eq_left (show i * K.k ≤ cur.size by omega), Nat.min_eq_left (show i * K.k ≤ min (l.length * K.k) cur.size by omega)]
    by_cases h1 : t < i * K.k
    · simp only [h1, if_true, show t < l.length * K.k by omega]
    · by_cases h2 : t - i * K.k < K.k
      · simp only [h1, h2, if_true, if_false]
        by_cases h3 : t < l.length * K.k
        · simp [h3]
        · omega
      · simp only [h1, h2, if_false]
        by_cases h3 : t < l.length * K.k
        · simp only [h3, if_true]
          rw [if_pos (by omega)]
        · simp only [h3, if_false]
          rw [if_neg (by omega)]
end Go.Proofs.Ytlbpapngcgnepaa.ownst
/- custref.Fed, from its last clone on. -/
namespace Go.Proofs.Ytlbpapngcgnepaa.fdy
open Go.ChangeShapes Go.WideShapes Go.ChangeAt Go.RowKit Go.BigFrame
open Go.Proofs.Ytlbpapngcgnepaa Go.Proofs.Ytlbpapngcgnepaa.ipb Go.Proofs.Ytlbpapngcgnepaa.boxes Go.Proofs.Ytlbpapngcgnepaa.ipr Go.Proofs.Ytlbpapngcgnepaa.frb Go.Proofs.Ytlbpapngcgnepaa.frp Go.Proofs.Ytlbpapngcgnepaa.pl Go.Proofs.Ytlbpapngcgnepaa.frx Go.Proofs.Ytlbpapngcgnepaa.frh Go.Proofs.Ytlbpapngcgnepaa.frf2 Go.Proofs.Ytlbpapngcgnepaa.frt Go.Proofs.Ytlbpapngcgnepaa.frfe Go.Proofs.Ytlbpapngcgnepaa.fdz
open Go.Proofs.Ytlbpapngcgnepaa.rws (Own Knd)

/-- what Fed leaves, begun in w -/
def Post (w : World) (T : Tk) (e : Ending) (w' : World) : Prop := ∃ v', e = .returned (.tuple #[v', .agg T.q.cells, .bool T.ok, .int .i64 T.e]) ∧ PRd w' v' T.L ∧ Below w.heap.size w w'
set_option maxRecDepth 20000 in
set_option maxHeartbeats 4000000 in
theorem from46 (w W : World) (T : Tk) (v : Value) (X : List Hv) (L : List Hp) (i bh : Nat) (x : Hv) (ps : List Pt) (h : Rd HK W v X) (hM : Ms W X L) (hb : X.length * 80 ≤ 140737488355328) (hi : i < X.length) (hx : Rd TK W x.sl ps) (H : Blk W bh x.cells 46)
    (R : Blk W (w.heap.size + 1) zeroP.cells 24) (Z : Blk W (w.heap.size + 1 + 1) zeroP.cells 24) (bel : Below w.heap.size w W) (E : Hid (T = ⟨L.set i ⟨x.h, ps⟩, zeroP, false, 0⟩))
    (z1 z2 z4 z6 z7 z9 z12 z13 z14 z15 z16 z17 z18 z19 z20 z21 z22 z23 z24 z25 z26 z27 z28 z29 z30 z31 z32 z33 z34 z35 z36 z37 z38 z39 z40 z41 z42 z43 z44 z45 z46 z47 z48 z49 z50 z51 z52 z53 z54 z55 z56 z57 z58 z59 z60 z61 z62 z63 z64 z65 z66 z67 z68 z69 z70 z71 z72 z73 z74 z75 z76 z77 z78 z79 z80 z81 z82 z83 z84 z85 z86 z87 z88 z89 z90 z91 z92 z93 z94 z95 z96 z97 z98 z99 z100 z101 z102 z103 z104 z105 z106 z107 z108 z109 z110 z111 z112 z113 z114 z115 z116 z117 z118 z119 z120 z121 z122 z123 z124 z125 z126 z127 z128 z129 z130 z131 z132 z133 z134 z135 z136 z137 z138 z139 z140 z141 z142 z143 z144 z145 z146 z147 z148 z149 z150 z151 z152 z153 z154 z155 z156 z157 z158 z159 z160 z161 z162 z163 z164 z165 z166 z167 z168 z169 z170 z171 z172 z173 z174 z175 z176 z177 z178 z179 z180 z181 z182 z183 z184 z185 z186 z187 z188 z189 z190 z191 z192 z193 z194 z195 z196 z197 z198 z199 z200 z201 z202 z203 z204 z205 z206 z207 z208 z209 z210 z211 z212 z213 z214 z215 z216 z217 z218 z219 z220 z221 z222 z223 z224 z225 z226 z227 z228 z229 z230 z231 z232 z233 z234 z235 z236 z237 z238 z239 z240 z241 z242 z243 z244 z245 z246 z247 z248 z249 z250 z251 z252 z253 z254 z255 z256 z257 z258 z259 z260 z261 z262 z263 z264 z265 : Value) :
    (pts.st Try.f13 22).wp Try.prog (Exit.then ((pts.rest Try.f13 22).wp Try.prog (bodyPost Try.prog Try.f13 (Post w T))) (bodyPost Try.prog Try.f13 (Post w T))) { tmps := #[v, z1, z2, .pointer (some ⟨w.heap.size, 0, none⟩), z4, .pointer (some ⟨w.heap.size + 1, 0, none⟩), z6, z7, .pointer (some ⟨w.heap.size + 1 + 1, 0, none⟩), z9, .int .i64 (i : Int), .pointer (some ⟨bh, 0, none⟩), z12, z13, z14, z15, z16, z17, z18, z19, z20, z21, z22, z23, z24, z25, z26, z27, z28, z29, z30, z31, z32, z33, z34, z35, z36, z37, z38, z39, z40, z41, z42, z43, z44, z45, z46, z47, z48, z49, z50, z51, z52, z53, z54, z55, z56, z57, z58, z59, z60, z61, z62, z63, z64, z65, z66, z67, z68, z69, z70, z71, z72, z73, z74, z75, z76, z77, z78, z79, z80, z81, z82, z83, z84, z85, z86, z87, z88, z89, z90, z91, z92, z93, z94, z95, z96, z97, z98, z99, z100, z101, z102, z103, z104, z105, z106, z107, z108, z109, z110, z111, z112, z113, z114, z115, z116, z117, z118, z119, z120, z121, z122, z123, z124, z125, z126, z127, z128, z129, z130, z131, z132, z133, z134, z135, z136, z137, z138, z139, z140, z141, z142, z143, z144, z145, z146, z147, z148, z149, z150, z151, z152, z153, z154, z155, z156, z157, z158, z159, z160, z161, z162, z163, z164, z165, z166, z167, z168, z169, z170, z171, z172, z173, z174, z175, z176, z177, z178, z179, z180, z181, z182, z183, z184, z185, z186, z187, z188, z189, z190, z191, z192, z193, z194, z195, z196, z197, z198, z199, z200, z201, z202, z203, z204, z205, z206, z207, z208, z209, z210, z211, z212, z213, z214, z215, z216, z217, z218, z219, z220, z221, z222, z223, z224, z225, z226, z227, z228, z229, z230, z231, z232, z233, z234, z235, z236, z237, z238, z239, z240, z241, z242, z243, z244, z245, z246, z247, z248, z249, z250, z251, z252, z253, z254, z255, z256, z257, z258, z259, z260, z261, z262, z263, z264, z265], defers := [] } W := by
  conv in pts.st _ _ => whnf
  conv in pts.rest _ _ => whnf
  have CC := fun u hu => fd1.cloneH_any v X u hu hb
  go_wp2_with fail
  refine (CC _ h).mono ?_
  rintro e W1 ⟨v1, rfl, O1, hb1⟩
  have H1 := H.below hb1 H.lt
  have R1 := R.below hb1 R.lt
  have Z1 := Z.below hb1 Z.lt
  have M1 := hM.below hb1
  have x1 := hx.below hb1
  have b1 := bel.trans (hb1.mono bel.size)
  have sz1 := hb1.size
  have rl := R.lt
  have zl := Z.lt
  clear CC h H R Z
  obtain ⟨g, cap, rfl, hg0, hg1, hnc, hmx, hcells⟩ := O1.form (by omega)
  clear hcells
  have i0 : (0 : Int) ≤ (i : Int) := by omega
  have i1 : (i : Int) < (X.length : Int) := by omega
  go_wp2_with (first | refine blk_load _ rfl 46 _ rfl bh rfl _ _ H1 _ Try.underlying46 rfl 8 hp_info rfl ?_ | refine ownst.own_store HK _ rfl _ _ rfl W.heap.size g cap X O1 i hi rfl x rfl ?_)
  intro W2 O2 u2
  have bW := u2.below hb1 hg0
  have M2 := (hM.below bW).set i x ⟨x.h, ps⟩ rfl (hx.below bW)
  have P2 := M2.prd (v := .slice (some ⟨g, 0, none⟩) X.length cap) (frp.Own.rd (show Own HK W2 W.heap.size _ (X.set i x) from O2))
  have R2 := u2.blk R1 (by omega)
  have Z2 := u2.blk Z1 (by omega)
  have b2 := u2.below b1 (by have := bel.size; omega)
  clear O1 O2 u2 bW M2 hM hx H1 R1 Z1 M1 x1 b1 hb1 i0 i1 bel
  go_upto_region 48 with fail
  have ne := ab.ne W2
  have cc := ab.cells Z2
  refine lsn.region 3 _ (ab.Ab W2) (by kernel_rfl) (by simp only [List.take]; exact rfl) (by simp only [List.drop]; exact rfl) (by kernel_rfl) (by kernel_rfl) (ab.Ab.drew _) ?_
  repeat (go_big_quiet_step (fail))
  refine wpQuiet_nil ?_
  intro _ hx
  obtain ⟨x, rfl⟩ := hx
  obtain ⟨Wx, Kx⟩ := x
  have Rx : Blk Wx (w.heap.size + 1) zeroP.cells 24 := R2.below Kx R2.lt
  have bx : Below w.heap.size w Wx := b2.trans (Kx.mono b2.size)
  clear ne cc
  go_wp2_with (refine blk_store _ rfl 24 _ _ rfl (w.heap.size + 1) zeroP.cells rfl rfl _ _ Rx 11 pk_info rfl rfl (pk_one zeroP) ?_)
  intro Wy ky uy
  have by_ := uy.below bx (by omega)
  go_wp2_with fail
  exact blk_ret4 rfl rfl _ _ _ rfl ky _ Try.underlying24 rfl 11 pk_info rfl ⟨_, ret_feed (by rw [E.out]) (by rw [E.out]) (by rw [E.out]), by rw [E.out]; exact prd_but (P2.below Kx) Rx uy, by_⟩
end Go.Proofs.Ytlbpapngcgnepaa.fdy
