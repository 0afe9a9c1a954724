/- What frag.heapFor answers: where the heap of a packet is, a new one if there is none. -/
import Derived.Test.YtlbpapngcgnepaaFragDelete
import Derived.Test.YtlbpapngcgnepaaFragSmall
namespace Go.Proofs.Ytlbpapngcgnepaa.frh
open Go.ChangeShapes Go.WideShapes Go.ChangeAt Go.RowKit Go.BigFrame
open Go.Proofs.Ytlbpapngcgnepaa Go.Proofs.Ytlbpapngcgnepaa.ipb Go.Proofs.Ytlbpapngcgnepaa.boxes Go.Proofs.Ytlbpapngcgnepaa.ipr Go.Proofs.Ytlbpapngcgnepaa.frb Go.Proofs.Ytlbpapngcgnepaa.frp Go.Proofs.Ytlbpapngcgnepaa.pl Go.Proofs.Ytlbpapngcgnepaa.frd Go.Proofs.Ytlbpapngcgnepaa.frx
open Go.Proofs.Ytlbpapngcgnepaa.rws (Own Knd app_one)

/-- parts stand while the row of heaps turns -/
theorem part_kept {w w' : World} {B : Nat} {v : Value} {Q : List Hq} (h : Pool w B v Q) (g : w.grownBy w' v.ownBlock) : ∀ q ∈ Q, Own TK w' B q.v.sl q.ps := fun q hq => by
  refine World.ownsRow.kept (row := v.ownBlock) (h.part q hq) g ?_
  cases hv : v.ownBlock with
  | none =>
    cases hs : q.v.sl.ownBlock with
    | none => exact Or.inl rfl
    | some k => exact Or.inr (by simp)
  | some k => exact Or.inr (ne_kind h.row (h.part q hq) hv)
/-- a pool, some of its heaps left out -/
theorem Pool.less {w w' : World} {B : Nat} {v v' : Value} {Q Q' : List Hq} (h : Pool w B v Q) (g : w.grownBy w' v.ownBlock) (hs : Q'.Sublist Q) (hr : Own HK w' B v' (Q'.map (·.v))) : Pool w' B v' Q' :=
  ⟨hr, fun q hq => part_kept h g q (hs.subset hq), h.apart.sublist hs⟩
/-- a heap without parts -/
def newQ (p : Pk) : Hq := ⟨⟨⟨p.fr, p.to, p.pr, p.id, 0, 0, ⟨#[]⟩⟩, none, 0, 0⟩, []⟩
def newH (p : Pk) : Hp := ⟨⟨p.fr, p.to, p.pr, p.id, 0, 0, ⟨#[]⟩⟩, []⟩
theorem Pool.more {w w' : World} {B : Nat} {v v' : Value} {Q : List Hq} (p : Pk) (h : Pool w B v Q) (g : w.grownBy w' v.ownBlock) (hr : Own HK w' B v' ((Q ++ [newQ p]).map (·.v))) : Pool w' B v' (Q ++ [newQ p]) := by
  refine ⟨hr, fun q hq => ?_, ?_⟩
  · rcases List.mem_append.1 hq with hq | hq
    · exact part_kept h g q hq
    · simp at hq; subst hq
      exact Own.nil _ _ _
  · rw [List.pairwise_append]
    refine ⟨h.apart, List.pairwise_singleton _ _, fun a _ b hb => ?_⟩
    simp at hb; subst hb
    unfold Apart
    cases hs : a.v.sl.ownBlock with
    | none => exact Or.inl rfl
    | some k => exact Or.inr (by intro e; cases e)
theorem grown_trans {w w1 w2 : World} {r : Option Nat} (h1 : Below w.heap.size w w1) (h2 : w1.grownBy w2 r) : w.grownBy w2 r :=
  ⟨h2.os.trans h1.os, h2.tape.trans h1.tape, h2.output.trans h1.output, Nat.le_trans h1.size h2.size, fun k hk hn => (h2.block k (Nat.lt_of_lt_of_le hk h1.size) hn).trans (h1.block k hk)⟩
theorem grown_below {w w' : World} {B : Nat} {v : Value} {Q : List Hq} (h : Pool w B v Q) (g : w.grownBy w' v.ownBlock) (hB : B ≤ w.heap.size) : Below B w w' :=
  (Below.refl _ _).grown g hB (fun k hk => (World.ownsRow.lt h.row k hk).1)
/-- the pool with the heap of a packet, and where that is -/
def forL (L : List Hp) (p : Pk) : List Hp := if 0 ≤ fnd (pnm p) (L.map (·.h)) 0 then L else (if L.length = 16 then L.drop 1 else L) ++ [newH p]
def forAt (L : List Hp) (p : Pk) : Int := if 0 ≤ fnd (pnm p) (L.map (·.h)) 0 then fnd (pnm p) (L.map (·.h)) 0 else ((if L.length = 16 then L.drop 1 else L).length : Nat)
set_option maxRecDepth 20000 in
set_option maxHeartbeats 4000000 in
theorem for_any (v : Value) (Q : List Hq) (p : Pk) (B : Nat) (w : World) (h : Pool w B v Q) (h16 : Q.length ≤ 16) (hB : B ≤ w.heap.size) :
    Calls Try.prog 53 #[v, .agg p.cells] w fun e w' => ∃ v' Q', e = .returned (.tuple #[v', .int .i64 (forAt (Q.map Hq.p) p)]) ∧ Pool w' B v' Q' ∧ Q'.map Hq.p = forL (Q.map Hq.p) p ∧ w.grownBy w' v.ownBlock := by
  have F0 := Blk.new w p.cells 24
  have b0 := (Below.refl w.heap.size w).alloc (Nat.le_refl _) (.cells p.cells 24)
  have CN := fun u => nameP_any p u
  have hmap : (Q.map (·.v)).map (·.h) = (Q.map Hq.p).map (·.h) := by simp [Hq.p]
  have CF : ∀ u, Below w.heap.size w u → Calls Try.prog 34 #[v, .agg (pnm p).cells] u fun e w' => e = .returned (.int .i64 (fnd (pnm p) ((Q.map Hq.p).map (·.h)) 0)) ∧ Below u.heap.size u w' := fun u hu => by
    have := find_any v (Q.map (·.v)) (pnm p) u (Own.rd (h.row.kept hu))
    rw [hmap] at this
    exact this
  obtain ⟨at_, hat⟩ : ∃ a, Hid (forAt (Q.map Hq.p) p = a) := ⟨_, rfl⟩
  rw [hat.out]
  have hfa : Hid (at_ = if 0 ≤ fnd (pnm p) ((Q.map Hq.p).map (·.h)) 0 then fnd (pnm p) ((Q.map Hq.p).map (·.h)) 0 else ((if (Q.map Hq.p).length = 16 then (Q.map Hq.p).drop 1 else Q.map Hq.p).length : Nat)) := by rw [← hat.out]; exact (rfl : _ = _)
  have hfl : Hid (forL (Q.map Hq.p) p = if 0 ≤ fnd (pnm p) ((Q.map Hq.p).map (·.h)) 0 then Q.map Hq.p else (if (Q.map Hq.p).length = 16 then (Q.map Hq.p).drop 1 else Q.map Hq.p) ++ [newH p]) := rfl
  generalize fnd (pnm p) ((Q.map Hq.p).map (·.h)) 0 = F at CF hfa hfl
  generalize pnm p = nm at CN CF
  clear hat hmap
  go_enter Try.func53, Try.ntmps53
  go_wp2_with (refine blk_load _ rfl 24 _ rfl w.heap.size rfl _ _ F0 _ Try.underlying24 rfl 11 pk_info rfl ?_)
  refine (CN _).mono ?_
  rintro e w1 ⟨rfl, c1⟩
  have b1 := b0.trans (c1.mono b0.size)
  have F1 := F0.below c1 F0.lt
  clear CN
  go_wp2_with fail
  refine (CF _ b1).mono ?_
  rintro e w2 ⟨rfl, c2⟩
  have b2 := b1.trans (c2.mono b1.size)
  have F2 := F1.below c2 F1.lt
  have h2 := h.kept b2
  clear CF c1 c2 F0 F1 b0 b1
  by_cases hf : 0 ≤ F
  · have ea : at_ = F := by have := hfa.out; rw [if_pos hf] at this; exact this
    have el : Q.map Hq.p = forL (Q.map Hq.p) p := by have := hfl.out; rw [if_pos hf] at this; exact this.symm
    subst ea
    clear hfa hfl
    go_wp2_with fail
    go_ret2
    exact ⟨_, Q, rfl, h2, el, ⟨b2.os, b2.tape, b2.output, b2.size, fun k hk _ => b2.block k hk⟩⟩
  · have hlq : (Q.map Hq.p).length = Q.length := by simp
    have hpos : ∀ (v4 : Value) (w3 w4 : World) (o : Obj) (Q3 : List Hq), Pool w3 B v4 Q3 → (w3.alloc o).grownBy w4 v4.ownBlock → w3.grownBy w4 v4.ownBlock := fun v4 w3 w4 o Q3 _ g => ⟨g.os, g.tape, g.output, Nat.le_trans (by simp) g.size, fun k hk hn => (g.block k (by simp; omega) hn).trans (Below.heap_alloc w3 o k hk)⟩
    have sB : B ≤ w2.heap.size := Nat.le_trans hB b2.size
    by_cases hq : Q.length = 16
    · have ea : at_ = (15 : Int) := by
        have := hfa.out
        rw [if_neg hf, hlq, if_pos hq] at this
        rw [this]; simp; omega
      have el : forL (Q.map Hq.p) p = (Q.drop 1 ++ [newQ p]).map Hq.p := by
        have := hfl.out
        rw [if_neg hf, hlq, if_pos hq] at this
        rw [this]; simp [newQ, newH, Hq.p]
      subst ea
      obtain ⟨g, cap, rfl, hg0, hg1, hnc, hmx, _⟩ := h2.row.form (by simp; omega)
      have hX : (Q.map (·.v)).length = 16 := by simp; omega
      have CD : ∀ u, Own HK u B (.slice (some ⟨g, 0, none⟩) 16 cap) (Q.map (·.v)) → Calls Try.prog 55 #[.slice (some ⟨g, 0, none⟩) 16 cap, .int .i64 0, .int .i64 1] u fun e w' => e = .returned (.slice (some ⟨g, 0, none⟩) 15 cap) ∧ Own HK w' B (.slice (some ⟨g, 0, none⟩) 15 cap) ((Q.drop 1).map (·.v)) ∧ u.grownBy w' (some g) := fun u hu => by
        have hh := del_any (Q.map (·.v)) B g cap 0 u (by rw [hX]; exact hu) (by omega)
        rw [hX] at hh
        refine Calls.mono hh ?_
        rintro e w' ⟨rfl, o, gg⟩
        refine ⟨rfl, ?_, gg⟩
        rw [List.take_zero, List.nil_append, ← List.map_drop] at o
        exact o
      rw [hX] at h2
      have hq' : ((16 : Nat) : Int) = 16 := rfl
      clear hfa hfl
      go_wp2_with fail
      refine (CD w2 h2.row).mono ?_
      rintro e w3 ⟨rfl, O3, g3⟩
      have h3 : Pool w3 B (.slice (some ⟨g, 0, none⟩) 15 cap) (Q.drop 1) := Pool.less h2 g3 (List.drop_sublist 1 Q) O3
      have gg3 : w.grownBy w3 (some g) := grown_trans b2 g3
      have F3 : Blk w3 w.heap.size p.cells 24 := (g3.block w.heap.size F2.lt (fun e => by
        have e1 : w.heap.size = g := Option.some.inj e
        have e2 : g < w.heap.size := (World.ownsRow.lt h.row g rfl).2
        omega)).trans F2
      have s3 : B ≤ w3.heap.size := Nat.le_trans sB g3.size
      have c3 := F3.cell
      have l3 := F3.lt
      have hl3 : (Q.drop 1).length = 15 := by simp; omega
      clear CD g3 O3
      go_wp2_with (at_builtin; refine app_one HK _ rfl _ _ rfl B _ _ rfl (h3.row.alloc _) _ 1 (newQ p).v 46 rfl (Blk.newAt _ _ _ (by simp)) (by unfold maxLen; simp; omega) (by show (_ + 1) * 80 ≤ _; simp; omega) (by simp; omega) ?_)
      intro v4 w4 O4 _ g4
      have g5 := hpos _ _ _ _ _ h3 g4
      have R : Pool w4 B v4 (Q.drop 1 ++ [newQ p]) := Pool.more p h3 g5 (by rw [List.map_append, List.map_drop, List.drop_one]; exact O4)
      have b5 : w.grownBy w4 (some g) := ⟨g5.os.trans gg3.os, g5.tape.trans gg3.tape, g5.output.trans gg3.output, Nat.le_trans gg3.size g5.size, fun k hk hn => (g5.block k (Nat.lt_of_lt_of_le hk gg3.size) hn).trans (gg3.block k hk hn)⟩
      obtain ⟨sa4, sc4, hv4⟩ := (Own.rd R.row).form
      have hX4 : ((Q.drop 1 ++ [newQ p]).map (·.v)).length = 16 := by simp; omega
      rw [hX4] at hv4
      subst hv4
      clear O4 g4 g5
      go_wp2_with fail
      go_ret2
      exact ⟨_, _, rfl, R, el.symm, b5⟩
    · have ea : at_ = (Q.length : Int) := by
        have := hfa.out
        rw [if_neg hf, hlq, if_neg hq] at this
        rw [this]; simp
      have el : forL (Q.map Hq.p) p = (Q ++ [newQ p]).map Hq.p := by
        have := hfl.out
        rw [if_neg hf, hlq, if_neg hq] at this
        rw [this]; simp [newQ, newH, Hq.p]
      subst ea
      obtain ⟨sa, sc, hv⟩ := (Own.rd h2.row).form
      have hX : (Q.map (·.v)).length = Q.length := by simp
      rw [hX] at hv
      subst hv
      have hq' : ¬ (Q.length : Int) = 16 := by omega
      have c2 := F2.cell
      have l2 := F2.lt
      clear hfa hfl
      go_wp2_with (at_builtin; refine app_one HK _ rfl _ _ rfl B _ _ rfl (h2.row.alloc _) _ 1 (newQ p).v 46 rfl (Blk.newAt _ _ _ (by simp)) (by unfold maxLen; simp; omega) (by show (_ + 1) * 80 ≤ _; simp; omega) (by simp; omega) ?_)
      intro v4 w4 O4 _ g4
      have g5 := hpos _ _ _ _ _ h2 g4
      have R : Pool w4 B v4 (Q ++ [newQ p]) := Pool.more p h2 g5 (by rw [List.map_append]; exact O4)
      have b5 := grown_trans b2 g5
      obtain ⟨sa4, sc4, hv4⟩ := (Own.rd R.row).form
      have hX4 : ((Q ++ [newQ p]).map (·.v)).length = Q.length + 1 := by simp
      rw [hX4] at hv4
      subst hv4
      clear O4 g4 g5
      go_wp2_with fail
      go_ret2
      exact ⟨_, _, rfl, R, el.symm, b5⟩
end Go.Proofs.Ytlbpapngcgnepaa.frh
