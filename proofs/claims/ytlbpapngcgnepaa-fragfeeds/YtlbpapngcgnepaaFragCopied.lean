/- What frag.copied answers: a pool of the call's own that holds the same. -/
import Derived.Test.YtlbpapngcgnepaaJoinA
namespace Go.Proofs.Ytlbpapngcgnepaa.frcp
open Go.ChangeShapes Go.WideShapes Go.ChangeAt Go.RowKit Go.BigFrame
open Go.Proofs.Ytlbpapngcgnepaa Go.Proofs.Ytlbpapngcgnepaa.ipb Go.Proofs.Ytlbpapngcgnepaa.boxes Go.Proofs.Ytlbpapngcgnepaa.frb Go.Proofs.Ytlbpapngcgnepaa.frp Go.Proofs.Ytlbpapngcgnepaa.pl
open Go.Proofs.Ytlbpapngcgnepaa.rws (Own Knd app_own elem_load)

def zHv : Hv := ⟨⟨0, 0, 0, 0, 0, 0, ⟨#[]⟩⟩, none, 0, 0⟩
/-- what holds at the head of the loop -/
structure Inv (w : World) (n : Nat) (L : List Hp) (i : Nat) (Q : List Hq) (W : World) : Prop where
  len : Q.length = i
  le : i ≤ n
  row : Own HK W w.heap.size (.slice (some ⟨w.heap.size, 0, none⟩) n n) (Q.map (·.v) ++ List.replicate (n - i) zHv)
  part : ∀ q ∈ Q, Own TK W w.heap.size q.v.sl q.ps
  apart : Q.Pairwise Apart
  same : Q.map Hq.p = L.take i
  bel : Below w.heap.size w W
theorem set_next (Q : List Hq) (n i : Nat) (y : Hq) (hl : Q.length = i) (hi : i < n) : (Q.map (·.v) ++ List.replicate (n - i) zHv).set i y.v = (Q ++ [y]).map (·.v) ++ List.replicate (n - (i + 1)) zHv := by
  obtain ⟨m, hm⟩ : ∃ m, n - i = m + 1 := ⟨n - i - 1, by omega⟩
  rw [hm, show n - (i + 1) = m by omega, List.set_append_right i y.v (by simp [hl])]
  simp [hl, List.replicate_succ]
set_option maxRecDepth 20000 in
set_option maxHeartbeats 8000000 in
theorem copied_any (v : Value) (L : List Hp) (w : World) (h : PRd w v L) (hL : L.length * 80 ≤ 140737488355328) (hP : ∀ x ∈ L, x.ps.length * 32 ≤ 140737488355328) :
    Calls Try.prog 24 #[v] w fun e w' => ∃ v' Q, e = .returned v' ∧ Pool w' w.heap.size v' Q ∧ Q.map Hq.p = L ∧ Below w.heap.size w w' := by
  obtain ⟨X, hr, hl, hX⟩ := h
  obtain ⟨sa, sc, rfl, hm, hf, hc⟩ := hr
  obtain ⟨n, hn⟩ : ∃ n, X.length = n := ⟨_, rfl⟩
  have hmx : n ≤ 1759218604441 := by omega
  have hel : ∀ (i : Nat), i < n → ∃ x h, X[i]? = some x ∧ L[i]? = some h ∧ x.h = h.h ∧ Rd TK w x.sl h.ps := fun i hi => by
    have e1 : X[i]? = some (X[i]'(by omega)) := List.getElem?_eq_getElem (by omega)
    have e2 : L[i]? = some (L[i]'(by omega)) := List.getElem?_eq_getElem (by omega)
    exact ⟨_, _, e1, e2, hX i _ _ e1 e2⟩
  rw [hn]
  go_enter Try.func24, Try.ntmps24
  go_wp2_with (at_make; refine make_full HK zHv rfl _ rfl _ _ rfl w.heap.size _ _ n rfl rfl (by show 80 * n ≤ _; omega) (by unfold maxLen; omega) (Nat.le_refl _) ?_)
  intro W0 O0 b0
  have I0 : Inv w n L 0 [] W0 := ⟨rfl, Nat.zero_le _, O0, fun q hq => by simp at hq, List.Pairwise.nil, rfl, b0⟩
  clear O0 b0
  go_wp2_with fail
  go_loopw [11] (fun s11 W => ∃ (i : Nat) (Q : List Hq), s11 = .int .i64 (i : Int) ∧ Inv w n L i Q W) (fun i _ => n - (intOf i).toNat)
  case atStart => exact ⟨0, [], rfl, I0⟩
  case round =>
    clear I0
    obtain ⟨i, Q, rfl, I⟩ := hrel
    have hB := I.bel.size
    by_cases hlt : i < n
    · obtain ⟨x, h, ex, eh, exh, rx⟩ := hel i hlt
      obtain ⟨b, off, rfl, hb, hx⟩ := hc (by omega)
      have hlt' : (i : Int) < (n : Int) := by omega
      have hex : Hid (x.h = h.h) := exh
      clear exh
      have hx1 : ∀ (j : Nat) y, X[j]? = some y → ∀ i, i < HK.k → wr.cell? ⟨b, off + j * HK.k + i, none⟩ = (HK.enc y)[i]? := fun j y hj i hi => (I.bel.cell (p := ⟨b, off + j * HK.k + i, none⟩) hb).trans (hx j y hj i hi)
      have hps := hP h (List.mem_of_getElem? eh)
      have hpm : h.ps.length ≤ maxLen := by unfold maxLen; omega
      have rx1 := (rx.below I.bel).below ((Below.refl wr.heap.size wr).alloc (Nat.le_refl _) (.cells x.cells 46))
      have B1 := Blk.new wr x.cells 46
      have hbb : b ≠ wr.heap.size := by omega
      go_wp2_with (first | (refine rd_load HK _ rfl _ rfl b off X hx1 i _ rfl rfl x ex x.cells rfl _ Try.underlying46 rfl ?_) | (at_builtin; refine app_rd TK _ rfl _ _ rfl (wr.heap.size + 1) _ [] rfl (Own.nil _ _ _) x.sl h.ps rfl rx1 (by simpa using hpm) (by show ([].length + h.ps.length) * 32 ≤ _; simpa using hps) (by simp) ?_))
      intro v4 W4 O4 c4 _
      have c4' : Below (wr.alloc (.cells x.cells 46)).heap.size (wr.alloc (.cells x.cells 46)) W4 := by
        have e : (wr.alloc (.cells x.cells 46)).heap.size = wr.heap.size + 1 := by simp
        rw [e]; exact c4
      have B4 := B1.below c4 (by omega)
      have hrow := (I.row.alloc (.cells x.cells 46)).kept c4'
      have hpart := fun q hq => ((I.part q hq).alloc (.cells x.cells 46)).kept c4'
      have hlow : ∀ q ∈ Q, ∀ g, q.v.sl.ownBlock = some g → g < wr.heap.size := fun q hq g hg => (World.ownsRow.lt (I.part q hq) g hg).2
      have hnew : ∀ g, v4.ownBlock = some g → wr.heap.size + 1 ≤ g := fun g hg => (World.ownsRow.lt O4 g hg).1
      have bel4 : Below w.heap.size w W4 := (I.bel.alloc hB _).trans (c4'.mono (by simp; omega))
      have hgg : w.heap.size ≠ wr.heap.size := by
        have := (World.ownsRow.lt I.row w.heap.size rfl).2
        omega
      obtain ⟨a4, n4, k4, rfl⟩ : ∃ a4 n4 k4, v4 = .slice a4 n4 k4 := by
        rcases O4.forms with ⟨e, _⟩ | ⟨g, c, e, _⟩
        · exact ⟨_, _, _, e⟩
        · exact ⟨_, _, _, e⟩
      obtain ⟨y, hy⟩ : ∃ y : Hq, Hid (y = ⟨⟨x.h, a4, n4, k4⟩, h.ps⟩) := ⟨_, rfl⟩
      have B5 : Blk (W4.setCell ⟨wr.heap.size, 7, none⟩ (.slice a4 n4 k4)) wr.heap.size (x.h.cells (.slice a4 n4 k4)) 46 := B4.setCell 7 _
      have hrow5 := hrow.setCell (b := wr.heap.size) (i := 7) (u := .slice a4 n4 k4) (by intro e; simp [Value.ownBlock] at e; omega)
      have hpart5 := fun q hq => (hpart q hq).setCell (b := wr.heap.size) (i := 7) (u := .slice a4 n4 k4) (fun e => by have := hlow q hq _ e; omega)
      have O5 := O4.setCell (b := wr.heap.size) (i := 7) (u := .slice a4 n4 k4) (fun e => by have := hnew _ e; omega)
      have bel5 : Below w.heap.size w (W4.setCell ⟨wr.heap.size, 7, none⟩ (.slice a4 n4 k4)) := (but_setCell W4 wr.heap.size 7 _).below bel4 hB
      have f4 := B4.free
      have l4 := B4.lt
      have d4 := B4.cell
      have hi4 : i < (Q.map (·.v) ++ List.replicate (n - i) zHv).length := by simp; have := I.len; omega
      have hsn := set_next Q n i ⟨⟨x.h, a4, n4, k4⟩, h.ps⟩ I.len hlt
      clear hrow hpart B1 B4 rx rx1 c4 c4' bel4 hx1 hx hel hX
      go_wp2_with (first | (refine blk_load _ rfl 46 _ rfl wr.heap.size rfl _ _ B5 _ Try.underlying46 rfl 8 hp_info rfl ?_) | (refine elem_store HK _ rfl _ _ rfl w.heap.size w.heap.size n n _ hrow5 i _ rfl (by rfl) hi4 ⟨x.h, a4, n4, k4⟩ rfl ?_))
      intro W6 R6 u6
      have hne6 : ∀ (s : Value) ps, Own TK (W4.setCell ⟨wr.heap.size, 7, none⟩ (.slice a4 n4 k4)) w.heap.size s ps → s.ownBlock ≠ some w.heap.size := fun s ps hs => ne_kind hrow5 hs rfl
      have O5' := O5.mono (show w.heap.size ≤ wr.heap.size + 1 by omega)
      have I' : Inv w n L (i + 1) (Q ++ [⟨⟨x.h, a4, n4, k4⟩, h.ps⟩]) W6 := by
        refine ⟨by simp [I.len], by omega, ?_, fun q hq => ?_, ?_, ?_, u6.below bel5 (Nat.le_refl _)⟩
        · simpa using R6
        · rcases List.mem_append.1 hq with hq | hq
          · exact (hpart5 q hq).but u6 (hne6 _ _ (hpart5 q hq))
          · simp at hq; subst hq
            exact O5'.but u6 (hne6 _ _ O5')
        · rw [List.pairwise_append]
          refine ⟨I.apart, List.pairwise_singleton _ _, fun a ha b hb => ?_⟩
          simp at hb; subst hb
          cases hab : a.v.sl.ownBlock with
          | none => exact Or.inl hab
          | some g =>
            refine Or.inr ?_
            rw [hab]
            intro e
            have h1 := hlow a ha g hab
            have h2 := hnew g e.symm
            omega
        · rw [List.map_append, I.same, List.take_add_one, eh]
          simp [Hq.p, hex.out]
      clear hrow5 hpart5 O5 O5' hne6 R6 u6 I hlow hnew hex hy
      go_wp2_with fail
      go_roundw
      case rel => exact ⟨i + 1, _, by simp, I'⟩
      case measure => simp [intOf]; omega
    · have hin : i = n := by have := I.le; omega
      have hlt' : ¬ (i : Int) < (n : Int) := by omega
      have hrow : Own HK wr w.heap.size (.slice (some ⟨w.heap.size, 0, none⟩) n n) (Q.map (·.v)) := by
        have := I.row
        rw [hin, Nat.sub_self] at this
        simpa using this
      have hsame : Q.map Hq.p = L := by rw [I.same, hin]; exact List.take_of_length_le (by omega)
      have PP : Pool wr w.heap.size (.slice (some ⟨w.heap.size, 0, none⟩) n n) Q := ⟨hrow, I.part, I.apart⟩
      have bel := I.bel
      clear hrow I hel hX
      go_wp2_with fail
      go_ret
      exact ⟨_, rfl, Q, PP, hsame, bel⟩
end Go.Proofs.Ytlbpapngcgnepaa.frcp
