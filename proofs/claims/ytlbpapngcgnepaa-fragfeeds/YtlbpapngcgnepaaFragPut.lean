/- What frag.put answers: the parts with one more, where it belongs. -/
import Derived.Test.YtlbpapngcgnepaaFragInsert
import Derived.Test.YtlbpapngcgnepaaFragRefuse
namespace Go.Proofs.Ytlbpapngcgnepaa.frpu
open Go.ChangeShapes Go.WideShapes Go.ChangeAt Go.RowKit Go.BigFrame
open Go.Proofs.Ytlbpapngcgnepaa Go.Proofs.Ytlbpapngcgnepaa.boxes Go.Proofs.Ytlbpapngcgnepaa.frp Go.Proofs.Ytlbpapngcgnepaa.pl Go.Proofs.Ytlbpapngcgnepaa.fri
open Go.Proofs.Ytlbpapngcgnepaa.rws (Own Knd)

/-- how many parts stand ahead -/
def pos (q : Pt) : List Pt → Nat
  | [] => 0
  | o :: r => if o.a < q.a then pos q r + 1 else 0
def putIn (ps : List Pt) (q : Pt) : List Pt := ps.take (pos q ps) ++ q :: ps.drop (pos q ps)
theorem pos_le (q : Pt) : ∀ ps : List Pt, pos q ps ≤ ps.length
  | [] => Nat.le_refl _
  | o :: r => by
    simp only [pos]
    split
    · have := pos_le q r; simp; omega
    · simp
theorem pos_eq (q : Pt) : ∀ (ps : List Pt) (i : Nat), i ≤ ps.length → (∀ (j : Nat) o, j < i → ps[j]? = some o → o.a < q.a) → (∀ o, ps[i]? = some o → ¬ o.a < q.a) → pos q ps = i
  | [], i, hi, _, _ => by simp at hi; subst hi; rfl
  | o :: r, 0, _, _, h => by
    simp only [pos]
    rw [if_neg (h o rfl)]
  | o :: r, i + 1, hi, h1, h2 => by
    simp only [pos]
    rw [if_pos (h1 0 o (by omega) rfl), pos_eq q r i (by simpa using hi) (fun j x hj hx => h1 (j + 1) x (by omega) (by simpa using hx)) (fun x hx => h2 x (by simpa using hx))]
set_option maxRecDepth 20000 in
set_option maxHeartbeats 8000000 in
theorem put_any (v : Value) (ps : List Pt) (q : Pt) (B : Nat) (w : World) (h : Own TK w B v ps) (hlen : ps.length ≤ 1000000) (hBs : B ≤ w.heap.size) :
    Calls Try.prog 56 #[v, .agg q.cells] w fun e w' => ∃ v', e = .returned v' ∧ Own TK w' B v' (putIn ps q) ∧ w.grownBy w' v.ownBlock ∧ (v'.ownBlock = v.ownBlock ∨ ∃ k, v'.ownBlock = some k ∧ w.heap.size ≤ k) := by
  have H : Hid (Own TK w B v ps) := h
  obtain ⟨sa, sc, hvs, hm, hf, hc⟩ := Own.rd h
  obtain ⟨n, hn⟩ : ∃ n, ps.length = n := ⟨_, rfl⟩
  have F0 := Blk.new w q.cells 49
  have b0 := (Below.refl w.heap.size w).alloc (Nat.le_refl _) (.cells q.cells 49)
  have HV : Hid (v = .slice sa n sc) := by rw [← hn]; exact hvs
  have fin : ∀ (i : Nat) (U : World), i ≤ n → Hid (pos q ps = i) → Below w.heap.size w U → Calls Try.prog 71 #[.slice sa n sc, .int .i64 (i : Int), .slice (some ⟨U.heap.size, 0, none⟩) 1 1] (U.alloc (.cells q.cells 49)) fun e w' => ∃ v', e = .returned v' ∧ Own TK w' B v' (putIn ps q) ∧ w.grownBy w' v.ownBlock ∧ (v'.ownBlock = v.ownBlock ∨ ∃ k, v'.ownBlock = some k ∧ w.heap.size ≤ k) := fun i U hi hp hb => by
    have hb2 := hb.alloc hb.size (.cells q.cells 49)
    have O := H.out.kept hb2
    rw [← HV.out]
    have hlt : ∀ g, v.ownBlock = some g → g < w.heap.size := fun g hg => (World.ownsRow.lt H.out g hg).2
    refine (ins_any v ps B U.heap.size i q _ O (by omega) (Blk.new U q.cells 49) (fun e => by have := hlt _ e; have := hb.size; omega) (by omega) (Nat.le_trans hBs hb2.size)).mono ?_
    rintro e w' ⟨v', rfl, O', g', x'⟩
    refine ⟨v', rfl, by unfold putIn; rw [hp.out]; exact O', ⟨g'.os.trans hb2.os, g'.tape.trans hb2.tape, g'.output.trans hb2.output, Nat.le_trans hb2.size g'.size, fun k hk hne => ?_⟩, ?_⟩
    · rw [g'.block k (Nat.lt_of_lt_of_le hk hb2.size) hne]
      exact hb2.block k hk
    · rcases x' with x' | x'
      · exact Or.inl x'
      · exact Or.inr ⟨_, x', hb2.size⟩
  rw [hvs, hn]
  have hob : Hid ((Value.slice sa n sc).ownBlock = v.ownBlock) := by rw [HV.out]; exact (rfl : _ = _)
  rw [hob.out]
  generalize v.ownBlock = vo at fin
  clear h hvs HV H hob
  go_enter Try.func56, Try.ntmps56
  go_wp2_with fail
  generalize w.alloc (.cells q.cells 49) = V at *
  go_loopw [5] (fun s5 wr => ∃ i : Nat, s5 = .int .i64 (i : Int) ∧ i ≤ n ∧ Hid (∀ (j : Nat) o, j < i → ps[j]? = some o → o.a < q.a) ∧ Below V.heap.size V wr) (fun i _ => n - (intOf i).toNat)
  case atStart => exact ⟨0, rfl, Nat.zero_le _, fun j _ hj => absurd hj (Nat.not_lt_zero _), Below.refl _ _⟩
  case round =>
    obtain ⟨i, rfl, hi, HA, bel⟩ := hrel
    have F1 := F0.below bel F0.lt
    have belw := b0.trans (bel.mono b0.size)
    have nn := ab.ne wr
    have cq := ab.cells F1
    by_cases hlt : i < n
    · obtain ⟨b, off, rfl, hb, hx⟩ := hc (by omega)
      obtain ⟨o, ho⟩ : ∃ o, ps[i]? = some o := ⟨ps[i]'(by omega), List.getElem?_eq_getElem (by omega)⟩
      have c0 : wr.cell? ⟨b, off + i * 3 + 0, none⟩ = some (.int .i64 o.a) := (belw.cell (p := ⟨b, off + i * 3 + 0, none⟩) hb).trans (hx i o ho 0 (by decide))
      have d0 := ab.cell c0 (Nat.lt_of_lt_of_le hb belw.size)
      have hlt' : (i : Int) < (n : Int) := by omega
      have hl2 : decide ((i : Int) < (n : Int)) = true := decide_eq_true hlt'
      by_cases ha : o.a < q.a
      · have HA' : Hid (∀ (j : Nat) o, j < i + 1 → ps[j]? = some o → o.a < q.a) := fun j o' hj hjo => by
          by_cases hji : j < i
          · exact HA.out j o' hji hjo
          · have : j = i := by omega
            subst this
            rw [ho] at hjo
            obtain rfl := Option.some.inj hjo
            exact ha
        have had : decide (o.a < q.a) = true := decide_eq_true ha
        clear HA hx c0 ho hc
        obtain ⟨qa, qd, ql⟩ := q
        obtain ⟨oa, od, ol⟩ := o
        simp at d0
        simp only at had
        go_upto_region 2 with fail
        refine ab.region (by kernel_rfl) (by kernel_rfl) ?_
        repeat (go_big_quiet_step (fail))
        refine wpQuiet_nil ?_
        intro _ hy
        obtain ⟨y, rfl⟩ := hy
        go_wp2_with fail
        go_roundw
        case rel => exact ⟨i + 1, by simp, by omega, HA', bel.trans (Below.mono y.h bel.size)⟩
        case measure => simp [intOf]; omega
      · have had : decide (o.a < q.a) = false := decide_eq_false ha
        have hpos : pos q ps = i := pos_eq q ps i (by omega) HA.out (fun o' ho' => by rw [ho] at ho'; obtain rfl := Option.some.inj ho'; exact ha)
        have HP : Hid (pos q ps = i) := hpos
        have CF := fun U => fin i U (by omega) HP
        clear HA fin hpos hx c0 ho hc HP
        obtain ⟨qa, qd, ql⟩ := q
        obtain ⟨oa, od, ol⟩ := o
        simp at d0
        simp only at had
        go_upto_region 2 with fail
        refine ab.region (by kernel_rfl) (by kernel_rfl) ?_
        repeat (go_big_quiet_step (fail))
        refine wpQuiet_nil ?_
        intro _ hy
        obtain ⟨y, rfl⟩ := hy
        have cq1 := cq y
        have ly : w.heap.size < y.W.heap.size := Nat.lt_of_lt_of_le F1.lt (Below.size y.h)
        have by2 := belw.trans (Below.mono y.h belw.size)
        go_wp2_with fail
        refine (CF y.W by2).mono ?_
        rintro e w' ⟨v', rfl, O', g', x'⟩
        go_wp2_with fail
        go_ret
        exact ⟨_, rfl, O', g', x'⟩
    · have hin : i = n := by omega
      have hl2 : decide ((i : Int) < (n : Int)) = false := decide_eq_false (by omega)
      have hpos : pos q ps = i := pos_eq q ps i (by omega) HA.out (fun o' ho' => by have := (List.getElem?_eq_some_iff.1 ho').1; omega)
      have HP : Hid (pos q ps = i) := hpos
      have CF := fun U => fin i U (by omega) HP
      clear HA fin hpos hc HP hin
      obtain ⟨qa, qd, ql⟩ := q
      go_upto_region 2 with fail
      refine ab.region (by kernel_rfl) (by kernel_rfl) ?_
      repeat (go_big_quiet_step (fail))
      refine wpQuiet_nil ?_
      intro _ hy
      obtain ⟨y, rfl⟩ := hy
      have cq1 := cq y
      have ly : w.heap.size < y.W.heap.size := Nat.lt_of_lt_of_le F1.lt (Below.size y.h)
      have by2 := belw.trans (Below.mono y.h belw.size)
      go_wp2_with fail
      refine (CF y.W by2).mono ?_
      rintro e w' ⟨v', rfl, O', g', x'⟩
      go_wp2_with fail
      go_ret
      exact ⟨_, rfl, O', g', x'⟩
end Go.Proofs.Ytlbpapngcgnepaa.frpu
