/- What package rules' Slim answers. -/
import Derived.Test.YtfcnabpbpbhacaaRuCheck
import Derived.Test.YtfcnabpbpbhacaaRwsDrop
namespace Go.Proofs.Ytfcnabpbpbhacaa.ru
open Go.ChangeShapes Go.WideShapes Go.ChangeAt Go.RowKit Go.BigFrame
open Go.Proofs.Ytfcnabpbpbhacaa Go.Proofs.Ytfcnabpbpbhacaa.pm Go.Proofs.Ytfcnabpbpbhacaa.pf Go.Proofs.Ytfcnabpbpbhacaa.boxes Go.Proofs.Ytfcnabpbpbhacaa.rwr Go.Proofs.Ytfcnabpbpbhacaa.rwd
open Go.Proofs.Ytfcnabpbpbhacaa.rws (Knd Own)

set_option maxRecDepth 20000 in
set_option maxHeartbeats 4000000 in
theorem slim_any (v : Value) (l : List Ru) (w : World) (h : Rd UK w v l) (hf : ∀ x ∈ l, fits x) : Calls Try.prog 14 #[v] w fun e w' => ∃ v', e = .returned (.tuple #[v', .int .i64 (chk l)]) ∧ Own UK w' w.heap.size v' (sl l) ∧ Below w.heap.size w w' := by
  have CC := check_any v l w h hf
  have HZ : Hid (chk l ≠ 0 → sl l = []) := fun h => if_neg h
  have HY : Hid (chk l = 0 → sl l = slN l l.length ∧ l.length ≤ 64) := fun h => ⟨if_pos h, (chk_zero.1 h).1⟩
  have HL : Hid (∀ i, (slN l i).length ≤ i) := slN_len l
  have HG : Hid (∀ i, i < l.length → ∃ x, l[i]? = some x ∧ fits x) := gets hf
  have HS : Hid (∀ i x, l[i]? = some x → slN l (i + 1) = if (l.take i).any (fun y => cov y x) then slN l i else slN l i ++ [x]) := fun i x hx => slN_succ l i x hx
  have HF : Hid (∀ i, ∀ x ∈ l.take i, fits x) := fun i x hx => hf x (List.mem_of_mem_take hx)
  have hml := rd_len h
  obtain ⟨sa, sc, rfl⟩ := h.form
  have hle : l.length ≤ sc := (rd_cap h).2
  have HX : Hid (∀ u, Below w.heap.size w u → 0 < l.length → ∃ b off, sa = some ⟨b, off, none⟩ ∧ b < u.heap.size ∧ ∀ j x, l[j]? = some x → ∀ i, i < UK.k → u.cell? ⟨b, off + j * UK.k + i, none⟩ = (UK.enc x)[i]?) := fun u hu hp => rd_spot (h.below hu) hp
  have HT : Hid (∀ u i, Below w.heap.size w u → i ≤ l.length → Rd UK u (.slice sa i sc) (l.take i)) := fun u i hu hi => rd_take (h.below hu) i hi
  clear h hf
  generalize sl l = S at *
  generalize chk l = E at *
  generalize hm : l.length = m at *
  clear hm
  go_enter Try.func14, Try.ntmps14
  go_wp2_with fail
  refine CC.mono ?_
  rintro e w1 ⟨rfl, b0⟩
  by_cases hE0 : E = 0
  · subst hE0
    have hm64 : m ≤ 64 := (HY.out rfl).2
    have HE : Hid (S = slN l m) := (HY.out rfl).1
    clear HZ HY CC
    go_wp2_with fail
    go_loopw [5, 15] (fun s5 s15 wr => ∃ (i : Nat) (v5 : Value), s15 = .int .i64 (i : Int) ∧ v5 = s5 ∧ i ≤ m ∧ Own UK wr w1.heap.size v5 (slN l i) ∧ Below w1.heap.size w1 wr) (fun _ s _ => m - (intOf s).toNat)
    case atStart => exact ⟨0, _, rfl, rfl, Nat.zero_le _, Own.nil _ _ _, Below.refl _ _⟩
    case round =>
      obtain ⟨i, v5, rfl, rfl, hi, O, bel⟩ := hrel
      have b1 := b0.trans (bel.mono b0.size)
      have hBV := bel.size
      by_cases hlt : i < m
      · have hlt' : (i : Int) < (m : Int) := by omega
        obtain ⟨x, gx, fx⟩ := HG.out i hlt
        obtain ⟨b, off, rfl, hb2, hx⟩ := HX.out wr b1 (by omega)
        have hl := HL.out i
        have hS := HS.out i x gx
        have Z := Blk.new wr ZU 34
        have dA := (Below.refl wr.heap.size wr).alloc (Nat.le_refl _) (.cells ZU 34)
        have CA : Hid (∀ (W : World), Below wr.heap.size wr W → Blk W wr.heap.size (Ru.cells x) 34 → Calls Try.prog 29 #[.slice (some ⟨b, off, none⟩) i sc, .func (.func 30) #[] #[.pointer (some ⟨wr.heap.size, 0, none⟩)]] W fun e w' => e = .returned (.bool ((l.take i).any fun y => cov y x)) ∧ Below W.heap.size W w') := fun W hW F => some_any _ (l.take i) x wr.heap.size W (HT.out W i (b1.trans (hW.mono b1.size)) hi) (HF.out i) F fx
        clear HG HX HL HS HF HT fx
        generalize ((l.take i).any fun y => cov y x) = c at *
        have hic : i ≤ sc := by omega
        go_upto_region 8 with (first
          | (refine rd_load UK _ rfl _ rfl b off l hx i _ rfl rfl _ gx (Ru.cells x) rfl _ Try.underlying34 rfl ?_)
          | (refine blk_store _ rfl 34 _ _ rfl wr.heap.size (Ru.cells x) rfl rfl _ _ Z 10 ru_info rfl rfl (ru_one x) ?_; intro W3 k3 p3))
        have d3 := p3.below dA (Nat.le_refl _)
        have C3 := CA.out W3 d3 k3
        have O3 := O.kept d3
        have b3 := bel.trans (d3.mono bel.size)
        clear CA Z dA hx
        go_wp2_with fail
        refine C3.mono ?_
        rintro e w4 ⟨rfl, z4⟩
        have O4 := O3.kept z4
        have k4 := k3.below z4 k3.lt
        have b4 := b3.trans (z4.mono b3.size)
        clear C3
        cases c with
        | true =>
          have hS1 : Hid (slN l (i + 1) = slN l i) := by show _ = _; rw [hS]; simp
          clear hS
          go_wp2_with fail
          go_roundw
          case rel => exact ⟨i + 1, _, by go_num, rfl, by omega, by rw [hS1.out]; exact O4, b4⟩
          case measure => simp [intOf]; omega
        | false =>
          have hS1 : Hid (slN l (i + 1) = slN l i ++ [x]) := by show _ = _; rw [hS]; simp
          clear hS
          generalize slN l i = gl at *
          have O5 := O4.alloc (.cells (Ru.cells x) 34)
          have L5 := Blk.new w4 (Ru.cells x) 34
          have q1 : gl.length + 1 ≤ maxLen := by unfold maxLen; omega
          have q2 : (gl.length + 1) * UK.by_ ≤ 140737488355328 := by show (gl.length + 1) * 80 ≤ _; omega
          have q3 : w1.heap.size ≤ (w4.alloc (.cells (Ru.cells x) 34)).heap.size := by have := b4.size; simp; omega
          have b5 := b4.alloc b4.size (.cells (Ru.cells x) 34)
          go_wp2_with (first
            | (refine blk_load _ rfl 34 _ rfl wr.heap.size rfl _ _ k4 _ Try.underlying34 rfl 10 ru_info rfl ?_)
            | (at_builtin; refine rws.app_one UK _ rfl _ _ rfl w1.heap.size _ gl rfl O5 w4.heap.size 1 x 34 rfl L5 q1 q2 q3 ?_; intro v6 w6 o6 l6 _))
          have b6 := b5.trans l6
          go_wp2_with fail
          go_roundw
          case rel => exact ⟨i + 1, v6, by go_num, rfl, by omega, by rw [hS1.out]; exact o6, b6⟩
          case measure => simp [intOf]; omega
      · have hlt' : ¬ (i : Int) < (m : Int) := by omega
        have ei : i = m := by omega
        have HO : Hid (Own UK wr w.heap.size v5 S) := by
          have := O.mono (B' := w.heap.size) b0.size
          rw [ei, ← HE.out] at this
          exact this
        clear O ei HX HG HL HS HF HT HE
        go_wp2_with fail
        go_ret2
        exact ⟨_, rfl, HO.out, b1⟩
  · have HE : Hid (S = []) := HZ.out hE0
    go_wp2_with fail
    go_ret2
    exact ⟨_, rfl, by rw [HE.out]; exact Own.nil _ _ _, b0⟩
end Go.Proofs.Ytfcnabpbpbhacaa.ru
