/- slices.Contains of ints. -/
import Derived.Test.YtehiipnafckjbaaAgLives
namespace Go.Proofs.Ytehiipnafckjbaa.agcn
open Go.ChangeShapes Go.WideShapes Go.ChangeAt Go.RowKit Go.BigFrame
open Go.Proofs.Ytehiipnafckjbaa Go.Proofs.Ytehiipnafckjbaa.am Go.Proofs.Ytehiipnafckjbaa.ag Go.Proofs.Ytehiipnafckjbaa.agv Go.Proofs.Ytehiipnafckjbaa.boxes Go.Proofs.Ytehiipnafckjbaa.rwr
open Go.Proofs.Ytehiipnafckjbaa.rws (Knd Own)

set_option maxHeartbeats 1000000 in
theorem index_any (v : Value) (l : List Int) (x : Int) (w : World) (h : Rd NK w v l) (hm : l.length ≤ 1000) :
    Calls Try.prog 33 #[v, .int .i64 x] w fun e w' => ∃ k : Int, e = .returned (.int .i64 k) ∧ (0 ≤ k ↔ x ∈ l) ∧ Below w.heap.size w w' := by
  obtain ⟨sa, sc, rfl⟩ := h.form
  have HX : Hid (0 < l.length → ∃ b off, sa = some ⟨b, off, none⟩ ∧ b < w.heap.size ∧ ∀ (j : Nat) x, l[j]? = some x → w.cell? ⟨b, off + j, none⟩ = some (.int .i64 x)) := fun hp => num_cells h hp
  have HG : Hid (∀ i, i < l.length → ∃ x, l[i]? = some x) := fun i hi => ⟨_, List.getElem?_eq_getElem hi⟩
  have HM : Hid (∀ i, l[i]? = some x → x ∈ l) := fun i hi => List.mem_of_getElem? hi
  have HN : Hid ((∀ i, i < l.length → l[i]? ≠ some x) → ¬ x ∈ l) := fun h hx => by
    obtain ⟨i, hi, e⟩ := List.getElem_of_mem hx
    exact h i hi (by rw [List.getElem?_eq_getElem hi, e])
  clear h
  generalize l.length = m at *
  go_enter Try.func33, Try.ntmps33
  go_wp2_with fail
  go_loopw [8] (fun s8 wr => ∃ i : Nat, s8 = .int .i64 (i : Int) ∧ i ≤ m ∧ Hid (∀ j, j < i → l[j]? ≠ some x) ∧ Below w.heap.size w wr) (fun s _ => m - (intOf s).toNat)
  case atStart => exact ⟨0, rfl, Nat.zero_le _, fun j hj => absurd hj (by omega), Below.refl _ _⟩
  case round =>
    obtain ⟨i, rfl, hi, HJ, bel⟩ := hrel
    by_cases hlt : i < m
    · have hlt' : (i : Int) < (m : Int) := by omega
      obtain ⟨y, hy⟩ := HG.out i hlt
      obtain ⟨b1, o1, rfl, hb1, hx1⟩ := HX.out (by omega)
      have c1 := (bel.cell (p := ⟨b1, o1 + i, none⟩) hb1).trans (hx1 i y hy)
      by_cases e : x = y
      · have HE : Hid (x ∈ l) := HM.out i (by rw [e]; exact hy)
        have hd : (x == y) = true := by simpa using e
        clear HX HG HM HN HJ hx1 hy e
        go_wp2_with fail
        go_ret
        exact ⟨_, rfl, ⟨fun _ => HE.out, fun _ => by omega⟩, bel⟩
      · have HJ2 : Hid (∀ j, j < i + 1 → l[j]? ≠ some x) := fun j hj => by
          by_cases e2 : j = i
          · rw [e2, hy]; exact fun e3 => e (Option.some.inj e3).symm
          · exact HJ.out j (by omega)
        have hd : (x == y) = false := by simpa using e
        clear HX HG HM HN HJ hx1 hy e
        go_wp2_with fail
        go_roundw
        case rel => exact ⟨i + 1, by go_num, by omega, HJ2, bel⟩
        case measure => simp [intOf]; omega
    · have hlt' : ¬ (i : Int) < (m : Int) := by omega
      have HE : Hid (¬ x ∈ l) := HN.out fun j hj => HJ.out j (by omega)
      clear HX HG HM HN HJ
      go_wp2_with fail
      go_ret
      exact ⟨_, rfl, ⟨fun h => absurd h (by decide), fun h => absurd h HE.out⟩, bel⟩
theorem contains_any (v : Value) (l : List Int) (x : Int) (w : World) (h : Rd NK w v l) (hm : l.length ≤ 1000) :
    Calls Try.prog 21 #[v, .int .i64 x] w fun e w' => e = .returned (.bool (decide (x ∈ l))) ∧ Below w.heap.size w w' := by
  have C := index_any v l x w h hm
  obtain ⟨sa, sc, rfl⟩ := h.form
  clear h
  generalize l.length = m at *
  go_enter Try.func21, Try.ntmps21
  go_wp2_with fail
  refine C.mono ?_
  rintro e w1 ⟨k, rfl, hk, b1⟩
  have HK : Hid (0 ≤ k ↔ x ∈ l) := hk
  clear hk C
  go_wp2_with fail
  go_ret
  exact ⟨ret_bool (by rw [Bool.eq_iff_iff, decide_eq_true_eq, decide_eq_true_eq]; exact HK.out), b1⟩
end Go.Proofs.Ytehiipnafckjbaa.agcn
