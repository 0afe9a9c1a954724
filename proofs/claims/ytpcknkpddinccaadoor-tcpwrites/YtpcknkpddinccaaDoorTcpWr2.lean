/- What tcp.longOf answers, and that it changes nothing that was there. -/
import Derived.Test.YtpcknkpddinccaaDoorTcpWr1
namespace Go.Proofs.YtpcknkpddinccaaDoor.tcw2
open Go.ChangeShapes Go.WideShapes Go.ChangeAt Go.RowKit Go.BigFrame
open Go.Proofs.YtpcknkpddinccaaDoor Go.Proofs.YtpcknkpddinccaaDoor.EM Go.Proofs.YtpcknkpddinccaaDoor.ethb Go.Proofs.YtpcknkpddinccaaDoor.SM Go.Proofs.YtpcknkpddinccaaDoor.ipb Go.Proofs.YtpcknkpddinccaaDoor.boxes Go.Proofs.YtpcknkpddinccaaDoor.wds Go.Proofs.YtpcknkpddinccaaDoor.tcb Go.Proofs.YtpcknkpddinccaaDoor.tci Go.Proofs.YtpcknkpddinccaaDoor.tcm Go.Proofs.YtpcknkpddinccaaDoor.tct Go.Proofs.YtpcknkpddinccaaDoor.rwr Go.Proofs.YtpcknkpddinccaaDoor.tcw1
open Go.Proofs.YtpcknkpddinccaaDoor.rws (Knd)
open Go.Proofs.YtpcknkpddinccaaDoor.ipm (bytes_ext ext_list size_list)

/-- what longOf tells -/
def lof (os : List Opt) : Int × Bool := if os.all ook = true then (((oln os : Nat) : Int), true) else (0, false)
theorem lof_bad (os : List Opt) (o : Opt) (h : o ∈ os) (ho : ook o = false) : lof os = (0, false) := by
  unfold lof; rw [if_neg]
  intro hh
  rw [List.all_eq_true.1 hh o h] at ho
  cases ho
theorem empty_of {d : ByteArray} (h : d.size = 0) : d = ⟨#[]⟩ := bytes_ext (List.eq_nil_of_length_eq_zero (by rw [size_list]; exact h))
theorem not_empty {d : ByteArray} (h : d.size ≠ 0) : (d.toList == []) = false := by
  have : d.toList.length ≠ 0 := by rw [ByteArray.toList_eq, size_list]; exact h
  cases hh : d.toList with
  | nil => rw [hh] at this; simp at this
  | cons a b => rfl
theorem ret_lof {a b : Int × Bool} (h : a = b) : Ending.returned (.tuple #[.int .i64 a.1, .bool a.2]) = .returned (.tuple #[.int .i64 b.1, .bool b.2]) := by rw [h]
set_option maxRecDepth 20000 in
set_option maxHeartbeats 4000000 in
theorem longOf_any (v : Value) (os : List Opt) (w : World) (hr : Rd OK w v os) (hl : os.length ≤ 6000000000000) :
    Calls Tryd.prog 18 #[v] w fun e w' => e = .returned (.tuple #[.int .i64 (lof os).1, .bool (lof os).2]) ∧ Below w.heap.size w w' := by
  have HB : Hid (∀ o ∈ os, ook o = false → lof os = (0, false)) := fun o ho hh => lof_bad os o ho hh
  have HG : Hid ((∀ o ∈ os, ook o = true) → lof os = (((oln os : Nat) : Int), true)) := fun hh => by unfold lof; rw [if_pos (List.all_eq_true.2 hh)]
  obtain ⟨M, eM⟩ : ∃ M, M = lof os := ⟨_, rfl⟩
  rw [← eM] at HB HG ⊢
  clear eM
  obtain ⟨sa, sc, rfl⟩ := hr.form
  obtain ⟨n, N⟩ : ∃ n, n = os.length := ⟨_, rfl⟩
  have HR : Hid (Rd OK w (.slice sa os.length sc) os) := hr
  have HN : Hid (n = os.length) := N
  have nb : n ≤ 6000000000000 := by omega
  rw [← N] at HR ⊢
  clear N hr hl
  go_enter Tryd.func18, Tryd.ntmps18
  go_wp2_with fail
  go_loopw [4, 9] (fun s i wr => ∃ k m : Nat, i = .int .i64 (k : Int) ∧ s = .int .i64 (m : Int) ∧ k ≤ n ∧ m ≤ 40 * k ∧ Hid (oln (os.take k) = m) ∧ Hid (∀ o ∈ os.take k, ook o = true) ∧ Below w.heap.size w wr) (fun _ i _ => n - (intOf i).toNat)
  case atStart => exact ⟨0, 0, rfl, rfl, Nat.zero_le _, by omega, (rfl : _ = _), (fun o ho => by simp at ho : ∀ o ∈ os.take 0, ook o = true), Below.refl _ _⟩
  case round =>
    obtain ⟨k, m, rfl, rfl, hk, hm, E, G, bel⟩ := hrel
    by_cases hlt : k < n
    · have hN := HN.out
      obtain ⟨o, ho⟩ : ∃ o, os[k]? = some o := ⟨os[k]'(by omega), List.getElem?_eq_getElem _⟩
      have om := List.mem_of_getElem? ho
      have st := oln_take os k o ho
      have E1 : Hid (oln (os.take (k + 1)) = m + (ot o).length) := by show _ = _; rw [st, E.out]
      have G1 : Hid (ook o = true → ∀ x ∈ os.take (k + 1), ook x = true) := by
        intro hh x hx
        have := (List.getElem?_eq_some_iff.1 ho).2
        rw [List.take_succ_eq_append_getElem (show k < os.length by omega), List.mem_append, this] at hx
        rcases hx with hx | hx
        · exact G.out x hx
        · rw [List.mem_singleton.1 hx]; exact hh
      have B1 : Hid (ook o = false → M = (0, false)) := fun hh => HB.out o om hh
      have OL : Hid ((ot o).length = if o.ki = 1 then 1 else 2 + o.d.size) := ot_len o
      have OO : Hid (ook o = ((decide (o.ki = 1) && decide (o.d.size = 0)) || (decide (2 ≤ o.ki) && (decide (o.ki ≤ 255) && decide (o.d.size ≤ 38))))) := (rfl : _ = _)
      obtain ⟨bb, off, sc', e, hbb, _, hc⟩ := rd_at HR.out (by omega)
      simp only [Value.slice.injEq] at e
      obtain ⟨rfl, hnn, rfl⟩ := e
      clear hnn
      have hc' : ∀ (j : Nat) x, os[j]? = some x → ∀ i, i < OK.k → wr.cell? ⟨bb, off + j * OK.k + i, none⟩ = (OK.enc x)[i]? := fun j x hx i hi => (bel.cell (p := ⟨bb, off + j * OK.k + i, none⟩) hbb).trans (hc j x hx i hi)
      have hlt' : (k : Int) < (n : Int) := by omega
      have zB := bel.size
      obtain ⟨ki, d⟩ := o
      generalize (ot ⟨ki, d⟩).length = ol at *
      generalize ook ⟨ki, d⟩ = okb at *
      clear hN hc om st E G HB
      have bel1 := bel.alloc zB (.cells (Opt.cells ⟨ki, d⟩) 40)
      go_upto_region 6 with (refine rd_load OK _ rfl _ rfl bb off os hc' k _ rfl rfl _ ho (Opt.cells ⟨ki, d⟩) rfl _ Tryd.underlying40 rfl ?_)
      by_cases k1 : ki = 1
      · subst k1
        by_cases d0 : d.size = 0
        · have dd := empty_of d0
          subst dd
          have g2 : Hid (∀ x ∈ os.take (k + 1), ook x = true) := G1.out (by rw [OO.out]; rfl)
          have e2 : Hid (oln (os.take (k + 1)) = m + 1) := by show _ = _; rw [E1.out, OL.out, if_pos rfl]
          clear G1 B1 OL OO E1 HG d0
          go_wp2_with fail
          go_roundw
          case rel => exact ⟨k + 1, m + 1, by go_num, by go_num, by omega, by omega, e2, g2, bel1⟩
          case measure => simp [intOf]; omega
        · have d0' := not_empty d0
          have b2 : Hid (M = (0, false)) := B1.out (by rw [OO.out]; simp [d0])
          clear G1 B1 OL OO E1 HG d0
          go_wp2_with fail
          go_ret2
          exact ⟨by rw [b2.out]; rfl, bel1⟩
      · have k1' : (ki == 1) = false := by simpa using k1
        by_cases g : 2 ≤ ki ∧ ki ≤ 255 ∧ d.size ≤ 38
        · obtain ⟨ga, gb, gc⟩ := g
          have gc' : (d.size : Int) ≤ 38 := by omega
          have g2 : Hid (∀ x ∈ os.take (k + 1), ook x = true) := G1.out (by rw [OO.out]; simp [ga, gb, gc])
          have e2 : Hid (oln (os.take (k + 1)) = m + (2 + d.size)) := by show _ = _; rw [E1.out, OL.out, if_neg k1]
          have ga' : 1 < ki := by omega
          clear G1 B1 OL OO E1 HG ga gc k1
          go_wp2_with fail
          go_roundw
          case rel => exact ⟨k + 1, m + (2 + d.size), by go_num, by go_num, by omega, by omega, e2, g2, bel1⟩
          case measure => simp [intOf]; omega
        · have b2 : Hid (M = (0, false)) := B1.out (by rw [OO.out]; simp [k1]; omega)
          clear G1 B1 OL OO E1 HG
          by_cases ga : 1 < ki
          · by_cases gb : ki ≤ 255
            · have gc : ¬ (d.size : Int) ≤ 38 := by omega
              clear g k1
              go_wp2_with fail
              go_ret2
              exact ⟨by rw [b2.out]; rfl, bel1⟩
            · clear g k1
              go_wp2_with fail
              go_ret2
              exact ⟨by rw [b2.out]; rfl, bel1⟩
          · clear g k1
            go_wp2_with fail
            go_ret2
            exact ⟨by rw [b2.out]; rfl, bel1⟩
    · have hN := HN.out
      have e : os.take k = os := by rw [List.take_of_length_le (by omega)]
      rw [e] at E G
      have g2 : Hid (M = (((oln os : Nat) : Int), true)) := HG.out G.out
      have e2 : Hid (oln os = m) := E
      have hlt' : ¬ (k : Int) < (n : Int) := by omega
      clear HB HG E G e hN HR
      go_wp2_with fail
      go_ret2
      exact ⟨by rw [g2.out, e2.out]; rfl, bel⟩
end Go.Proofs.YtpcknkpddinccaaDoor.tcw2
