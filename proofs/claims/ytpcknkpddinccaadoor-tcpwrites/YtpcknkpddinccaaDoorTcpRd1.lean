/- What tcp.optionLong and tcp.readOptions answer, and that they change nothing that was there. -/
import Derived.Test.YtpcknkpddinccaaDoorTcpTrim
import Derived.Test.YtpcknkpddinccaaDoorTcpMove
namespace Go.Proofs.YtpcknkpddinccaaDoor.tcr1
open Go.ChangeShapes Go.WideShapes Go.ChangeAt Go.RowKit Go.BigFrame
open Go.Proofs.YtpcknkpddinccaaDoor Go.Proofs.YtpcknkpddinccaaDoor.EM Go.Proofs.YtpcknkpddinccaaDoor.ethb Go.Proofs.YtpcknkpddinccaaDoor.boxes Go.Proofs.YtpcknkpddinccaaDoor.wds Go.Proofs.YtpcknkpddinccaaDoor.tcb Go.Proofs.YtpcknkpddinccaaDoor.tcrb Go.Proofs.YtpcknkpddinccaaDoor.tctr Go.Proofs.YtpcknkpddinccaaDoor.rwr
open Go.Proofs.YtpcknkpddinccaaDoor.rws (Knd Own app_one)
open Go.Proofs.YtpcknkpddinccaaDoor.ipm (bytes_ext ext_list size_list)

theorem tail_list (x : ByteArray) (n : Nat) : (x.extract n x.size).data.toList = x.data.toList.drop n := by
  rw [ext_list, List.take_of_length_le (by rw [size_list]; exact Nat.le_refl _)]
theorem cons_of (x : ByteArray) (h : 0 < x.size) : ∃ b r, x.data.toList = b :: r ∧ bt x 0 = (b.toNat : Int) := by
  have hl := size_list x
  cases hh : x.data.toList with
  | nil => rw [hh] at hl; simp at hl; omega
  | cons b r => exact ⟨b, r, rfl, by unfold bt; rw [hh]; rfl⟩
theorem cons2_of (x : ByteArray) (h : 2 ≤ x.size) : ∃ b c r, x.data.toList = b :: c :: r ∧ bt x 0 = (b.toNat : Int) ∧ bt x 1 = (c.toNat : Int) ∧ x.size = r.length + 2 := by
  have hl := size_list x
  cases hh : x.data.toList with
  | nil => rw [hh] at hl; simp at hl; omega
  | cons b r =>
    cases r with
    | nil => rw [hh] at hl; simp at hl; omega
    | cons c r => exact ⟨b, c, r, rfl, by unfold bt; rw [hh]; rfl, by unfold bt; rw [hh]; rfl, by rw [hh] at hl; simp at hl; omega⟩
theorem u8n {b : UInt8} {n : Nat} (hn : n < 256) : (b.toNat : Int) = n ↔ b = UInt8.ofNat n := by
  constructor
  · intro h; apply UInt8.toNat_inj.1; rw [UInt8.toNat_ofNat']; omega
  · intro h; rw [h, UInt8.toNat_ofNat']; omega
theorem step_zero (x : ByteArray) (h : 0 < x.size) (h0 : bt x 0 = 0) : rdo x.data.toList = if az x.data.toList = true then some [] else none := by
  obtain ⟨b, r, e, hb⟩ := cons_of x h
  rw [hb] at h0
  have := u8z h0
  subst this
  rw [e, rdo_zero]
  rfl
theorem step_one (x : ByteArray) (h : 0 < x.size) (h1 : bt x 0 = 1) : rdo x.data.toList = (rdo (x.extract 1 x.size).data.toList).map (⟨1, ⟨#[]⟩⟩ :: ·) := by
  obtain ⟨b, r, e, hb⟩ := cons_of x h
  rw [hb] at h1
  have : b = 1 := (u8n (n := 1) (by omega)).1 h1
  subst this
  rw [tail_list, e, rdo_one]
  rfl
theorem step_short (x : ByteArray) (h : x.size = 1) (h0 : bt x 0 ≠ 0) (h1 : bt x 0 ≠ 1) : rdo x.data.toList = none := by
  obtain ⟨b, r, e, hb⟩ := cons_of x (by omega)
  have hl := size_list x
  rw [e] at hl
  have : r = [] := List.eq_nil_of_length_eq_zero (by simp at hl; omega)
  subst this
  rw [hb] at h0 h1
  rw [e, rdo_short b (fun e => h0 (by rw [e]; rfl)) (fun e => h1 (by rw [e]; rfl))]
theorem step_more (x : ByteArray) (h : 2 ≤ x.size) (h0 : bt x 0 ≠ 0) (h1 : bt x 0 ≠ 1) (n : Nat) (hn : bt x 1 = n) : rdo x.data.toList =
    if 2 ≤ n ∧ n ≤ x.size then (rdo (x.extract n x.size).data.toList).map (⟨bt x 0, x.extract 2 n⟩ :: ·) else none := by
  obtain ⟨b, c, r, e, hb, hc, hz⟩ := cons2_of x h
  have hcn : c.toNat = n := by omega
  rw [hb] at h0 h1
  rw [e, rdo_more b c r (fun e => h0 (by rw [e]; rfl)) (fun e => h1 (by rw [e]; rfl)), hcn, hz, hb]
  by_cases hh : 2 ≤ n ∧ n ≤ r.length + 2
  · rw [if_pos hh, if_pos hh]
    obtain ⟨m, rfl⟩ : ∃ m, n = m + 2 := ⟨n - 2, by omega⟩
    have e1 : (x.extract (m + 2) (r.length + 2)).data.toList = r.drop m := by
      rw [← hz, tail_list, e]; rfl
    have e2 : x.extract 2 (m + 2) = ⟨(r.take m).toArray⟩ := by
      apply bytes_ext
      rw [ext_list, e]; simp
    rw [e1, e2, Nat.add_sub_cancel]
  · rw [if_neg hh, if_neg hh]
/-- what optionLong tells -/
def olg (x : ByteArray) : Int × Bool := if bt x 0 = 1 then (1, true) else if x.size < 2 then (0, false) else (bt x 1, decide (2 ≤ bt x 1) && decide (bt x 1 ≤ x.size))
theorem ret_olg {a b : Int × Bool} (h : a = b) : Ending.returned (.tuple #[.int .i64 a.1, .bool a.2]) = .returned (.tuple #[.int .i64 b.1, .bool b.2]) := by rw [h]
set_option maxHeartbeats 400000 in
theorem optionLong_any (x : ByteArray) (w : World) (hs : x.size ≤ 281474976710656) (h : 0 < x.size) :
    Calls Tryd.prog 48 #[.string x] w fun e w' => e = .returned (.tuple #[.int .i64 (olg x).1, .bool (olg x).2]) ∧ w' = w := by
  have E : Hid (olg x = if bt x 0 = 1 then (1, true) else if x.size < 2 then (0, false) else (bt x 1, decide (2 ≤ bt x 1) && decide (bt x 1 ≤ x.size))) := (rfl : _ = _)
  obtain ⟨R, eR⟩ : ∃ R, R = olg x := ⟨_, rfl⟩
  rw [← eR] at E ⊢
  clear eR
  have hi : ∀ u, (Instr.index 9 (.string x) (.int .i64 0)).run Tryd.prog u = .ok (.int .u8 (bt x 0)) u := fun u => by simpa using index_at x 0 h u
  have b0 := bt_bd x 0
  generalize bt x 0 = c at *
  by_cases h1 : c = 1
  · subst h1
    have e : Hid (R = (1, true)) := by show _ = _; rw [E.out, if_pos rfl]
    clear E
    go_enter Tryd.func48, Tryd.ntmps48
    go_wp2_with fail
    go_ret2
    exact ⟨ret_olg e.out.symm, rfl⟩
  · have h1' : (c == 1) = false := by simpa using h1
    by_cases h2 : x.size < 2
    · have e : Hid (R = (0, false)) := by show _ = _; rw [E.out, if_neg h1, if_pos h2]
      have h2' : (x.size : Int) < 2 := by omega
      clear E h1
      go_enter Tryd.func48, Tryd.ntmps48
      go_wp2_with fail
      go_ret2
      exact ⟨ret_olg e.out.symm, rfl⟩
    · have hi1 : ∀ u, (Instr.index 9 (.string x) (.int .i64 1)).run Tryd.prog u = .ok (.int .u8 (bt x 1)) u := fun u => by simpa using index_at x 1 (by omega) u
      have e : Hid (R = (bt x 1, decide (2 ≤ bt x 1) && decide (bt x 1 ≤ x.size))) := by show _ = _; rw [E.out, if_neg h1, if_neg h2]
      have b1 := bt_bd x 1
      have h2' : ¬ (x.size : Int) < 2 := by omega
      generalize bt x 1 = n at *
      have n0 := b1.1
      have n1 := b1.2
      clear E h1 b1 b0
      by_cases g : 2 ≤ n
      · by_cases g2 : n ≤ x.size
        · have e1 : Hid (R = (n, true)) := by show _ = _; rw [e.out, decide_eq_true g, decide_eq_true g2]; rfl
          clear e
          go_enter Tryd.func48, Tryd.ntmps48
          go_wp2_with fail
          go_ret2
          exact ⟨ret_olg e1.out.symm, rfl⟩
        · have e1 : Hid (R = (n, false)) := by show _ = _; rw [e.out, decide_eq_true g, decide_eq_false g2]; rfl
          clear e
          go_enter Tryd.func48, Tryd.ntmps48
          go_wp2_with fail
          go_ret2
          exact ⟨ret_olg e1.out.symm, rfl⟩
      · have e1 : Hid (R = (n, false)) := by show _ = _; rw [e.out, decide_eq_false g]; rfl
        clear e
        go_enter Tryd.func48, Tryd.ntmps48
        go_wp2_with fail
        go_ret2
        exact ⟨ret_olg e1.out.symm, rfl⟩
theorem own_new {α : Type} {K : Knd α} {w : World} {B : Nat} {v : Value} {l : List α} (h : Own K w B v l) (b : Nat) (hb : w.heap.size ≤ b) : v.ownBlock ≠ some b := fun e => by
  have := (World.ownsRow.lt h b e).2
  omega
theorem map_app (o : Option (List Opt)) (acc : List Opt) (y : Opt) : (o.map (y :: ·)).map (acc ++ ·) = o.map ((acc ++ [y]) ++ ·) := by
  cases o <;> simp
end Go.Proofs.YtpcknkpddinccaaDoor.tcr1
