/- What strings.Trim answers at a cutset of one byte 0: so many bytes 0 less on both sides. -/
import Derived.Test.YtpcknkpddinccaaDoorTcpRBase
import Derived.Test.YtpcknkpddinccaaDoorWds
import Derived.Test.YtpcknkpddinccaaDoorAb
import Derived.LoopN
namespace Go.Proofs.YtpcknkpddinccaaDoor.tctr
open Go.ChangeShapes Go.WideShapes Go.ChangeAt Go.RowKit Go.BigFrame
open Go.Proofs.YtpcknkpddinccaaDoor Go.Proofs.YtpcknkpddinccaaDoor.EM Go.Proofs.YtpcknkpddinccaaDoor.ethb Go.Proofs.YtpcknkpddinccaaDoor.wds Go.Proofs.YtpcknkpddinccaaDoor.tcrb
open Go.Proofs.YtpcknkpddinccaaDoor.ipm (bytes_ext ext_list size_list)

/-- how long a string is -/
def zs : Value → Nat
  | .string b => b.size
  | _ => 0
def trl (l : List UInt8) : List UInt8 := l.dropWhile (· == 0)
def trr (l : List UInt8) : List UInt8 := (l.reverse.dropWhile (· == 0)).reverse
def tz (s : ByteArray) : ByteArray := ⟨(trl (trr s.data.toList)).toArray⟩
theorem bt_nat (s : ByteArray) (k : Nat) (h : k < s.data.toList.length) : bt s k = ((s.data.toList[k]'h).toNat : Int) := by
  unfold bt; rw [List.getD_eq_getElem?_getD, List.getElem?_eq_getElem h]; rfl
theorem u8z {x : UInt8} (h : (x.toNat : Int) = 0) : x = 0 := by
  apply UInt8.toNat_inj.1; simpa using h
theorem trl_step (s : ByteArray) (h : 0 < s.size) (h0 : bt s 0 = 0) : trl (s.extract 1 s.size).data.toList = trl s.data.toList := by
  have hl : 0 < s.data.toList.length := by rw [size_list]; exact h
  rw [bt_nat s 0 hl] at h0
  have := u8z h0
  rw [ext_list, List.take_of_length_le (by rw [size_list]; exact Nat.le_refl _)]
  cases hh : s.data.toList with
  | nil => rw [hh] at hl; simp at hl
  | cons x r =>
    simp only [hh, List.getElem_cons_zero] at this
    simp [trl, this]
theorem trl_end (s : ByteArray) (h : s.size = 0 ∨ bt s 0 ≠ 0) : trl s.data.toList = s.data.toList := by
  cases hh : s.data.toList with
  | nil => rfl
  | cons x r =>
    have hl : s.data.toList.length = s.size := size_list s
    rw [hh] at hl
    have hx : bt s 0 ≠ 0 := by
      rcases h with h | h
      · rw [h] at hl; simp at hl
      · exact h
    rw [bt_nat s 0 (by rw [hh]; simp)] at hx
    simp only [hh, List.getElem_cons_zero] at hx
    have : ¬ x = 0 := fun e => hx (by rw [e]; rfl)
    simp [trl, this]
theorem last_of (l : List UInt8) (n : Nat) (h : l.length = n + 1) : l = l.take n ++ [l.getD n 0] := by
  have e : l.take (n + 1) = l.take n ++ [l.getD n 0] := by
    rw [List.take_succ_eq_append_getElem (by omega), List.getD_eq_getElem?_getD, List.getElem?_eq_getElem (by omega)]; rfl
  rw [← e, List.take_of_length_le (by omega)]
theorem trr_step (s : ByteArray) (h : 0 < s.size) (h0 : bt s (s.size - 1) = 0) : trr (s.extract 0 (s.size - 1)).data.toList = trr s.data.toList := by
  have hl : s.data.toList.length = s.size := size_list s
  have hx : s.data.toList.getD (s.size - 1) 0 = 0 := u8z h0
  have e := last_of s.data.toList (s.size - 1) (by omega)
  rw [hx] at e
  rw [ext_list, List.drop_zero]
  conv => rhs; rw [e]
  simp [trr]
theorem trr_end (s : ByteArray) (h : s.size = 0 ∨ bt s (s.size - 1) ≠ 0) : trr s.data.toList = s.data.toList := by
  have hl : s.data.toList.length = s.size := size_list s
  by_cases hz : s.size = 0
  · have : s.data.toList = [] := List.eq_nil_of_length_eq_zero (by omega)
    rw [this]; rfl
  · have hx := h.resolve_left hz
    have e := last_of s.data.toList (s.size - 1) (by omega)
    have hx' : s.data.toList.getD (s.size - 1) 0 ≠ 0 := fun e => hx (by unfold bt; rw [e]; rfl)
    generalize s.data.toList.getD (s.size - 1) 0 = x at hx' e
    rw [e]
    simp [trr, hx']
theorem az_trr (l : List UInt8) : az (trr l) = az l := by
  have key : ∀ m : List UInt8, az (m.dropWhile (· == 0)) = az m := fun m => by
    induction m with
    | nil => rfl
    | cons x r ih =>
      by_cases hx : x = 0
      · subst hx; simpa [az] using ih
      · have hx' : (x == 0) = false := by simpa using hx
        simp [List.dropWhile, hx', az]
  have rv : ∀ m : List UInt8, az m.reverse = az m := fun m => by simp [az]
  unfold trr
  rw [rv, key, rv]
theorem tz_size (s : ByteArray) : decide ((tz s).size = 0) = az s.data.toList := by
  have e : (tz s).size = (trl (trr s.data.toList)).length := by unfold tz; show (List.toArray _).size = _; simp
  rw [e, ← az_trr s.data.toList]
  generalize trr s.data.toList = m
  unfold trl
  induction m with
  | nil => rfl
  | cons x r ih =>
    by_cases hx : x = 0
    · subst hx; simpa [az] using ih
    · have hx' : (x == 0) = false := by simpa using hx
      simp [List.dropWhile, hx', az]
theorem ret_str {a b : ByteArray} (h : a = b) : Ending.returned (.string a) = .returned (.string b) := by rw [h]
set_option maxHeartbeats 400000 in
theorem left_any (s : ByteArray) (w : World) (hs : s.size ≤ 281474976710656) :
    Calls Tryd.prog 56 #[.string s, .int .u8 0] w fun e w' => e = .returned (.string ⟨(trl s.data.toList).toArray⟩) ∧ w' = w := by
  obtain ⟨R, HR⟩ : ∃ R, Hid (trl s.data.toList = R) := ⟨_, (rfl : _ = _)⟩
  rw [HR.out]
  go_enter Tryd.func56, Tryd.ntmps56
  go_wp2_with fail
  go_loopw [0] (fun v wr => ∃ x : ByteArray, v = .string x ∧ x.size ≤ 281474976710656 ∧ Hid (trl x.data.toList = R) ∧ wr = w) (fun v _ => zs v)
  case atStart => exact ⟨s, rfl, hs, HR, rfl⟩
  case round =>
    obtain ⟨x, rfl, xz, E, rfl⟩ := hrel
    clear HR hs
    by_cases h0 : 0 < x.size
    · have hi : ∀ u, (Instr.index 9 (.string x) (.int .i64 0)).run Tryd.prog u = .ok (.int .u8 (bt x 0)) u := fun u => by simpa using index_at x 0 h0 u
      have h0' : (0 : Int) < x.size := by omega
      have h1' : (1 : Int) ≤ x.size := by omega
      by_cases hb : bt x 0 = 0
      · have E1 : Hid (trl (x.extract 1 x.size).data.toList = R) := by show _ = _; rw [trl_step x h0 hb]; exact E.out
        have z1 : (x.extract 1 x.size).size = x.size - 1 := by rw [ByteArray.size_extract]; omega
        rw [hb] at hi
        clear E hb
        go_wp2_with fail
        go_roundw
        case rel => exact ⟨_, rfl, by omega, E1, by first | rfl | trivial⟩
        case measure => simp [zs]; omega
      · have hb' : (bt x 0 == 0) = false := by simpa using hb
        have E1 : Hid (x.data.toList = R) := by show _ = _; rw [← trl_end x (Or.inr hb)]; exact E.out
        clear E hb
        go_wp2_with fail
        go_ret
        exact ⟨ret_str (bytes_ext (by rw [E1.out])), rfl⟩
    · have E1 : Hid (x.data.toList = R) := by show _ = _; rw [← trl_end x (Or.inl (by omega))]; exact E.out
      have h0' : ¬ (0 : Int) < x.size := by omega
      clear E
      go_wp2_with fail
      go_ret
      exact ⟨ret_str (bytes_ext (by rw [E1.out])), rfl⟩
set_option maxHeartbeats 400000 in
theorem right_any (s : ByteArray) (w : World) (hs : s.size ≤ 281474976710656) :
    Calls Tryd.prog 57 #[.string s, .int .u8 0] w fun e w' => e = .returned (.string ⟨(trr s.data.toList).toArray⟩) ∧ w' = w := by
  obtain ⟨R, HR⟩ : ∃ R, Hid (trr s.data.toList = R) := ⟨_, (rfl : _ = _)⟩
  rw [HR.out]
  go_enter Tryd.func57, Tryd.ntmps57
  go_wp2_with fail
  go_loopw [0] (fun v wr => ∃ x : ByteArray, v = .string x ∧ x.size ≤ 281474976710656 ∧ Hid (trr x.data.toList = R) ∧ wr = w) (fun v _ => zs v)
  case atStart => exact ⟨s, rfl, hs, HR, rfl⟩
  case round =>
    obtain ⟨x, rfl, xz, E, rfl⟩ := hrel
    clear HR hs
    by_cases h0 : 0 < x.size
    · have hi : ∀ u, (Instr.index 9 (.string x) (.int .i64 ((x.size : Int) - 1))).run Tryd.prog u = .ok (.int .u8 (bt x (x.size - 1))) u := fun u => by
        have := index_at x (x.size - 1) (by omega) u
        rwa [show ((x.size - 1 : Nat) : Int) = (x.size : Int) - 1 by omega] at this
      have sl : ∀ u, (Instr.slice 9 (.string x) none (some (.int .i64 ((x.size : Int) - 1))) none).run Tryd.prog u = .ok (.string (x.extract 0 (x.size - 1))) u := fun u => by
        have := run_slice_string_h u 9 x Tryd.underlying9 .i64 ((x.size : Int) - 1) (by omega) (by omega)
        rwa [show ((x.size : Int) - 1).toNat = x.size - 1 by omega] at this
      have h0' : (0 : Int) < x.size := by omega
      by_cases hb : bt x (x.size - 1) = 0
      · have E1 : Hid (trr (x.extract 0 (x.size - 1)).data.toList = R) := by show _ = _; rw [trr_step x h0 hb]; exact E.out
        have z1 : (x.extract 0 (x.size - 1)).size = x.size - 1 := by rw [ByteArray.size_extract]; omega
        rw [hb] at hi
        generalize x.extract 0 (x.size - 1) = y at *
        clear E hb
        go_wp2_with fail
        go_roundw
        case rel => exact ⟨_, rfl, by omega, E1, by first | rfl | trivial⟩
        case measure => simp [zs]; omega
      · have hb' : (bt x (x.size - 1) == 0) = false := by simpa using hb
        have E1 : Hid (x.data.toList = R) := by show _ = _; rw [← trr_end x (Or.inr hb)]; exact E.out
        generalize bt x (x.size - 1) = c at *
        clear E hb sl
        go_wp2_with fail
        go_ret
        exact ⟨ret_str (bytes_ext (by rw [E1.out])), rfl⟩
    · have E1 : Hid (x.data.toList = R) := by show _ = _; rw [← trr_end x (Or.inl (by omega))]; exact E.out
      have h0' : ¬ (0 : Int) < x.size := by omega
      clear E
      go_wp2_with fail
      go_ret
      exact ⟨ret_str (bytes_ext (by rw [E1.out])), rfl⟩
set_option maxRecDepth 20000 in
set_option maxHeartbeats 400000 in
theorem trim_any (s : ByteArray) (w : World) (hs : s.size ≤ 281474976710656) :
    Calls Tryd.prog 49 #[.string s, .string ⟨#[0]⟩] w fun e w' => e = .returned (.string (tz s)) ∧ Below w.heap.size w w' := by
  by_cases h0 : s.size = 0
  · have e : s = ⟨#[]⟩ := bytes_ext (List.eq_nil_of_length_eq_zero (by rw [size_list]; exact h0))
    subst e
    have E : Hid (tz ⟨#[]⟩ = ⟨#[]⟩) := (rfl : _ = _)
    rw [E.out]
    go_enter Tryd.func49, Tryd.ntmps49
    go_wp2_with fail
    go_ret
    exact ⟨rfl, Below.refl _ _⟩
  · have ne : (s.toList == []) = false := by
      have : s.toList.length ≠ 0 := by rw [ByteArray.toList_eq, size_list]; exact h0
      cases hh : s.toList with
      | nil => rw [hh] at this; simp at this
      | cons a b => rfl
    have CR := fun u => right_any s u hs
    obtain ⟨r, er⟩ : ∃ r : ByteArray, r = ⟨(trr s.data.toList).toArray⟩ := ⟨_, rfl⟩
    have rl : r.data.toList = trr s.data.toList := by rw [er]
    have rz : r.size ≤ 281474976710656 := by
      rw [← size_list, rl]
      have : (trr s.data.toList).length ≤ s.data.toList.length := by
        unfold trr
        rw [List.length_reverse]
        exact Nat.le_trans (List.Sublist.length_le (List.dropWhile_sublist _)) (by rw [List.length_reverse]; exact Nat.le_refl _)
      rw [size_list] at this; omega
    have CL := fun u => left_any r u rz
    have E : Hid ((⟨(trl r.data.toList).toArray⟩ : ByteArray) = tz s) := by show _ = _; rw [rl]; rfl
    rw [← er] at CR
    rw [E.out] at CL
    generalize tz s = T at *
    clear er rl E
    go_enter Tryd.func49, Tryd.ntmps49
    go_wp2_with fail
    have nev := ab.ne w
    refine ab.region (by kernel_rfl) (by kernel_rfl) ?_
    repeat (go_big_quiet_step (first
      | (go_at_call 57; exact ab.call_same (CR _))
      | (go_at_call 56; exact ab.call_same (CL _))))
    refine wpQuiet_nil ?_
    intro _ hx
    obtain ⟨y, rfl⟩ := hx
    have Ky := y.h
    generalize y.W = W5 at Ky ⊢
    go_wp2_with fail
    go_ret
    exact ⟨rfl, Ky⟩
end Go.Proofs.YtpcknkpddinccaaDoor.tctr
