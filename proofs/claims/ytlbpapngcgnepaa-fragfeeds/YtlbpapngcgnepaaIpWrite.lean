/- What ip.Write answers, and that it changes nothing that was there. -/
import Derived.Test.YtlbpapngcgnepaaJoinB
namespace Go.Proofs.Ytlbpapngcgnepaa.ipw
open Go.ChangeShapes Go.WideShapes Go.ChangeAt Go.RowKit
open Go.Proofs.Ytlbpapngcgnepaa.EM Go.Proofs.Ytlbpapngcgnepaa.ethb Go.Proofs.Ytlbpapngcgnepaa.SM Go.Proofs.Ytlbpapngcgnepaa.ipb Go.Proofs.Ytlbpapngcgnepaa.buf Go.Proofs.Ytlbpapngcgnepaa.boxes Go.Proofs.Ytlbpapngcgnepaa.ipi
open Go.Proofs.Ytlbpapngcgnepaa.sumw (Qd)

theorem own_blk {w : World} {B : Nat} {v : Value} {l : List UInt8} (h : Own w B v l) (hl : 0 < l.length) :
    ∃ g cap cur, v = .slice (some ⟨g, 0, none⟩) l.length cap ∧ B ≤ g ∧ Blk w g cur 5 ∧ l.length ≤ cap ∧ cap ≤ maxLen ∧ cur.size = cap ∧ cur.toList.take l.length = bc l := by
  rcases h.2 with ⟨rfl, hn⟩ | ⟨g, cap, cur, rfl, hB, hg, hnc, hm, hcs, htake⟩
  · omega
  · exact ⟨g, cap, cur, rfl, hB, hg, hnc, hm, by simpa using hcs, by simpa using htake⟩
theorem own_of {w : World} {B g cap : Nat} {cur : Array Value} {l : List UInt8} (hB : B ≤ g) (hg : Blk w g cur 5) (hc : l.length ≤ cap) (hm : cap ≤ maxLen) (hs : cur.size = cap) (ht : cur.toList.take l.length = bc l) :
    Own w B (.slice (some ⟨g, 0, none⟩) l.length cap) l :=
  ⟨by simp [bc_length], Or.inr ⟨g, cap, cur, rfl, hB, hg, hc, hm, by simpa using hs, by simpa using ht⟩⟩
theorem bc_set (l : List UInt8) (i : Nat) (x : UInt8) : bc (l.set i x) = (bc l).set i (.int .u8 x.toNat) := by
  unfold bc; rw [List.map_set]
theorem take_set (cur : Array Value) (n i : Nat) (v : Value) : (cur.setIfInBounds i v).toList.take n = (cur.toList.take n).set i v := by
  rw [Array.toList_setIfInBounds, List.take_set]
/-- a word is put into a row of bytes -/
def putw (l : List UInt8) (k : Nat) (n : Int) : List UInt8 := (l.set k (hi8 n)).set (k + 1) (lo8 n)
theorem putw_length (l : List UInt8) (k : Nat) (n : Int) : (putw l k n).length = l.length := by simp [putw]

theorem putWord_any (w : World) (B : Nat) (v : Value) (l : List UInt8) (k : Nat) (n : Int) (hown : Own w B v l) (hk : k + 1 < l.length) (hl : l.length ≤ 70368744177664) (h0 : 0 ≤ n) (h1 : n ≤ 65535) :
    Calls Try.prog 47 #[v, .int .i64 k, .int .u16 n] w fun e w' => e = .returned (.tuple #[]) ∧ Own w' B v (putw l k n) ∧ Below B w w' ∧ w'.heap.size = w.heap.size := by
  obtain ⟨g, cap, cur, rfl, hB, hg, hc, hm, hs, ht⟩ := own_blk hown (by omega)
  obtain ⟨x0, e0⟩ : ∃ x, cur[k]? = some x := ⟨cur[k]'(by omega), Array.getElem?_eq_getElem _⟩
  obtain ⟨x1, e1⟩ : ∃ x, cur[k + 1]? = some x := ⟨cur[k + 1]'(by omega), Array.getElem?_eq_getElem _⟩
  have c0 : w.cell? ⟨g, k, none⟩ = some x0 := (hg.cell k).trans e0
  have f0 := hg.free k
  have c1 : ∀ u, (w.setCell ⟨g, k, none⟩ u).cell? ⟨g, k + 1, none⟩ = some x1 := fun u => by
    rw [World.cell?_setCell_other (h := by intro hh; injection hh with _ h2 _; omega)]; exact (hg.cell _).trans e1
  have f1 : ∀ u, (w.setCell ⟨g, k, none⟩ u).frozen? ⟨g, k + 1, none⟩ = false := fun u => by rw [World.frozen?_setCell]; exact hg.free _
  have G : Hid (Blk ((w.setCell ⟨g, k, none⟩ (.int .u8 ((hi8 n).toNat : Int))).setCell ⟨g, k + 1, none⟩ (.int .u8 ((lo8 n).toNat : Int))) g ((cur.setIfInBounds k (.int .u8 ((hi8 n).toNat : Int))).setIfInBounds (k + 1) (.int .u8 ((lo8 n).toNat : Int))) 5) := (hg.setCell _ _).setCell _ _
  rw [hi8_at n h0 h1, lo8_at] at G
  have T : Hid (((cur.setIfInBounds k (.int .u8 ((hi8 n).toNat : Int))).setIfInBounds (k + 1) (.int .u8 ((lo8 n).toNat : Int))).toList.take l.length = bc (putw l k n)) := by
    show _ = _
    unfold putw
    rw [bc_set, bc_set, take_set, take_set, ht]
  rw [hi8_at n h0 h1, lo8_at] at T
  have hk1 : (k : Int) + 1 < l.length := by omega
  have hk0 : (k : Int) < l.length := by omega
  have hh : n / 256 < 256 := by omega
  have k1 : ((k : Int) + 1).toNat = k + 1 := by omega
  clear hown ht e0 e1
  go_enter Try.func47, Try.ntmps47
  go_wp2_with fail
  refine bodyPost_end (results_none rfl _ _ _) rfl ⟨rfl, ?_, ?_, ?_⟩
  · have := own_of (B := B) (l := putw l k n) hB G.out (by rw [putw_length]; exact hc) hm (by simpa using hs) (by rw [putw_length]; exact T.out)
    rw [putw_length] at this
    exact this
  · exact ((Below.refl _ _).setCell (by simpa using hB) _).setCell (by simpa using hB) _
  · simp

theorem arg_err (p : Pk) (h : p.tos < 0 ∨ 255 < p.tos ∨ p.li < 0 ∨ 255 < p.li ∨ p.pr < 0 ∨ 255 < p.pr ∨ p.id < 0 ∨ 65535 < p.id ∨ p.st < 0 ∨ 8191 < p.st ∨ 40 < p.o.size ∨ p.o.size % 4 ≠ 0) : p.err = 1 := by unfold Pk.err; rw [if_pos h]
theorem more_err (p : Pk) (h : ¬ (p.tos < 0 ∨ 255 < p.tos ∨ p.li < 0 ∨ 255 < p.li ∨ p.pr < 0 ∨ 255 < p.pr ∨ p.id < 0 ∨ 65535 < p.id ∨ p.st < 0 ∨ 8191 < p.st ∨ 40 < p.o.size ∨ p.o.size % 4 ≠ 0)) :
    p.err = if p.wh = true ∧ (p.mo = true ∨ p.st ≠ 0) then 4 else if 65535 < 20 + p.o.size + p.d.size then 2 else 0 := by unfold Pk.err; rw [if_neg h]
set_option maxHeartbeats 2000000 in
theorem check_any (p : Pk) (w : World) (h : 20 + p.o.size + p.d.size ≤ 9223372036854775807) :
    Calls Try.prog 42 #[.agg p.cells] w fun e w' => e = .returned (.int .i64 p.err) ∧ Below w.heap.size w w' := by
  have hl := fun u => long_any p u h
  have A := arg_err p
  have A2 := more_err p
  obtain ⟨er, her⟩ : ∃ er, er = p.err := ⟨_, rfl⟩
  rw [← her] at A A2 ⊢
  have HA : Hid (_ → er = 1) := A
  have HB : Hid (_ → er = _) := A2
  clear A A2 her
  obtain ⟨tos, id, wh, mo, st, li, pr, fr, to, o, d⟩ := p
  simp only at h hl HA HB ⊢
  have bel := (Below.refl w.heap.size w).alloc (Nat.le_refl _) (.cells (Pk.cells ⟨tos, id, wh, mo, st, li, pr, fr, to, o, d⟩) 24)
  have bel2 := bel.alloc (by simp) (.cells (Pk.cells ⟨tos, id, wh, mo, st, li, pr, fr, to, o, d⟩) 24)
  go_enter Try.func42, Try.ntmps42
  go_wp2_with fail
  refine (within_any tos 255 _).mono ?_
  rintro e w1 ⟨rfl, rfl⟩
  by_cases a1 : 0 ≤ tos ∧ tos ≤ 255
  case neg =>
    rw [decide_eq_false a1]
    go_wp2_with fail
    go_ret
    exact ⟨ret_int (HA.out (by omega)).symm, bel⟩
  rw [decide_eq_true a1]
  go_wp2_with fail
  refine (within_any li 255 _).mono ?_
  rintro e w1 ⟨rfl, rfl⟩
  by_cases a2 : 0 ≤ li ∧ li ≤ 255
  case neg =>
    rw [decide_eq_false a2]
    go_wp2_with fail
    go_ret
    exact ⟨ret_int (HA.out (by omega)).symm, bel⟩
  rw [decide_eq_true a2]
  go_wp2_with fail
  refine (within_any pr 255 _).mono ?_
  rintro e w1 ⟨rfl, rfl⟩
  by_cases a3 : 0 ≤ pr ∧ pr ≤ 255
  case neg =>
    rw [decide_eq_false a3]
    go_wp2_with fail
    go_ret
    exact ⟨ret_int (HA.out (by omega)).symm, bel⟩
  rw [decide_eq_true a3]
  go_wp2_with fail
  refine (within_any id 65535 _).mono ?_
  rintro e w1 ⟨rfl, rfl⟩
  by_cases a4 : 0 ≤ id ∧ id ≤ 65535
  case neg =>
    rw [decide_eq_false a4]
    go_wp2_with fail
    go_ret
    exact ⟨ret_int (HA.out (by omega)).symm, bel⟩
  rw [decide_eq_true a4]
  go_wp2_with fail
  refine (within_any st 8191 _).mono ?_
  rintro e w1 ⟨rfl, rfl⟩
  by_cases a5 : 0 ≤ st ∧ st ≤ 8191
  case neg =>
    rw [decide_eq_false a5]
    go_wp2_with fail
    go_ret
    exact ⟨ret_int (HA.out (by omega)).symm, bel⟩
  rw [decide_eq_true a5]
  by_cases o1 : 40 < o.size
  · go_wp2_with fail
    go_ret
    exact ⟨ret_int (HA.out (by omega)).symm, bel⟩
  by_cases o4 : o.size % 4 = 0
  case neg =>
    have o4' : (((o.size : Int) % 4) != 0) = true := by simp; omega
    have o1' : decide (40 < (o.size : Int)) = false := by simp; omega
    go_wp2_with fail
    go_ret
    exact ⟨ret_int (HA.out (by omega)).symm, bel⟩
  have o4' : (((o.size : Int) % 4) != 0) = false := by simp; omega
  have o1' : decide (40 < (o.size : Int)) = false := by simp; omega
  have G1 := HB.out (by omega)
  clear HA HB a1 a2 a3 a4
  have fin : ∀ (wh mo : Bool), (wh = true → mo = false ∧ st = 0) → Hid (¬ (wh = true ∧ (mo = true ∨ st ≠ 0))) := fun a b hf => by
    show ¬ _
    rintro ⟨x, y⟩
    have := hf x
    rcases y with y | y
    · rw [this.1] at y; cases y
    · exact y this.2
  cases wh
  · have F := (fin false mo (by simp)).out
    have G2 : Hid (er = if 65535 < 20 + o.size + d.size then 2 else 0) := by show _ = _; rw [G1, if_neg F]
    clear F G1 fin
    go_wp2_with fail
    refine (hl _).mono ?_
    rintro e w1 ⟨rfl, rfl⟩
    by_cases L : 65535 < 20 + o.size + d.size
    · go_wp2_with fail
      go_ret
      exact ⟨ret_int (by rw [G2.out, if_pos L]), bel2⟩
    · go_wp2_with fail
      go_ret
      exact ⟨ret_int (by rw [G2.out, if_neg L]), bel2⟩
  · cases mo
    · by_cases s0 : st = 0
      · subst s0
        have F := (fin true false (by simp)).out
        have G2 : Hid (er = if 65535 < 20 + o.size + d.size then 2 else 0) := by show _ = _; rw [G1, if_neg F]
        clear F G1 fin
        go_wp2_with fail
        refine (hl _).mono ?_
        rintro e w1 ⟨rfl, rfl⟩
        by_cases L : 65535 < 20 + o.size + d.size
        · go_wp2_with fail
          go_ret
          exact ⟨ret_int (by rw [G2.out, if_pos L]), bel2⟩
        · go_wp2_with fail
          go_ret
          exact ⟨ret_int (by rw [G2.out, if_neg L]), bel2⟩
      · have s0' : (st != 0) = true := by simpa using s0
        have G2 : Hid (er = 4) := by show _ = _; rw [G1, if_pos ⟨rfl, Or.inr s0⟩]
        clear G1 fin
        go_wp2_with fail
        go_ret
        exact ⟨ret_int G2.out.symm, bel⟩
    · have G2 : Hid (er = 4) := by show _ = _; rw [G1, if_pos ⟨rfl, Or.inl rfl⟩]
      clear G1 fin
      go_wp2_with fail
      go_ret
      exact ⟨ret_int G2.out.symm, bel⟩
end Go.Proofs.Ytlbpapngcgnepaa.ipw
