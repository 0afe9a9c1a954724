/- What tcp.within, longOf, appendOption, putWord and under answer, and that they change nothing that was there. -/
import Derived.Test.YtpcknkpddinccaaDoorTcpTxt
import Derived.Test.YtpcknkpddinccaaDoorTcpMove
import Derived.Test.YtpcknkpddinccaaDoorDgIn
namespace Go.Proofs.YtpcknkpddinccaaDoor.tcw1
open Go.ChangeShapes Go.WideShapes Go.ChangeAt Go.RowKit Go.BigFrame
open Go.Proofs.YtpcknkpddinccaaDoor Go.Proofs.YtpcknkpddinccaaDoor.EM Go.Proofs.YtpcknkpddinccaaDoor.ethb Go.Proofs.YtpcknkpddinccaaDoor.SM Go.Proofs.YtpcknkpddinccaaDoor.ipb Go.Proofs.YtpcknkpddinccaaDoor.buf Go.Proofs.YtpcknkpddinccaaDoor.boxes Go.Proofs.YtpcknkpddinccaaDoor.wds Go.Proofs.YtpcknkpddinccaaDoor.tcb Go.Proofs.YtpcknkpddinccaaDoor.tci Go.Proofs.YtpcknkpddinccaaDoor.tcm Go.Proofs.YtpcknkpddinccaaDoor.tct Go.Proofs.YtpcknkpddinccaaDoor.rwr Go.Proofs.YtpcknkpddinccaaDoor.dgb
open Go.Proofs.YtpcknkpddinccaaDoor.dgi (Ad Under_any)
open Go.Proofs.YtpcknkpddinccaaDoor.sumw (Qd Qd.refl Qd.drewN Qd.trans)
open Go.Proofs.YtpcknkpddinccaaDoor.rws (Knd)
open Go.Proofs.YtpcknkpddinccaaDoor.ipm (bytes_ext ext_list size_list)

def inr (m : Int) (x : Int) : Bool := decide (0 ≤ x) && decide (x ≤ m)
set_option maxHeartbeats 400000 in
theorem within_any (m : Int) (w : World) (g cap n : Nat) (ws : List Int) (hn : n = ws.length) (hz : ws.length ≤ 100) (hrow : Blk w g (ws.map (Value.int .i64)).toArray 3) :
    Calls Tryd.prog 17 #[.int .i64 m, .slice (some ⟨g, 0, none⟩) n cap] w fun e w' => e = .returned (.bool (ws.all (inr m))) ∧ w' = w := by
  have HN : Hid (n = ws.length) := hn
  have hz' : n ≤ 100 := by omega
  obtain ⟨R, HR⟩ : ∃ R, Hid (ws.all (inr m) = R) := ⟨_, (rfl : _ = _)⟩
  rw [HR.out]
  clear hn
  go_enter Tryd.func17, Tryd.ntmps17
  go_wp2_with fail
  go_loopw [9] (fun i wr => ∃ k : Nat, k ≤ n ∧ i = .int .i64 k ∧ Hid ((ws.drop k).all (inr m) = R) ∧ wr = w) (fun i _ => n - (intOf i).toNat)
  case atStart => exact ⟨0, Nat.zero_le _, rfl, HR, rfl⟩
  case round =>
    obtain ⟨k, hk, rfl, E, rfl⟩ := hrel
    clear HR
    by_cases hlt : k < n
    · have hN := HN.out
      obtain ⟨x, X⟩ : ∃ x, ws[k]? = some x := ⟨ws[k]'(by omega), List.getElem?_eq_getElem _⟩
      have src : wr.cell? ⟨g, k, none⟩ = some (.int .i64 x) := by
        rw [hrow.cell, List.getElem?_toArray, List.getElem?_map, X]; rfl
      have E2 : Hid ((inr m x && (ws.drop (k + 1)).all (inr m)) = R) := by
        show _ = _
        have := (List.getElem?_eq_some_iff.1 X).2
        rw [← E.out, List.drop_eq_getElem_cons (show k < ws.length by omega), List.all_cons, this]
      have hlt' : (k : Int) < (n : Int) := by omega
      clear E X hN hrow
      by_cases x0 : x < 0
      · have RF : Hid (R = false) := by show _ = _; rw [← E2.out]; unfold inr; rw [decide_eq_false (by omega)]; rfl
        clear E2
        go_wp2_with fail
        go_ret
        exact ⟨by rw [RF.out]; rfl, rfl⟩
      · by_cases x1 : m < x
        · have RF : Hid (R = false) := by show _ = _; rw [← E2.out]; unfold inr; rw [decide_eq_false (show ¬ x ≤ m by omega), Bool.and_false]; rfl
          clear E2
          go_wp2_with fail
          go_ret
          exact ⟨by rw [RF.out]; rfl, rfl⟩
        · have E3 : Hid ((ws.drop (k + 1)).all (inr m) = R) := by show _ = _; rw [← E2.out]; unfold inr; rw [decide_eq_true (show 0 ≤ x by omega), decide_eq_true (show x ≤ m by omega)]; rfl
          clear E2
          go_wp2_with fail
          go_roundw
          case rel => exact ⟨k + 1, by omega, by go_num, E3, by first | rfl | trivial⟩
          case measure => simp [intOf]; omega
    · have hN := HN.out
      have RT : Hid (R = true) := by show _ = _; rw [← E.out, List.drop_eq_nil_of_le (by omega)]; rfl
      have hlt' : ¬ (k : Int) < (n : Int) := by omega
      clear E hN
      go_wp2_with fail
      go_ret
      exact ⟨by rw [RT.out]; rfl, rfl⟩
theorem putWord_any (w : World) (B : Nat) (v : Value) (l : List UInt8) (k : Nat) (n : Int) (hown : Own w B v l) (hk : k + 1 < l.length) (hl : l.length ≤ 70368744177664) (h0 : 0 ≤ n) (h1 : n ≤ 65535) :
    Calls Tryd.prog 22 #[v, .int .i64 k, .int .u16 n] w fun e w' => e = .returned (.tuple #[]) ∧ Own w' B v (putw l k n) ∧ Below B w w' ∧ w'.heap.size = w.heap.size := by
  obtain ⟨g, cap, cur, rfl, hB, hg, hc, hm, hs, ht⟩ := own_blk hown (by omega)
  obtain ⟨x0, e0⟩ : ∃ x, cur[k]? = some x := ⟨cur[k]'(by omega), Array.getElem?_eq_getElem _⟩
  obtain ⟨x1, e1⟩ : ∃ x, cur[k + 1]? = some x := ⟨cur[k + 1]'(by omega), Array.getElem?_eq_getElem _⟩
  have c0 : w.cell? ⟨g, k, none⟩ = some x0 := (hg.cell k).trans e0
  have f0 := hg.free k
  have c1 : ∀ u, (w.setCell ⟨g, k, none⟩ u).cell? ⟨g, k + 1, none⟩ = some x1 := fun u => by
    rw [World.cell?_setCell_other (h := by intro hh; injection hh with _ h2 _; omega)]; exact (hg.cell _).trans e1
  have f1 : ∀ u, (w.setCell ⟨g, k, none⟩ u).frozen? ⟨g, k + 1, none⟩ = false := fun u => by rw [World.frozen?_setCell]; exact hg.free _
  have G : Hid (Blk ((w.setCell ⟨g, k, none⟩ (.int .u8 ((hi8 n).toNat : Int))).setCell ⟨g, k + 1, none⟩ (.int .u8 ((lo8 n).toNat : Int))) g ((cur.setIfInBounds k (.int .u8 ((hi8 n).toNat : Int))).setIfInBounds (k + 1) (.int .u8 ((lo8 n).toNat : Int))) 5) := (hg.setCell _ _).setCell _ _
  rw [hi8_at n h0 h1, lo8_at] at G
  have T : Hid (((cur.setIfInBounds k (.int .u8 ((hi8 n).toNat : Int))).setIfInBounds (k + 1) (.int .u8 ((lo8 n).toNat : Int))).toList.take l.length = bc (putw l k n)) := by
    show _ = _
    unfold putw
    rw [bc_set, bc_set, take_set, take_set, ht]
  rw [hi8_at n h0 h1, lo8_at] at T
  have hk1 : (k : Int) + 1 < l.length := by omega
  have hk0 : (k : Int) < l.length := by omega
  have hh : n / 256 < 256 := by omega
  have k1 : ((k : Int) + 1).toNat = k + 1 := by omega
  clear hown ht e0 e1
  go_enter Tryd.func22, Tryd.ntmps22
  go_wp2_with fail
  refine bodyPost_end (results_none rfl _ _ _) rfl ⟨rfl, ?_, ?_, ?_⟩
  · have := own_of (B := B) (l := putw l k n) hB G.out (by rw [putw_length]; exact hc) hm (by simpa using hs) (by rw [putw_length]; exact T.out)
    rw [putw_length] at this
    exact this
  · exact ((Below.refl _ _).setCell (by simpa using hB) _).setCell (by simpa using hB) _
  · simp
/-- what CHECK is made of -/
def uns (f t : Int) (s : ByteArray) : ByteArray := ⟨(und f t 6 s.size).toArray⟩ ++ s
theorem uns_list (f t : Int) (s : ByteArray) : (uns f t s).data.toList = und f t 6 s.size ++ s.data.toList := by simp [uns]
theorem uns_size (f t : Int) (s : ByteArray) : (uns f t s).size = 12 + s.size := by
  have : (uns f t s).data.toList.length = 12 + s.size := by rw [uns_list, List.length_append, und_len]; simp
  simpa using this
theorem under_any (f t : Int) (s : ByteArray) (w : World) (hs : s.size ≤ 281474976710656) (hf : Ad f) (ht : Ad t) :
    Calls Tryd.prog 24 #[.string s, .int .u32 f, .int .u32 t] w fun e w' => e = .returned (.string (uns f t s)) ∧ Below w.heap.size w w' := by
  have E : Hid ((⟨(und f t 6 s.size).toArray⟩ : ByteArray) ++ s = uns f t s) := (rfl : _ = _)
  have C := fun u => Under_any f t 6 s.size u hf ht
  have zx : (⟨(und f t 6 s.size).toArray⟩ : ByteArray).size = 12 := by show (und f t 6 s.size).toArray.size = 12; rw [List.size_toArray, und_len]
  generalize (⟨(und f t 6 s.size).toArray⟩ : ByteArray) = x at E C zx
  go_enter Tryd.func24, Tryd.ntmps24
  go_wp2_with fail
  refine (C _).mono ?_
  rintro e w1 ⟨rfl, b1⟩
  go_wp2_with fail
  go_ret
  exact ⟨by rw [E.out]; rfl, b1⟩
set_option maxHeartbeats 1000000 in
theorem appendOption_any (w : World) (B : Nat) (v : Value) (l : List UInt8) (o : Opt) (ho : ook o = true) (hown : Own w B v l) (hl : l.length ≤ 35184372088832) (hB : B ≤ w.heap.size) :
    Calls Tryd.prog 21 #[v, .agg o.cells] w fun e w' => ∃ v', e = .returned v' ∧ Own w' B v' (l ++ ot o) ∧ Below B w w' := by
  have E : Hid (ot o = if o.ki = 1 then [1] else b8 o.ki :: b8 ((o.d.size : Int) + 2) :: o.d.data.toList) := (rfl : _ = _)
  have hk : o.ki = 1 ∨ (2 ≤ o.ki ∧ o.ki ≤ 255 ∧ o.d.size ≤ 38) := by
    simp only [ook, Bool.or_eq_true, Bool.and_eq_true, decide_eq_true_eq] at ho; omega
  obtain ⟨ki, d⟩ := o
  obtain ⟨T, eT⟩ : ∃ T, T = ot ⟨ki, d⟩ := ⟨_, rfl⟩
  rw [← eT] at E ⊢
  clear eT ho
  have eb : ((b8 ki).toNat : Int) = ki % 256 := b8_at ki
  have b0 := (Below.refl B w).alloc hB (.cells (Opt.cells ⟨ki, d⟩) 40)
  have o0 := hown.alloc (.cells (Opt.cells ⟨ki, d⟩) 40)
  have D0 := Blk.new w (Opt.cells ⟨ki, d⟩) 40
  go_enter Tryd.func21, Tryd.ntmps21
  go_wp2_with (at_builtin; refine app_kt _ rfl _ _ rfl B _ l rfl (o0.alloc _) ⟨w.heap.size + 1, 0, none⟩ 1 1 [b8 ki] rfl rfl ?c1 (by omega) (by simp; omega) ?_)
  intro v1 w1 o1 b1 kt1
  have D1 := kt1 _ _ _ (by decide) (D0.alloc _)
  have c1 := D1.cell
  have b2 := (b0.alloc (by simp; omega) _).trans b1
  have zB : B ≤ w1.heap.size := Nat.le_trans hB b2.size
  clear D0 b0 o0 b1 kt1 hown
  by_cases k1 : ki = 1
  · subst k1
    have E1 : Hid (T = [b8 1]) := by show _ = _; rw [E.out, if_pos rfl]; rfl
    clear E hk
    go_wp2_with fail
    go_ret
    exact ⟨_, rfl, by rw [E1.out]; exact o1, b2⟩
  · have E1 : Hid (T = b8 ki :: b8 ((d.size : Int) + 2) :: d.data.toList) := by show _ = _; rw [E.out, if_neg k1]
    have k1' : (ki == 1) = false := by simpa using k1
    have dz : d.size ≤ 38 := by omega
    have eb2 : ((b8 ((d.size : Int) + 2)).toNat : Int) = (2 + (d.size : Int)) % 256 := by rw [b8_at]; congr 1; omega
    have b3 := b2.alloc zB (.cells #[.int .u8 ((2 + (d.size : Int)) % 256)] 5)
    clear E hk k1
    go_wp2_with (at_builtin; refine app_kt _ rfl _ _ rfl B _ _ rfl (o1.alloc _) ⟨w1.heap.size, 0, none⟩ 1 1 [b8 ((d.size : Int) + 2)] rfl rfl ?c2 (by simp; omega) (by simp; omega) ?_)
    case c2 =>
      intro j hj
      match j, hj with
      | 0, _ => simp [Addr.add, eb2]; omega
    intro v2 w2 o2 b2' kt2
    have D2 := kt2 _ _ _ (by decide) (D1.alloc _)
    have c2 := D2.cell
    have b4 := (b2.alloc zB _).trans b2'
    have zB2 : B ≤ w2.heap.size := Nat.le_trans hB b4.size
    clear c1 D1 b2 b3 b2' kt2 o1
    go_wp2_with (at_builtin; refine appS_own _ rfl _ _ rfl B _ _ rfl o2 d rfl (by simp; omega) zB2 ?_)
    intro v3 w3 o3 b3
    have b5 := b4.trans b3
    clear c2 D2 b4 b3 o2
    go_wp2_with fail
    go_ret
    exact ⟨_, rfl, by rw [E1.out]; simpa using o3, b5⟩
end Go.Proofs.YtpcknkpddinccaaDoor.tcw1
