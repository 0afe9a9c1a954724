/- What tcp.appendLongs and tcp.moveLongs answer, and that they change nothing that was there. -/
import Derived.Test.YtpcknkpddinccaaDoorTcpIn
namespace Go.Proofs.YtpcknkpddinccaaDoor.tcv
open Go.ChangeShapes Go.WideShapes Go.ChangeAt Go.RowKit Go.BigFrame
open Go.Proofs.YtpcknkpddinccaaDoor.EM Go.Proofs.YtpcknkpddinccaaDoor.ethb Go.Proofs.YtpcknkpddinccaaDoor.SM Go.Proofs.YtpcknkpddinccaaDoor.ipb Go.Proofs.YtpcknkpddinccaaDoor.buf Go.Proofs.YtpcknkpddinccaaDoor.boxes Go.Proofs.YtpcknkpddinccaaDoor.wds Go.Proofs.YtpcknkpddinccaaDoor.tcb Go.Proofs.YtpcknkpddinccaaDoor.tci
open Go.Proofs.YtpcknkpddinccaaDoor.sumw (Qd Qd.refl Qd.drewN Qd.trans)
open Go.Proofs.YtpcknkpddinccaaDoor.ipm (size_list)

/-- longs, as bytes -/
def lbl (ws : List Int) : List UInt8 := ws.flatMap adr
theorem lbl_len (ws : List Int) : (lbl ws).length = 4 * ws.length := by
  induction ws with
  | nil => rfl
  | cons x r ih =>
    have : lbl (x :: r) = adr x ++ lbl r := rfl
    rw [this, List.length_append, ih]; simp [adr]; omega
theorem lbl_take (ws : List Int) (k : Nat) (h : k < ws.length) : lbl (ws.take (k + 1)) = lbl (ws.take k) ++ adr (ws.getD k 0) := by
  have e : ws.take (k + 1) = ws.take k ++ [ws.getD k 0] := by rw [List.take_succ_eq_append_getElem h, List.getD_eq_getElem?_getD, List.getElem?_eq_getElem h]; rfl
  rw [e]
  unfold lbl
  rw [List.flatMap_append]; simp
theorem wbl_adr (x : Int) : wbl [x / 65536, x % 65536] = adr x := by simp [wbl, adr]
set_option maxHeartbeats 400000 in
theorem appendLongs_any (w : World) (B g cap n : Nat) (v : Value) (l : List UInt8) (ws : List Int) (hn : n = ws.length) (hown : Own w B v l) (hl : l.length ≤ 140737488352000) (hB : B ≤ w.heap.size) (hw : ∀ x ∈ ws, 0 ≤ x ∧ x ≤ 4294967295) (hz : ws.length ≤ 100)
    (hrow : Blk w g (ws.map (Value.int .u32)).toArray 22) :
    Calls Tryd.prog 20 #[v, .slice (some ⟨g, 0, none⟩) n cap] w fun e w' => ∃ v', e = .returned v' ∧ Own w' B v' (l ++ lbl ws) ∧ Below B w w' ∧ Kt w w' := by
  have HN : Hid (n = ws.length) := hn
  have hz' : n ≤ 100 := by omega
  clear hn
  go_enter Tryd.func20, Tryd.ntmps20
  go_wp2_with fail
  go_loopw [0, 9] (fun s i wr => ∃ k : Nat, k ≤ n ∧ i = .int .i64 k ∧ Own wr B s (l ++ lbl (ws.take k)) ∧ Below B w wr ∧ Kt w wr) (fun _ i _ => n - (intOf i).toNat)
  case atStart => exact ⟨0, Nat.zero_le _, rfl, by simpa [lbl] using hown, Below.refl _ _, Kt.refl _⟩
  case round =>
    obtain ⟨k, hk, rfl, own, bel, kt⟩ := hrel
    clear hown
    by_cases hlt : k < n
    · have hN := HN.out
      obtain ⟨x, X⟩ : ∃ x, x = ws.getD k 0 := ⟨_, rfl⟩
      have xm : x ∈ ws := by rw [X, List.getD_eq_getElem?_getD, List.getElem?_eq_getElem (by omega)]; exact List.getElem_mem _
      have x0 := (hw x xm).1
      have x1 := (hw x xm).2
      have src : wr.cell? ⟨g, k, none⟩ = some (.int .u32 x) := by
        rw [(kt _ _ _ (by decide) hrow).cell, List.getElem?_toArray, List.getElem?_map, List.getElem?_eq_getElem (by omega), X, List.getD_eq_getElem?_getD, List.getElem?_eq_getElem (by omega)]; rfl
      have E : Hid (l ++ lbl (ws.take (k + 1)) = l ++ lbl (ws.take k) ++ wbl [x / 65536, x % 65536]) := by show _ = _; rw [lbl_take ws k (by omega), ← X, List.append_assoc, wbl_adr]
      have zl : (l ++ lbl (ws.take k)).length ≤ 140737488355000 := by rw [List.length_append, lbl_len, List.length_take]; omega
      have zB := bel.size
      have bz : B ≤ wr.heap.size := Nat.le_trans hB zB
      have hh : x / 65536 < 65536 := by omega
      generalize l ++ lbl (ws.take k) = M at own E zl
      clear X xm hN hrow hw
      go_wp2_with fail
      refine (appendWords_any _ B wr.heap.size 2 2 _ M [x / 65536, x % 65536] rfl (own.alloc _) zl (by simp; omega) (by intro y hy; simp at hy; omega) (by simp) (Blk.newAt _ _ _ rfl)).mono ?_
      rintro e w' ⟨v', rfl, o1, b1, k1⟩
      have bel' := (bel.alloc bz _).trans b1
      have kt' := (kt.alloc _).trans k1
      rw [← E.out] at o1
      clear own bel kt b1 k1 E
      go_wp2_with fail
      go_roundw
      case rel => exact ⟨k + 1, by omega, by go_num, o1, bel', kt'⟩
      case measure => simp [intOf]; omega
    · have hN := HN.out
      have e : k = n := by omega
      have o1 := own
      rw [e, hN, List.take_length] at o1
      clear own hN e
      go_wp2_with fail
      go_ret
      exact ⟨_, rfl, o1, bel, kt⟩
set_option maxHeartbeats 400000 in
theorem moveLongs_any (s : ByteArray) (x : Int) (w : World) (hs : s.size ≤ 140737488351232) (h4 : s.size % 4 = 0) :
    Calls Tryd.prog 43 #[.string s, .int .u32 x] w fun e w' => e = .returned (.string ⟨(lmv x s.data.toList).toArray⟩) ∧ Below w.heap.size w w' := by
  obtain ⟨R, HR⟩ : ∃ R, Hid (lmv x s.data.toList = R) := ⟨_, (rfl : _ = _)⟩
  rw [HR.out]
  go_enter Tryd.func43, Tryd.ntmps43
  go_wp2_with (at_make; refine make_own _ rfl _ _ rfl w.heap.size _ _ _ s.size rfl rfl ?c1 (by omega) (Nat.le_refl _) ?_)
  case c1 => simp
  intro v1 w1 o1 l1
  go_wp2_with fail
  go_loopw [5, 6] (fun v i wr => ∃ (k : Nat) (L : List UInt8), k ≤ s.size ∧ k % 4 = 0 ∧ i = .int .i64 k ∧ Own wr w.heap.size v L ∧ L.length = k ∧ Hid (L ++ lmv x (s.data.toList.drop k) = R) ∧ Below w.heap.size w wr) (fun _ i _ => s.size - (intOf i).toNat)
  case atStart => exact ⟨0, [], Nat.zero_le _, rfl, rfl, o1, rfl, HR.out, l1⟩
  case round =>
    obtain ⟨k, L, hk, k4, rfl, own, zl, E, bel⟩ := hrel
    clear o1 l1 HR
    by_cases hlt : k < s.size
    · have h3 : k + 3 < s.size := by omega
      have hk' : (k : Int) < s.size := by omega
      have st := lmv_step x s k h3
      have b0 := wd_bd s k
      have b1 := wd_bd s (k + 2)
      obtain ⟨y, Y⟩ : ∃ y, y = 65536 * wd s k + wd s (k + 2) := ⟨_, rfl⟩
      have C := fun u => longAt_any s k u (by omega) h3
      rw [← Y] at C st
      have y0 : 0 ≤ y := by omega
      have y1 : y ≤ 4294967295 := by omega
      have E2 : Hid ((L ++ lbl [(y + x) % 4294967296]) ++ lmv x (s.data.toList.drop (k + 4)) = R) := by show _ = _; rw [← E.out, st]; simp [lbl]
      have zB := bel.size
      clear Y b0 b1 st E
      go_wp2_with fail
      refine (C _).mono ?_
      rintro e w2 ⟨rfl, q⟩
      have own2 := qd_own q own
      have bel2 := bel.trans (qd_below q)
      have z2 := bel2.size
      clear own bel q C zB
      go_wp2_with fail
      refine (appendLongs_any _ w.heap.size w2.heap.size 1 1 _ L [(y + x) % 4294967296] rfl (own2.alloc _) (by omega) (by simp; omega) (by intro z hz; simp at hz; omega) (by simp) (Blk.newAt _ _ _ rfl)).mono ?_
      rintro e w3 ⟨v3, rfl, o3, b3, _⟩
      have bel3 := (bel2.alloc z2 _).trans b3
      have l3 : (L ++ lbl [(y + x) % 4294967296]).length = k + 4 := by rw [List.length_append, lbl_len]; simp; omega
      clear own2 bel2 b3
      go_wp2_with fail
      go_roundw
      case rel => exact ⟨k + 4, _, by omega, by omega, by go_num, o3, l3, E2, bel3⟩
      case measure => simp [intOf]; omega
    · have hk' : ¬ (k : Int) < s.size := by omega
      have e1 := E.out
      rw [List.drop_eq_nil_of_le (by rw [size_list]; omega)] at e1
      simp [lmv] at e1
      subst e1
      have hs' := str_own own
      clear own E
      go_wp2_with fail
      go_ret
      exact ⟨rfl, bel⟩
end Go.Proofs.YtpcknkpddinccaaDoor.tcv
