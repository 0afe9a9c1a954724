/- A text that is read, with so much behind it that it is too large: the rest of custkeep.EthRest. -/
import Derived.Test.YtolhmmnaohadcaaEthRestIn
namespace Go.Proofs.Ytolhmmnaohadcaa.ethrest
open Go.ChangeShapes Go.WideShapes Go.ChangeAt Go.RowKit
open Go.Proofs.Ytolhmmnaohadcaa.EM Go.Proofs.Ytolhmmnaohadcaa.ethb Go.Proofs.Ytolhmmnaohadcaa.ethr Go.Proofs.Ytolhmmnaohadcaa.ethl Go.Proofs.Ytolhmmnaohadcaa.ethc

set_option maxHeartbeats 2000000 in
theorem restL (s m : ByteArray) (w : World) (hs : s.size ≤ 140737488351232) (hm : m.size ≤ 140737488351232) (k : Nat) (v y : Int) (h0 : rde s = 0) (h : Head s k v y) (hl : 65535 + k < s.size + m.size) :
    Calls Try.prog 5 #[.string s, .string m] w fun e w' => e = .returned (.bool true) ∧ Below w.heap.size w w' := by
  obtain ⟨D, hD⟩ : ∃ D, D = s.extract k s.size := ⟨_, rfl⟩
  have e0 : D.size = s.size - k := by rw [hD, end_size]
  have hk := h.fits
  have hk0 := h.lo
  have R1 : ∀ u, Hid (Calls Try.prog 8 #[.string s] u fun e w' => e = .returned (.tuple #[.agg (framed s v y D), .int .i64 0]) ∧ Below u.heap.size u w') := fun u => by
    have := read_any s u (by omega)
    rw [h0, h.self, ← hD] at this; exact this
  have R2 : ∀ u, Hid (Calls Try.prog 8 #[.string (s ++ m)] u fun e w' => e = .returned (.tuple #[.agg (zeroF), .int .i64 2]) ∧ Below u.heap.size u w') := fun u => by
    have := read_any (s ++ m) u (by rw [ByteArray.size_append]; omega)
    have q : rde (s ++ m) = 2 := by rw [h.more m, if_pos hl]
    have q' : rdf (s ++ m) = zeroF := by unfold rdf; rw [if_neg (by rw [q]; decide)]
    rw [q, q'] at this; exact this
  have R3 : ∀ n u, n = k → Hid (Calls Try.prog 8 #[.string (s.extract 0 n)] u fun e w' => e = .returned (.tuple #[.agg (framed s v y ⟨#[]⟩), .int .i64 0]) ∧ Below u.heap.size u w') := fun n u e => by
    rw [e]
    have := read_any (s.extract 0 k) u (by rw [cut_size s k hk]; omega)
    rw [h.cut, h.cutF] at this; exact this
  have R4 : ∀ n u, n = k - 1 → Hid (Calls Try.prog 8 #[.string (s.extract 0 n)] u fun e w' => e = .returned (.tuple #[.agg zeroF, .int .i64 3]) ∧ Below u.heap.size u w') := fun n u e => by
    rw [e]
    have := read_any (s.extract 0 (k - 1)) u (by rw [cut_size s (k - 1) (by omega)]; omega)
    have q : rdf (s.extract 0 (k - 1)) = zeroF := by unfold rdf; rw [if_neg (by rw [h.cut1]; decide)]
    rw [h.cut1, q] at this; exact this
  have z0 : D.size + 14 ≤ s.size := by omega
  have z1 : 65535 < D.size + m.size := by omega
  have Z1 : ∀ u, (Op.equalIn 9999 23 (.agg #[.int .u8 (bt s 0), .int .u8 (bt s 1), .int .u8 (bt s 2), .int .u8 (bt s 3), .int .u8 (bt s 4), .int .u8 (bt s 5)]) (.agg #[.int .u8 (bt s 0), .int .u8 (bt s 1), .int .u8 (bt s 2), .int .u8 (bt s 3), .int .u8 (bt s 4), .int .u8 (bt s 5)])).run Try.prog u = .ok true u := fun u => mac_eq _ _ _ _ _ _ (bt_wf s 0) (bt_wf s 1) (bt_wf s 2) (bt_wf s 3) (bt_wf s 4) (bt_wf s 5) 9997 u
  have Z2 : ∀ u, (Op.equalIn 9999 23 (.agg #[.int .u8 (bt s 6), .int .u8 (bt s 7), .int .u8 (bt s 8), .int .u8 (bt s 9), .int .u8 (bt s 10), .int .u8 (bt s 11)]) (.agg #[.int .u8 (bt s 6), .int .u8 (bt s 7), .int .u8 (bt s 8), .int .u8 (bt s 9), .int .u8 (bt s 10), .int .u8 (bt s 11)])).run Try.prog u = .ok true u := fun u => mac_eq _ _ _ _ _ _ (bt_wf s 6) (bt_wf s 7) (bt_wf s 8) (bt_wf s 9) (bt_wf s 10) (bt_wf s 11) 9997 u
  have E0 : Hid (D.size + k = s.size) := by show _ = _; omega
  clear h h0 hD e0 hk hk0 hl
  go_enter Try.func5, Try.ntmps5
  go_wp2_with fail
  refine (R1 _).out.mono ?_
  rintro e w1 ⟨rfl, hb1⟩
  clear R1
  go_wp2_with fail
  refine (lives _).mono ?_
  rintro e w2 ⟨rfl, hb2⟩
  have F2 := (Box.new _ _ _).below hb2
  go_wp2_with fail
  refine (R2 _).out.mono ?_
  rintro e w3 ⟨rfl, hb3⟩
  clear R2
  have F3 := F2.below hb3
  have l3 := F3.lt
  have c3 := F3.cell
  go_wp2_with fail
  refine (R3 _ _ (by have := E0.out; omega)).out.mono ?_
  rintro e w4 ⟨rfl, hb4⟩
  clear R3 l3 c3
  have F4 := (F3.alloc _).below hb4
  have G4 := (Box.new _ _ _).below hb4
  have l4 := F4.lt
  have c4 := F4.cell
  go_wp2_with fail
  refine (R4 _ _ (by have := E0.out; omega)).out.mono ?_
  rintro e w5 ⟨rfl, hb5⟩
  clear R4 l4 c4
  have F5 := (F4.alloc _).below hb5
  have G5 := (G4.alloc _).below hb5
  have X5 := (Box.new _ _ _).below hb5
  have lf := F5.lt
  have cf := F5.cell
  have ff := F5.free
  have lg := G5.lt
  have cg := G5.cell
  have lx := X5.lt
  have cx := X5.cell
  have y1 := hb1.size
  have y2 := hb2.size
  have y3 := hb3.size
  have y4 := hb4.size
  have y5 := hb5.size
  simp at y2 y4 y5
  go_wp2_with fail
  go_ret
  refine ⟨rfl, ?_⟩
  have b2 := (hb1.alloc (by omega) _).trans (hb2.mono (by simp; omega))
  have b3 := b2.trans (hb3.mono (by omega))
  have b4 := (b3.alloc (by omega) _).trans (hb4.mono (by simp; omega))
  have b5 := (b4.alloc (by omega) _).trans (hb5.mono (by simp; omega))
  first
    | exact (b5.setCell (by simp; omega) _).alloc (by simp; omega) _
    | exact (b5.alloc (by omega) _).setCell (by simp; omega) _
end Go.Proofs.Ytolhmmnaohadcaa.ethrest
