/- What eth.Show answers, and that it changes nothing that was there. -/
import Derived.Test.YtolhmmnaohadcaaDoorEthBase
import Derived.Test.YtolhmmnaohadcaaDoorEthHexMath
import Derived.Test.YtolhmmnaohadcaaDoorBoxes
import Derived.Test.YtolhmmnaohadcaaDoorBufMore
namespace Go.Proofs.YtolhmmnaohadcaaDoor.eths
open Go.ChangeShapes Go.WideShapes Go.ChangeAt Go.RowKit
open Go.Proofs.YtolhmmnaohadcaaDoor.EM Go.Proofs.YtolhmmnaohadcaaDoor.EH Go.Proofs.YtolhmmnaohadcaaDoor.ethb Go.Proofs.YtolhmmnaohadcaaDoor.boxes Go.Proofs.YtolhmmnaohadcaaDoor.buf

theorem digit_at (n : Nat) (h : n < 16) (u : World) : (Instr.index 9 (.string dgs) (.int .u8 (n : Int))).run Tryd.prog u = .ok (.int .u8 ((dig n).toNat : Int)) u := by
  rw [run_index_string u 9 dgs .u8 _ Tryd.underlying9, dif_pos ⟨by omega, by show (n : Int) < (16 : Nat); omega⟩]
  have e := bt_at dgs n (by show n < 16; omega)
  simp only [Int.toNat_natCast, e]
  rfl
theorem hi_at (m : UInt8) (u : World) : (Instr.index 9 (.string dgs) (.int .u8 ((m.toNat : Int) / 16))).run Tryd.prog u = .ok (.int .u8 ((dig (m.toNat / 16)).toNat : Int)) u := by
  have := m.toNat_lt
  exact digit_at (m.toNat / 16) (by omega) u
theorem lo_at (m : UInt8) (u : World) : (Instr.index 9 (.string dgs) (.int .u8 ((m.toNat : Int) % 16))).run Tryd.prog u = .ok (.int .u8 ((dig (m.toNat % 16)).toNat : Int)) u := by
  have := m.toNat_lt
  exact digit_at (m.toNat % 16) (by omega) u
theorem src2 {W : World} {b : Nat} {t : TypeId} (x0 x1 : UInt8) (h : Blk W b #[.int .u8 (x0.toNat : Int), .int .u8 (x1.toNat : Int)] t) :
    ∀ j, j < [x0, x1].length → W.cell? ((⟨b, 0, none⟩ : Addr).add j) = some (.int .u8 (([x0, x1].getD j 0).toNat : Int)) := by
  intro j hj
  have ea : (⟨b, 0, none⟩ : Addr).add j = ⟨b, j, none⟩ := by unfold Addr.add; split <;> simp_all
  rw [ea, h.cell]
  match j, hj with
  | 0, _ | 1, _ => simp
theorem src1 {W : World} {b : Nat} {t : TypeId} (x0 : UInt8) (h : Blk W b #[.int .u8 (x0.toNat : Int)] t) :
    ∀ j, j < [x0].length → W.cell? ((⟨b, 0, none⟩ : Addr).add j) = some (.int .u8 (([x0].getD j 0).toNat : Int)) := by
  intro j hj
  have ea : (⟨b, 0, none⟩ : Addr).add j = ⟨b, j, none⟩ := by unfold Addr.add; split <;> simp_all
  rw [ea, h.cell]
  match j, hj with
  | 0, _ => simp
/-- the first k bytes of an address, as they are shown -/
def shk (l : List UInt8) : Nat → List UInt8
  | 0 => []
  | k + 1 => shk l k ++ ((if k = 0 then [] else [58]) ++ two (l.getD k 0))
theorem shk_len (l : List UInt8) (k : Nat) (h : k ≤ 6) : (shk l k).length ≤ 18 := by
  have hk : k = 0 ∨ k = 1 ∨ k = 2 ∨ k = 3 ∨ k = 4 ∨ k = 5 ∨ k = 6 := by omega
  rcases hk with rfl | rfl | rfl | rfl | rfl | rfl | rfl <;> simp [shk, two]
theorem shk_six (m0 m1 m2 m3 m4 m5 : UInt8) : shk [m0, m1, m2, m3, m4, m5] 6 = shl m0 m1 m2 m3 m4 m5 := by simp [shk, shl, two]
set_option maxHeartbeats 1000000 in
theorem show_any (m0 m1 m2 m3 m4 m5 : UInt8) (w : World) :
    Calls Tryd.prog 7 #[.agg #[.int .u8 (m0.toNat : Int), .int .u8 (m1.toNat : Int), .int .u8 (m2.toNat : Int), .int .u8 (m3.toNat : Int), .int .u8 (m4.toNat : Int), .int .u8 (m5.toNat : Int)]] w fun e w' =>
      e = .returned (.string ⟨(shl m0 m1 m2 m3 m4 m5).toArray⟩) ∧ Below w.heap.size w w' := by
  have i0 : ∀ u, (Instr.index 23 (.agg #[.int .u8 (m0.toNat : Int), .int .u8 (m1.toNat : Int), .int .u8 (m2.toNat : Int), .int .u8 (m3.toNat : Int), .int .u8 (m4.toNat : Int), .int .u8 (m5.toNat : Int)]) (.int .i64 0)).run Tryd.prog u = .ok (.int .u8 (m0.toNat : Int)) u := fun _ => by kernel_rfl
  have i1 : ∀ u, (Instr.index 23 (.agg #[.int .u8 (m0.toNat : Int), .int .u8 (m1.toNat : Int), .int .u8 (m2.toNat : Int), .int .u8 (m3.toNat : Int), .int .u8 (m4.toNat : Int), .int .u8 (m5.toNat : Int)]) (.int .i64 1)).run Tryd.prog u = .ok (.int .u8 (m1.toNat : Int)) u := fun _ => by kernel_rfl
  have i2 : ∀ u, (Instr.index 23 (.agg #[.int .u8 (m0.toNat : Int), .int .u8 (m1.toNat : Int), .int .u8 (m2.toNat : Int), .int .u8 (m3.toNat : Int), .int .u8 (m4.toNat : Int), .int .u8 (m5.toNat : Int)]) (.int .i64 2)).run Tryd.prog u = .ok (.int .u8 (m2.toNat : Int)) u := fun _ => by kernel_rfl
  have i3 : ∀ u, (Instr.index 23 (.agg #[.int .u8 (m0.toNat : Int), .int .u8 (m1.toNat : Int), .int .u8 (m2.toNat : Int), .int .u8 (m3.toNat : Int), .int .u8 (m4.toNat : Int), .int .u8 (m5.toNat : Int)]) (.int .i64 3)).run Tryd.prog u = .ok (.int .u8 (m3.toNat : Int)) u := fun _ => by kernel_rfl
  have i4 : ∀ u, (Instr.index 23 (.agg #[.int .u8 (m0.toNat : Int), .int .u8 (m1.toNat : Int), .int .u8 (m2.toNat : Int), .int .u8 (m3.toNat : Int), .int .u8 (m4.toNat : Int), .int .u8 (m5.toNat : Int)]) (.int .i64 4)).run Tryd.prog u = .ok (.int .u8 (m4.toNat : Int)) u := fun _ => by kernel_rfl
  have i5 : ∀ u, (Instr.index 23 (.agg #[.int .u8 (m0.toNat : Int), .int .u8 (m1.toNat : Int), .int .u8 (m2.toNat : Int), .int .u8 (m3.toNat : Int), .int .u8 (m4.toNat : Int), .int .u8 (m5.toNat : Int)]) (.int .i64 5)).run Tryd.prog u = .ok (.int .u8 (m5.toNat : Int)) u := fun _ => by kernel_rfl
  have ix : ∀ (k : Nat), k < 6 → ∀ u, (Instr.index 23 (.agg #[.int .u8 (m0.toNat : Int), .int .u8 (m1.toNat : Int), .int .u8 (m2.toNat : Int), .int .u8 (m3.toNat : Int), .int .u8 (m4.toNat : Int), .int .u8 (m5.toNat : Int)]) (.int .i64 (k : Int))).run Tryd.prog u = .ok (.int .u8 (([m0, m1, m2, m3, m4, m5].getD k 0).toNat : Int)) u := by
    intro k hk u
    have hk6 : k = 0 ∨ k = 1 ∨ k = 2 ∨ k = 3 ∨ k = 4 ∨ k = 5 := by omega
    rcases hk6 with rfl | rfl | rfl | rfl | rfl | rfl
    · exact i0 u
    · exact i1 u
    · exact i2 u
    · exact i3 u
    · exact i4 u
    · exact i5 u
  clear i0 i1 i2 i3 i4 i5
  go_enter Tryd.func7, Tryd.ntmps7
  go_wp2_with (at_make; refine make_own _ rfl _ _ rfl (w.heap.size + 1) _ _ _ 17 rfl rfl (by rfl) (by omega) (by simp) ?_)
  intro b0 w0 o0 l0
  have F0 := (Blk.new _ _ _).below l0 (by simp)
  have c0 := F0.cell
  have L0 := ((Below.refl w.heap.size w).alloc (Nat.le_refl _) _).trans (l0.mono (by omega))
  have z0 := l0.size
  simp at z0
  clear l0
  go_wp2_with fail
  clear F0 c0
  obtain ⟨l, hl⟩ : ∃ l, l = [m0, m1, m2, m3, m4, m5] := ⟨_, rfl⟩
  rw [← hl] at ix
  have HL : Hid (l = [m0, m1, m2, m3, m4, m5]) := hl
  clear hl
  go_loopw [3, 8] (fun b i wr => ∃ k : Nat, k ≤ 6 ∧ i = .int .i64 k ∧ Own wr (w.heap.size + 1) b (shk l k) ∧ Below w.heap.size w wr ∧ w.heap.size + 1 ≤ wr.heap.size) (fun _ i _ => 6 - (intOf i).toNat)
  case atStart => exact ⟨0, by omega, rfl, o0, L0, z0⟩
  case round =>
    obtain ⟨k, hk, rfl, own, bel, z⟩ := hrel
    clear o0 L0 z0
    by_cases hlt : k < 6
    · have iy := ix k hlt
      obtain ⟨m, hm⟩ : ∃ m, m = l.getD k 0 := ⟨_, rfl⟩
      rw [← hm] at iy
      have HK : Hid (shk l (k + 1) = shk l k ++ ((if k = 0 then [] else [58]) ++ two m)) := by show _ = _; rw [hm]; rfl
      have hlen := shk_len l k hk
      clear ix hm
      have x0 := hi_at m
      have x1 := lo_at m
      have x2 := and_hex m
      have x3 : (m.toNat : Int) ≤ 255 := by have := m.toNat_lt; omega
      obtain ⟨g, hg⟩ : ∃ g, g = shk l k := ⟨_, rfl⟩
      rw [← hg] at own hlen HK
      clear hg
      by_cases h0 : k = 0
      · have hk0 : ¬ (0 : Int) < k := by omega
        have H0 : Hid (shk l (k + 1) = g ++ two m) := by show _ = _; rw [HK.out, if_pos h0]; rfl
        clear h0 HK
        go_wp2_with fail
        go_region_law (refine step_app rfl (.tmp 17) (.tmp 24) rfl (w.heap.size + 1) u3 g (by simp [Act.eval]) (Own.drew (own.alloc _)) ⟨wr.heap.size, 0, none⟩ 2 2 (two m) (by simp [Act.eval]) rfl (src2 _ _ (Blk.drew (Blk.new _ _ _))) (by omega) (by simp; omega) ?_; intro b1 w1 o1 l1)
        all_goals
          have L1 := (Below.drew (bel.alloc (by omega) _)).trans (l1.mono (by omega))
          have z1 := l1.size
          simp at z1
          clear l1
          go_wp2_with fail
          go_roundw
          case rel => exact ⟨k + 1, by omega, by go_num, by rw [H0.out]; exact o1, L1, by omega⟩
          case measure => simp [intOf]; omega
      · have hk0 : (0 : Int) < k := by omega
        have H0 : Hid (shk l (k + 1) = g ++ [58] ++ two m) := by show _ = _; rw [HK.out, if_neg h0, List.append_assoc]
        clear h0 HK
        go_wp2_with (at_builtin; refine app_own _ rfl _ _ rfl (w.heap.size + 1) _ g rfl (own.alloc _) ⟨wr.heap.size, 0, none⟩ 1 1 [58] rfl rfl (src1 58 (Blk.new _ _ _)) (by omega) (by simp; omega) ?_)
        intro b1 w1 o1 l1
        have L1 := (bel.alloc (by omega) _).trans (l1.mono (by omega))
        have z1 := l1.size
        simp at z1
        have hlen1 : (g ++ [58]).length ≤ 19 := by simp; omega
        clear l1 own bel
        go_wp2_with fail
        go_region_law (refine step_app rfl (.tmp 17) (.tmp 24) rfl (w.heap.size + 1) b1 (g ++ [58]) (by simp [Act.eval]) (Own.drew (o1.alloc _)) ⟨w1.heap.size, 0, none⟩ 2 2 (two m) (by simp [Act.eval]) rfl (src2 _ _ (Blk.drew (Blk.new _ _ _))) (by omega) (by simp; omega) ?_; intro b2 w2 o2 l2)
        all_goals
          have L2 := (Below.drew (L1.alloc (by omega) _)).trans (l2.mono (by omega))
          have z2 := l2.size
          simp at z2
          clear l2
          go_wp2_with fail
          go_roundw
          case rel => exact ⟨k + 1, by omega, by go_num, by rw [H0.out]; exact o2, L2, by omega⟩
          case measure => simp [intOf]; omega
    · have e : k = 6 := by omega
      rw [e] at own
      have hs := str_own own
      have HT : Hid (shk l 6 = shl m0 m1 m2 m3 m4 m5) := by show _ = _; rw [HL.out]; exact shk_six _ _ _ _ _ _
      clear own ix e
      go_wp2_with fail
      go_ret
      exact ⟨by rw [HT.out]; rfl, bel⟩
end Go.Proofs.YtolhmmnaohadcaaDoor.eths
