/- What strings.IndexByte answers of the digits, and what eth.Parse answers. -/
import Derived.Test.YtolhmmnaohadcaaDoorEthBase
import Derived.Test.YtolhmmnaohadcaaDoorEthHexMath
import Derived.Test.YtolhmmnaohadcaaDoorBoxes
import Derived.Laws.Externs
import Derived.WalkSmall
namespace Go.Proofs.YtolhmmnaohadcaaDoor.ethp
open Go.ChangeShapes Go.WideShapes Go.ChangeAt Go.RowKit
open Go.Proofs.YtolhmmnaohadcaaDoor.EM Go.Proofs.YtolhmmnaohadcaaDoor.EH Go.Proofs.YtolhmmnaohadcaaDoor.ethb Go.Proofs.YtolhmmnaohadcaaDoor.boxes

theorem index_any (s : ByteArray) (c : Int) (w : World) :
    Calls Tryd.prog 9 #[.string s, .int .u8 c] w fun e w' => e = .returned (.int .i64 (Lib.indexByte s.data.toList c.toNat.toUInt8)) ∧ w' = w := by
  go_enter Tryd.func9, Tryd.ntmps9
  go_wp2
  rw [run_callFunc_extern Tryd.func17 (by kernel_rfl) (by kernel_rfl) (by kernel_rfl) (e := Extern.BytealgIndexByte.indexByte) (by kernel_rfl), Lib.run_indexByteString]
  simp only [Result.andThen]
  rw [Oper.upon_value]
  go_wp2
  go_ret
  exact ⟨rfl, rfl⟩
theorem digit_any (s : ByteArray) (j : Nat) (w : World) :
    Calls Tryd.prog 9 #[.string dgs, .int .u8 (bt s j)] w fun e w' => e = .returned (.int .i64 (dx (by8 s j))) ∧ w' = w := by
  have h := index_any dgs (bt s j) w
  have e : (bt s j).toNat.toUInt8 = by8 s j := by rw [bt_by]; simp
  rw [e] at h
  exact h
theorem parse_long (s : ByteArray) (w : World) (h : ((s.size : Int) == 17) = false) :
    Calls Tryd.prog 4 #[.string s] w fun e w' => e = .returned (.tuple #[.agg #[.int .u8 0, .int .u8 0, .int .u8 0, .int .u8 0, .int .u8 0, .int .u8 0], .int .i64 10]) ∧ Below w.heap.size w w' := by
  go_enter Tryd.func4, Tryd.ntmps4
  go_wp2_with fail
  exact bodyPost_ret (v := .tuple #[.agg #[.int .u8 0, .int .u8 0, .int .u8 0, .int .u8 0, .int .u8 0, .int .u8 0], .int .i64 10]) (by simp [results, Tryd.results4, go_sem]) rfl ⟨rfl, (Below.refl _ _).alloc (Nat.le_refl _) _⟩
/-- the address' cells, as far as k of them are parsed -/
def pa (s : ByteArray) (k : Nat) : Array Value := ((List.range 6).map fun j => Value.int .u8 (if j < k then vD s j else 0)).toArray
theorem pa_step (s : ByteArray) (k : Nat) (h : k < 6) : (pa s k).setIfInBounds k (.int .u8 (vD s k)) = pa s (k + 1) := by
  have hk : k = 0 ∨ k = 1 ∨ k = 2 ∨ k = 3 ∨ k = 4 ∨ k = 5 := by omega
  rcases hk with rfl | rfl | rfl | rfl | rfl | rfl <;> simp [pa, List.range_succ]
theorem mac_info : (Tryd.prog.info? 23).map (·.size) = some 6 := by kernel_rfl
theorem pa_one (s : ByteArray) (k : Nat) : (pa s k).all (·.oneCell') = true := by simp [pa, Value.oneCell', List.range_succ]
theorem pa_size (s : ByteArray) (k : Nat) : (pa s k).size = 6 := by simp [pa]
theorem pa_zero (s : ByteArray) : pa s 0 = #[.int .u8 0, .int .u8 0, .int .u8 0, .int .u8 0, .int .u8 0, .int .u8 0] := by simp [pa, List.range_succ]
theorem zero_one : (#[.int .u8 0, .int .u8 0, .int .u8 0, .int .u8 0, .int .u8 0, .int .u8 0] : Array Value).all (·.oneCell') = true := by simp [Value.oneCell']
set_option maxHeartbeats 1000000 in
theorem parse_17 (s : ByteArray) (w : World) (h : ((s.size : Int) == 17) = true) :
    Calls Tryd.prog 4 #[.string s] w fun e w' =>
      (aok s ∧ e = .returned (.tuple #[.agg (pa s 6), .int .i64 0]) ∨ ¬ aok s ∧ e = .returned (.tuple #[.agg (pa s 0), .int .i64 10])) ∧ Below w.heap.size w w' := by
  have hsz : s.size = 17 := by simp at h; omega
  have HS : Hid (s.size = 17) := hsz
  clear hsz
  go_enter Tryd.func4, Tryd.ntmps4
  go_wp2_with fail
  go_loopw [13] (fun i wr => ∃ k : Nat, k ≤ 6 ∧ i = .int .i64 k ∧ Blk wr w.heap.size (pa s 0) 23 ∧ Blk wr (w.heap.size + 1) (pa s k) 23 ∧ Below w.heap.size w wr ∧ ∀ j, j < k → okD s j) (fun i _ => 6 - (intOf i).toNat)
  case atStart =>
    refine ⟨0, by omega, rfl, ?_, ?_, ?_, fun j hj => by omega⟩
    · rw [pa_zero]; exact (Blk.new _ _ _).alloc _
    · rw [pa_zero]; exact Blk.newAt _ _ _ (by simp)
    · exact ((Below.refl _ _).alloc (Nat.le_refl _) _).alloc (by simp) _
  case round =>
    obtain ⟨k, hk, rfl, Z, M, bel, ok⟩ := hrel
    have hS := HS.out
    by_cases hlt : k < 6
    · have x0 : ∀ u, (Instr.index 9 (.string s) (.int .i64 (3 * (k : Int)))).run Tryd.prog u = .ok (.int .u8 (bt s (3 * k))) u := fun u => by
        rw [run_index_string u 9 s .i64 _ Tryd.underlying9, dif_pos ⟨by omega, by omega⟩]
        have e : (3 * (k : Int)).toNat = 3 * k := by omega
        simp only [e, bt_at s (3 * k) (by omega)]
      have x1 : ∀ u, (Instr.index 9 (.string s) (.int .i64 (3 * (k : Int) + 1))).run Tryd.prog u = .ok (.int .u8 (bt s (3 * k + 1))) u := fun u => by
        rw [run_index_string u 9 s .i64 _ Tryd.underlying9, dif_pos ⟨by omega, by omega⟩]
        have e : (3 * (k : Int) + 1).toNat = 3 * k + 1 := by omega
        simp only [e, bt_at s (3 * k + 1) (by omega)]
      have x2 : 0 < k → ∀ u, (Instr.index 9 (.string s) (.int .i64 (3 * (k : Int) - 1))).run Tryd.prog u = .ok (.int .u8 (bt s (3 * k - 1))) u := fun hp u => by
        rw [run_index_string u 9 s .i64 _ Tryd.underlying9, dif_pos ⟨by omega, by omega⟩]
        have e : (3 * (k : Int) - 1).toNat = 3 * k - 1 := by omega
        simp only [e, bt_at s (3 * k - 1) (by omega)]
      have hwr : IntKind.i64.wrap (3 * (k : Int) + 1) = 3 * (k : Int) + 1 := by rw [IntKind.wrap_i64]; omega
      clear hS
      by_cases hc : 0 < k ∧ ¬ bt s (3 * k - 1) = 58
      · have y2 := x2 hc.1
        have hk0 : (0 : Int) < k := by omega
        have hne : (bt s (3 * k - 1) == 58) = false := by simpa using hc.2
        have HC : Hid (0 < k ∧ ¬ bt s (3 * k - 1) = 58) := hc
        clear x2 hc x0 x1 ok
        go_wp2_with (first | (refine blk_load _ rfl 23 _ rfl _ rfl _ _ (by assumption) _ Tryd.underlying23 rfl 6 mac_info (by exact pa_size _ _) ?_) | (refine blk_store _ rfl 23 _ _ rfl _ _ rfl rfl _ _ (by assumption) 6 mac_info (by exact pa_size _ _) (by first | exact pa_size _ _ | rfl) (by first | exact zero_one | exact pa_one _ _) ?_; intro W2 k2 p2))
        refine blk_ret2 rfl rfl _ _ _ rfl k2 _ Tryd.underlying23 rfl 6 mac_info rfl ⟨.inr ⟨fun g => HC.out.2 ((g k hlt).1 HC.out.1), by rw [pa_zero]; rfl⟩, p2.below bel (Nat.le_refl _)⟩
      · have a0 := dx_bd (by8 s (3 * k))
        have b0 := dx_bd (by8 s (3 * k + 1))
        have D0 := fun u => digit_any s (3 * k) u
        have D1 := fun u => digit_any s (3 * k + 1) u
        obtain ⟨a, ha⟩ : ∃ a, a = dx (by8 s (3 * k)) := ⟨_, rfl⟩
        obtain ⟨b, hb⟩ : ∃ b, b = dx (by8 s (3 * k + 1)) := ⟨_, rfl⟩
        rw [← ha] at a0 D0
        rw [← hb] at b0 D1
        have HA : Hid (a = dx (by8 s (3 * k))) := ha
        have HB : Hid (b = dx (by8 s (3 * k + 1))) := hb
        have HC : Hid (0 < k → bt s (3 * k - 1) = 58) := fun hp => Decidable.byContradiction fun hn => hc ⟨hp, hn⟩
        have HD0 : Hid (∀ u, Calls Tryd.prog 9 #[.string dgs, .int .u8 (bt s (3 * k))] u fun e w' => e = .returned (.int .i64 a) ∧ w' = u) := D0
        have HD1 : Hid (∀ u, Calls Tryd.prog 9 #[.string dgs, .int .u8 (bt s (3 * k + 1))] u fun e w' => e = .returned (.int .i64 b) ∧ w' = u) := D1
        clear ha hb D0 D1 hc
        have mc : wr.cell? ⟨w.heap.size + 1, k, none⟩ = some (.int .u8 0) := by
          rw [M.cell]; simp [pa, hlt]
        have mf := M.free k
        have Zd := fun n => Z.drewN n
        have Md := fun n => M.drewN n
        obtain hp | hp : k = 0 ∨ 0 < k := by omega
        · have hk0 : ¬ (0 : Int) < k := by omega
          clear x2 hp
          go_wp2_with fail
          go_quiet ((first | (go_at_call 9; exact Calls.quiet_of_same (HD0.out _)) | (go_at_call 9; exact Calls.quiet_of_same (HD1.out _))))
          clear HD0 HD1 x0 x1
          by_cases ha : a < 0
          · have nope : Hid (¬ aok s) := fun g => by have := (g k hlt).2.1; rw [← HA.out] at this; omega
            go_wp2_with (first | (refine blk_load _ rfl 23 _ rfl _ rfl _ _ (by first | assumption | exact Md _) _ Tryd.underlying23 rfl 6 mac_info (by exact pa_size _ _) ?_) | (refine blk_store _ rfl 23 _ _ rfl _ _ rfl rfl _ _ (by first | assumption | exact Zd _) 6 mac_info (by exact pa_size _ _) (by first | exact pa_size _ _ | rfl) (by first | exact zero_one | exact pa_one _ _) ?_; intro W2 k2 p2))
            refine blk_ret2 rfl rfl _ _ _ rfl k2 _ Tryd.underlying23 rfl 6 mac_info rfl ⟨.inr ⟨nope.out, by rw [pa_zero]; rfl⟩, p2.below (below_drewN bel _) (Nat.le_refl _)⟩
          by_cases hb : b < 0
          · have nope : Hid (¬ aok s) := fun g => by have := (g k hlt).2.2; rw [← HB.out] at this; omega
            go_wp2_with (first | (refine blk_load _ rfl 23 _ rfl _ rfl _ _ (by first | assumption | exact Md _) _ Tryd.underlying23 rfl 6 mac_info (by exact pa_size _ _) ?_) | (refine blk_store _ rfl 23 _ _ rfl _ _ rfl rfl _ _ (by first | assumption | exact Zd _) 6 mac_info (by exact pa_size _ _) (by first | exact pa_size _ _ | rfl) (by first | exact zero_one | exact pa_one _ _) ?_; intro W2 k2 p2))
            refine blk_ret2 rfl rfl _ _ _ rfl k2 _ Tryd.underlying23 rfl 6 mac_info rfl ⟨.inr ⟨nope.out, by rw [pa_zero]; rfl⟩, p2.below (below_drewN bel _) (Nat.le_refl _)⟩
          have okk : okD s k := ⟨HC.out, by rw [← HA.out]; omega, by rw [← HB.out]; omega⟩
          obtain ⟨c, hcv⟩ : ∃ c, c = vD s k := ⟨_, rfl⟩
          have E : bits .or .i64 (a * 16) b = c := by rw [or_hex a b (by omega) (by omega) (by omega) (by omega), hcv, vD, ← HA.out, ← HB.out]
          have cb := vD_bd s k okk
          rw [← hcv] at cb
          have HCV : Hid (c = vD s k) := hcv
          have OK : Hid (okD s k) := okk
          clear okk hcv
          go_wp2_with fail
          go_roundw
          case rel =>
            refine ⟨_, _, _, _, _, .int .i64 ((k : Int) + 1), ⟨k + 1, by omega, by go_num, ?_, ?_, ?_, ?_⟩, rfl, rfl, rfl, rfl, rfl, rfl⟩
            · exact (but_setCell _ _ _ _).blk (Z.drewN _) (by omega)
            · have q := (M.drewN nq).setCell k (.int .u8 c)
              rw [HCV.out, pa_step s k hlt] at q
              rw [HCV.out]; exact q
            · exact (but_setCell _ _ _ _).below (below_drewN bel _) (by omega)
            · intro j hj
              by_cases e : j = k
              · rw [e]; exact OK.out
              · exact ok j (by omega)
          case measure => simp [intOf]; omega
        · have y2 := x2 hp
          have hk0 : (0 : Int) < k := by omega
          have hne : (bt s (3 * k - 1) == 58) = true := by simpa using HC.out hp
          clear x2
          go_wp2_with fail
          go_quiet ((first | (go_at_call 9; exact Calls.quiet_of_same (HD0.out _)) | (go_at_call 9; exact Calls.quiet_of_same (HD1.out _))))
          clear HD0 HD1 x0 x1
          by_cases ha : a < 0
          · have nope : Hid (¬ aok s) := fun g => by have := (g k hlt).2.1; rw [← HA.out] at this; omega
            go_wp2_with (first | (refine blk_load _ rfl 23 _ rfl _ rfl _ _ (by first | assumption | exact Md _) _ Tryd.underlying23 rfl 6 mac_info (by exact pa_size _ _) ?_) | (refine blk_store _ rfl 23 _ _ rfl _ _ rfl rfl _ _ (by first | assumption | exact Zd _) 6 mac_info (by exact pa_size _ _) (by first | exact pa_size _ _ | rfl) (by first | exact zero_one | exact pa_one _ _) ?_; intro W2 k2 p2))
            refine blk_ret2 rfl rfl _ _ _ rfl k2 _ Tryd.underlying23 rfl 6 mac_info rfl ⟨.inr ⟨nope.out, by rw [pa_zero]; rfl⟩, p2.below (below_drewN bel _) (Nat.le_refl _)⟩
          by_cases hb : b < 0
          · have nope : Hid (¬ aok s) := fun g => by have := (g k hlt).2.2; rw [← HB.out] at this; omega
            go_wp2_with (first | (refine blk_load _ rfl 23 _ rfl _ rfl _ _ (by first | assumption | exact Md _) _ Tryd.underlying23 rfl 6 mac_info (by exact pa_size _ _) ?_) | (refine blk_store _ rfl 23 _ _ rfl _ _ rfl rfl _ _ (by first | assumption | exact Zd _) 6 mac_info (by exact pa_size _ _) (by first | exact pa_size _ _ | rfl) (by first | exact zero_one | exact pa_one _ _) ?_; intro W2 k2 p2))
            refine blk_ret2 rfl rfl _ _ _ rfl k2 _ Tryd.underlying23 rfl 6 mac_info rfl ⟨.inr ⟨nope.out, by rw [pa_zero]; rfl⟩, p2.below (below_drewN bel _) (Nat.le_refl _)⟩
          have okk : okD s k := ⟨HC.out, by rw [← HA.out]; omega, by rw [← HB.out]; omega⟩
          obtain ⟨c, hcv⟩ : ∃ c, c = vD s k := ⟨_, rfl⟩
          have E : bits .or .i64 (a * 16) b = c := by rw [or_hex a b (by omega) (by omega) (by omega) (by omega), hcv, vD, ← HA.out, ← HB.out]
          have cb := vD_bd s k okk
          rw [← hcv] at cb
          have HCV : Hid (c = vD s k) := hcv
          have OK : Hid (okD s k) := okk
          clear okk hcv
          go_wp2_with fail
          go_roundw
          case rel =>
            refine ⟨k + 1, by omega, by go_num, ?_, ?_, ?_, ?_⟩
            · exact (but_setCell _ _ _ _).blk (Z.drewN _) (by omega)
            · have q := (M.drewN nq).setCell k (.int .u8 c)
              rw [HCV.out, pa_step s k hlt] at q
              rw [HCV.out]; exact q
            · exact (but_setCell _ _ _ _).below (below_drewN bel _) (by omega)
            · intro j hj
              by_cases e : j = k
              · rw [e]; exact OK.out
              · exact ok j (by omega)
          case measure => simp [intOf]; omega
    · have e : k = 6 := by omega
      have Zd := fun n => Z.drewN n
      have Md := fun n => M.drewN n
      have HO : Hid (aok s) := fun j hj => ok j (by omega)
      clear ok hS
      rw [e] at M Md
      go_wp2_with (first | (refine blk_load _ rfl 23 _ rfl _ rfl _ _ (by first | assumption | exact Md _) _ Tryd.underlying23 rfl 6 mac_info (by exact pa_size _ _) ?_) | (refine blk_store _ rfl 23 _ _ rfl _ _ rfl rfl _ _ (by first | assumption | exact Zd _) 6 mac_info (by exact pa_size _ _) (by first | exact pa_size _ _ | rfl) (by first | exact zero_one | exact pa_one _ _) ?_; intro W2 k2 p2))
      refine blk_ret2 rfl rfl _ _ _ rfl k2 _ Tryd.underlying23 rfl 6 mac_info (pa_size _ _) ⟨.inl ⟨HO.out, rfl⟩, p2.below bel (Nat.le_refl _)⟩
end Go.Proofs.YtolhmmnaohadcaaDoor.ethp
