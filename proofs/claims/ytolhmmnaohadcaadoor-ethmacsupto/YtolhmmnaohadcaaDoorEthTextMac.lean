/- What custref.TextMac answers. -/
import Derived.Test.YtolhmmnaohadcaaDoorEthSplit
import Derived.Test.YtolhmmnaohadcaaDoorShelf
import Derived.Deep.RegionWith
namespace Go.Proofs.YtolhmmnaohadcaaDoor.ethtm
open Go.ChangeShapes Go.WideShapes Go.ChangeAt Go.RowKit
open Go.Proofs.YtolhmmnaohadcaaDoor.EM Go.Proofs.YtolhmmnaohadcaaDoor.EH Go.Proofs.YtolhmmnaohadcaaDoor.ethb Go.Proofs.YtolhmmnaohadcaaDoor.boxes Go.Proofs.YtolhmmnaohadcaaDoor.ethp Go.Proofs.YtolhmmnaohadcaaDoor.ethsp

theorem list_nth (Q : List ByteArray) (k : Nat) (h : k < Q.length) : ((Q.map Value.string).toArray)[k]? = some (.string (Q.getD k ⟨#[]⟩)) := by
  rw [List.getElem?_toArray, List.getElem?_map, List.getElem?_eq_getElem h, List.getD_eq_getElem?_getD, List.getElem?_eq_getElem h]
  rfl
theorem data_nth (Q : List ByteArray) (P : List (List UInt8)) (h : Q.map (·.data.toList) = P) (k : Nat) (hk : k < Q.length) : (Q.getD k ⟨#[]⟩).data.toList = P.getD k [] := by
  rw [← h, List.getD_eq_getElem?_getD, List.getD_eq_getElem?_getD, List.getElem?_map, List.getElem?_eq_getElem hk]
  rfl
/-- strings.Split at a colon -/
theorem split_any (s : ByteArray) (hs : s.size < 4294967281) :
    ∃ Q : List ByteArray, Q.map (·.data.toList) = sp s.data.toList ∧ ∀ (m : Int) (w : World), w.cell? ⟨0, 0, none⟩ = some (.int .i64 m) →
      Calls Tryd.prog 10 #[.string s, .string ⟨#[58]⟩] w fun e w' => e = .returned (.slice (some ⟨w.heap.size, 0, none⟩) Q.length Q.length) ∧ w' = w.alloc (.cells (Q.map Value.string).toArray 9) := by
  have hl := Lib.splitB_all (⟨#[58]⟩ : ByteArray) (by decide) 0 (Lib.countB s ⟨#[58]⟩) s rfl
  refine ⟨Lib.splitB ⟨#[58]⟩ 0 (Lib.countB s ⟨#[58]⟩) s, Lib.splitB_data _ _ _ _, fun m w hm => ?_⟩
  rw [hl]
  exact Tryd.strings_Split s ⟨#[58]⟩ m w hs hm (by decide)

set_option maxHeartbeats 1000000 in
theorem textMac_six (s : ByteArray) (w : World) (Q : List ByteArray) (hQ : Q.map (·.data.toList) = sp s.data.toList) (hn : Q.length = 6)
    (CS : ∀ u : World, u.cell? ⟨0, 0, none⟩ = w.cell? ⟨0, 0, none⟩ → Calls Tryd.prog 10 #[.string s, .string ⟨#[58]⟩] u fun e w' => e = .returned (.slice (some ⟨u.heap.size, 0, none⟩) 6 6) ∧ w' = u.alloc (.cells (Q.map Value.string).toArray 9))
    (h0 : 0 < w.heap.size) :
    Calls Tryd.prog 5 #[.string s] w fun e w' =>
      (tok (sp s.data.toList) ∧ e = .returned (.tuple #[.agg (pt (sp s.data.toList) 6), .int .i64 0]) ∨ ¬ tok (sp s.data.toList) ∧ e = .returned (.tuple #[.agg (pt (sp s.data.toList) 0), .int .i64 10])) ∧ Below w.heap.size w w' := by
  obtain ⟨P, hP⟩ : ∃ P, P = sp s.data.toList := ⟨_, rfl⟩
  rw [← hP] at hQ ⊢
  clear hP
  have HQ : Hid (Q.map (·.data.toList) = P) := hQ
  have HN : Hid (Q.length = 6) := hn
  have HP6 : Hid (P.length = 6) := by show _ = _; rw [← hQ, List.length_map]; exact hn
  clear hQ hn
  go_enter Tryd.func5, Tryd.ntmps5
  go_wp2_with fail
  refine (CS _ ?_).mono ?_
  · rw [World.cell?_alloc_past (hn := by simp), World.cell?_alloc_past (hn := h0)]
  rintro e w1 ⟨rfl, rfl⟩
  clear CS
  go_wp2_with fail
  go_loopw [16] (fun i wr => ∃ k : Nat, k ≤ 6 ∧ i = .int .i64 k ∧ Blk wr w.heap.size (pt P 0) 23 ∧ Blk wr (w.heap.size + 1) (pt P k) 23 ∧ Blk wr (w.heap.size + 1 + 1) (Q.map Value.string).toArray 9 ∧ Below w.heap.size w wr ∧ ∀ j, j < k → okp (P.getD j [])) (fun i _ => 6 - (intOf i).toNat)
  case atStart =>
    refine ⟨0, by omega, rfl, ?_, ?_, ?_, ?_, fun j hj => by omega⟩
    · rw [pt_zero]; exact ((Blk.new _ _ _).alloc _).alloc _
    · rw [pt_zero]; exact (Blk.newAt _ _ _ (by simp)).alloc _
    · exact Blk.newAt _ _ _ (by simp)
    · exact (((Below.refl _ _).alloc (Nat.le_refl _) _).alloc (by simp) _).alloc (by simp; omega) _
  case round =>
    obtain ⟨k, hk, rfl, Z, M, L, bel, ok⟩ := hrel
    by_cases hlt : k < 6
    · have lc := (L.cell k).trans (list_nth Q k (by rw [HN.out]; exact hlt))
      have hd := data_nth Q P HQ.out k (by rw [HN.out]; exact hlt)
      obtain ⟨x, hx⟩ : ∃ x, x = Q.getD k ⟨#[]⟩ := ⟨_, rfl⟩
      rw [← hx] at lc hd
      have HX : Hid (x.data.toList = P.getD k []) := hd
      have hxs : x.size = (P.getD k []).length := by rw [← hd]; simp
      have HS : Hid (x.size = (P.getD k []).length) := hxs
      clear hx hd hxs
      have Zd := fun n => Z.drewN n
      by_cases h2 : x.size = 2
      · have i0 : ∀ u, (Instr.index 9 (.string x) (.int .i64 0)).run Tryd.prog u = .ok (.int .u8 (bt x 0)) u := fun u => by
          rw [run_index_string u 9 x .i64 _ Tryd.underlying9, dif_pos ⟨by omega, by omega⟩]
          have := bt_at x 0 (by omega)
          simp only [Int.toNat_zero, this]
        have i1 : ∀ u, (Instr.index 9 (.string x) (.int .i64 1)).run Tryd.prog u = .ok (.int .u8 (bt x 1)) u := fun u => by
          rw [run_index_string u 9 x .i64 _ Tryd.underlying9, dif_pos ⟨by omega, by omega⟩]
          have := bt_at x 1 (by omega)
          simp only [Int.reduceToNat, this]
        have h2' : ((x.size : Int) == 2) = true := by simp; omega
        have a0 := dx_bd (by8 x 0)
        have b0 := dx_bd (by8 x 1)
        have D0 := fun u => digit_any x 0 u
        have D1 := fun u => digit_any x 1 u
        obtain ⟨a, ha⟩ : ∃ a, a = dx (by8 x 0) := ⟨_, rfl⟩
        obtain ⟨b, hb⟩ : ∃ b, b = dx (by8 x 1) := ⟨_, rfl⟩
        rw [← ha] at a0 D0
        rw [← hb] at b0 D1
        have HA : Hid (a = dx ((P.getD k []).getD 0 0)) := by show _ = _; rw [ha, ← HX.out]; rfl
        have HB : Hid (b = dx ((P.getD k []).getD 1 0)) := by show _ = _; rw [hb, ← HX.out]; rfl
        have HD0 : Hid (∀ u, Calls Tryd.prog 9 #[.string dgs, .int .u8 (bt x 0)] u fun e w' => e = .returned (.int .i64 a) ∧ w' = u) := D0
        have HD1 : Hid (∀ u, Calls Tryd.prog 9 #[.string dgs, .int .u8 (bt x 1)] u fun e w' => e = .returned (.int .i64 b) ∧ w' = u) := D1
        clear ha hb D0 D1 h2'
        have mc : wr.cell? ⟨w.heap.size + 1, k, none⟩ = some (.int .u8 0) := by
          rw [M.cell]; simp [pt, hlt]
        have mf := M.free k
        go_wp2_with fail
        refine (HD0.out _).mono ?_
        rintro e w2 ⟨rfl, rfl⟩
        by_cases hna : a < 0
        · have nope : Hid (¬ tok P) := fun g => by have := (g.2 k hlt).2.1; rw [← HA.out] at this; omega
          go_wp2_with (first | (refine blk_load _ rfl 23 _ rfl _ rfl _ _ (by assumption) _ Tryd.underlying23 rfl 6 mac_info (by exact pt_size _ _) ?_) | (refine blk_store _ rfl 23 _ _ rfl _ _ rfl rfl _ _ (by first | assumption | exact Zd _) 6 mac_info (by exact pt_size _ _) (by first | exact pt_size _ _ | rfl) (by first | exact zero_one | exact pt_one _ _) ?_; intro W2 k2 p2))
          refine blk_ret2 rfl rfl _ _ _ rfl k2 _ Tryd.underlying23 rfl 6 mac_info rfl ⟨.inr ⟨nope.out, by rw [pt_zero]; rfl⟩, p2.below bel (Nat.le_refl _)⟩
        go_wp2_with fail
        refine (HD1.out _).mono ?_
        rintro e w3 ⟨rfl, rfl⟩
        by_cases hnb : b < 0
        · have nope : Hid (¬ tok P) := fun g => by have := (g.2 k hlt).2.2; rw [← HB.out] at this; omega
          go_wp2_with (first | (refine blk_load _ rfl 23 _ rfl _ rfl _ _ (by assumption) _ Tryd.underlying23 rfl 6 mac_info (by exact pt_size _ _) ?_) | (refine blk_store _ rfl 23 _ _ rfl _ _ rfl rfl _ _ (by first | assumption | exact Zd _) 6 mac_info (by exact pt_size _ _) (by first | exact pt_size _ _ | rfl) (by first | exact zero_one | exact pt_one _ _) ?_; intro W2 k2 p2))
          refine blk_ret2 rfl rfl _ _ _ rfl k2 _ Tryd.underlying23 rfl 6 mac_info rfl ⟨.inr ⟨nope.out, by rw [pt_zero]; rfl⟩, p2.below bel (Nat.le_refl _)⟩
        have okk : okp (P.getD k []) := ⟨by have := HS.out; omega, by rw [← HA.out]; omega, by rw [← HB.out]; omega⟩
        obtain ⟨c, hcv⟩ : ∃ c, c = vP P k := ⟨_, rfl⟩
        have E : 16 * a + b = c := by rw [hcv, vP, ← HA.out, ← HB.out]
        have cb : 0 ≤ c ∧ c ≤ 255 := by omega
        have EE : Hid (16 * a + b = vP P k) := E.trans hcv
        have OK : Hid (okp (P.getD k [])) := okk
        clear okk hcv
        go_wp2_with fail
        go_region_with (first | (go_at_call 9; refine (HD0.out _).mono ?_; rintro e w4 ⟨rfl, rfl⟩) | (go_at_call 9; refine (HD1.out _).mono ?_; rintro e w4 ⟨rfl, rfl⟩))
        all_goals
          clear HD0 HD1 i0 i1 mc mf
          go_wp2_with fail
          go_roundw
          case rel =>
            refine ⟨k + 1, by omega, by go_num, ?_, ?_, ?_, ?_, ?_⟩
            · exact Blk.drew ((but_setCell _ _ _ _).blk Z (by omega))
            · have q := M.setCell k (.int .u8 (vP P k))
              rw [pt_step P k hlt] at q
              rw [EE.out]; exact Blk.drew q
            · exact Blk.drew ((but_setCell _ _ _ _).blk L (by omega))
            · exact Below.drew ((but_setCell _ _ _ _).below bel (by omega))
            · intro j hj
              by_cases e : j = k
              · rw [e]; exact OK.out
              · exact ok j (by omega)
          case measure => simp [intOf]; omega
      · have h2' : ((x.size : Int) == 2) = false := by simp; omega
        have nope : Hid (¬ tok P) := fun g => by have := (g.2 k hlt).1; have := HS.out; omega
        go_wp2_with (first | (refine blk_load _ rfl 23 _ rfl _ rfl _ _ (by assumption) _ Tryd.underlying23 rfl 6 mac_info (by exact pt_size _ _) ?_) | (refine blk_store _ rfl 23 _ _ rfl _ _ rfl rfl _ _ (by first | assumption | exact Zd _) 6 mac_info (by exact pt_size _ _) (by first | exact pt_size _ _ | rfl) (by first | exact zero_one | exact pt_one _ _) ?_; intro W2 k2 p2))
        refine blk_ret2 rfl rfl _ _ _ rfl k2 _ Tryd.underlying23 rfl 6 mac_info rfl ⟨.inr ⟨nope.out, by rw [pt_zero]; rfl⟩, p2.below bel (Nat.le_refl _)⟩
    · have e : k = 6 := by omega
      have Zd := fun n => Z.drewN n
      have HO : Hid (tok P) := ⟨HP6.out, fun j hj => ok j (by omega)⟩
      clear ok L
      rw [e] at M
      go_wp2_with (first | (refine blk_load _ rfl 23 _ rfl _ rfl _ _ (by assumption) _ Tryd.underlying23 rfl 6 mac_info (by exact pt_size _ _) ?_) | (refine blk_store _ rfl 23 _ _ rfl _ _ rfl rfl _ _ (by first | assumption | exact Zd _) 6 mac_info (by exact pt_size _ _) (by first | exact pt_size _ _ | rfl) (by first | exact zero_one | exact pt_one _ _) ?_; intro W2 k2 p2))
      refine blk_ret2 rfl rfl _ _ _ rfl k2 _ Tryd.underlying23 rfl 6 mac_info (pt_size _ _) ⟨.inl ⟨HO.out, rfl⟩, p2.below bel (Nat.le_refl _)⟩
end Go.Proofs.YtolhmmnaohadcaaDoor.ethtm
