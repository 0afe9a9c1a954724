/- prefix.add: a net more, where it is the last one, or there already. -/
import Derived.Test.YtiddpkppfpdfhaaPfWalk
import Derived.Test.YtiddpkppfpdfhaaPfFull
namespace Go.Proofs.Ytiddpkppfpdfhaa.pf
open Go.ChangeShapes Go.WideShapes Go.ChangeAt Go.RowKit Go.BigFrame
open Go.Proofs.Ytiddpkppfpdfhaa Go.Proofs.Ytiddpkppfpdfhaa.pm Go.Proofs.Ytiddpkppfpdfhaa.boxes Go.Proofs.Ytiddpkppfpdfhaa.rwr Go.Proofs.Ytiddpkppfpdfhaa.rwat
open Go.Proofs.Ytiddpkppfpdfhaa.rws (Knd Own)

theorem ixbf (b o : Nat) (u : World) : (Instr.indexAt 55 (.pointer (some ⟨b, o, none⟩)) (.int .u32 0)).run Try.prog u = .ok (.pointer (some ⟨b, o, none⟩)) u := by
  simp [Instr.indexAt, run_underlying Try.underlying55, Instr.sureAddr, asIntOf, go_sem, Addr.add]
theorem ixbt (b o : Nat) (u : World) : (Instr.indexAt 55 (.pointer (some ⟨b, o, none⟩)) (.int .u32 1)).run Try.prog u = .ok (.pointer (some ⟨b, o + 1, none⟩)) u := by
  simp [Instr.indexAt, run_underlying Try.underlying55, Instr.sureAddr, asIntOf, go_sem, Addr.add]
theorem ad32 (p : Pth) : ad 32 p < 4294967296 := ad_lt 32 p
set_option maxHeartbeats 4000000 in
set_option maxRecDepth 20000 in
theorem add_any (v : Value) (A : T) (p : Pth) (u : Int) (B : Nat) (w : World) (h : FO w B v (lay 0 A)) (hp : p.length ≤ 32) (hf : has A p ∨ last A p) (hs : sz A ≤ 1000000) (hB : B ≤ w.heap.size) :
    Calls Try.prog 30 #[v, .agg (NC (ad 32 p) p.length), .int .i64 u] w fun e w' => ∃ v', e = .returned v' ∧ FO w' B v' (lay 0 (ins A p u)) ∧ Only v v' w w' := by
  have b1 := (Below.refl w.heap.size w).alloc (Nat.le_refl _) (.cells (NC (ad 32 p) p.length) 27)
  have G1 := Blk.new w (NC (ad 32 p) p.length) 27
  have O1 := h.alloc (.cells (NC (ad 32 p) p.length) 27)
  have N1 : Only v v w (w.alloc (.cells (NC (ad 32 p) p.length) 27)) := Only.of_below b1
  have hvne : v.ownBlock ≠ some w.heap.size := fun e => by have := fo_lt h _ e; omega
  have CB : Hid (∀ (i : Nat) (W : World), i < p.length → Calls Try.prog 47 #[.int .u32 (ad 32 p : Int), .int .i64 (i : Int)] W fun e w' => e = .returned (.int .u32 (if p.getD i false then 1 else 0)) ∧ w' = W) := fun i W hi => by
    have := bitOf_any (ad 32 p) i p.length W hp hi (ad32 p)
    rwa [bts_ad hp] at this
  have hl : (lay 0 A).length ≤ 1000000 := by rw [lay_length]; exact hs
  obtain ⟨R, hR⟩ : ∃ R, R = lay 0 (ins A p u) := ⟨_, rfl⟩
  have HS : Hid ((lay 0 A ≠ [] → Goes (lay 0 A) 0 p u R) ∧ (lay 0 A = [] → Goes [z0] 0 p u R)) := by
    refine ⟨fun hne => ?_, fun he => ?_⟩
    · rw [hR]; exact goes_start (fun e => hne (by rw [e]; rfl)) hf
    · have : A = .nil := by
        cases A with
        | nil => rfl
        | nd s l r => simp [lay] at he
      rw [hR, this]; exact goes_zero p u
  rw [← hR]
  clear hR hf hs h
  obtain ⟨L, hL⟩ : ∃ L, L = lay 0 A := ⟨_, rfl⟩
  rw [← hL] at HS O1 hl
  clear hL
  have HGet : Hid (∀ i, i < p.length → p.drop i = p.getD i false :: p.drop (i + 1)) := fun i hi => by
    rw [List.drop_eq_getElem_cons hi, List.getD_eq_getElem?_getD, List.getElem?_eq_getElem hi]; rfl
  have HEnd : Hid (p.drop p.length = []) := List.drop_length
  generalize p.length = m at *
  generalize ad 32 p = a at *
  obtain ⟨sa, sc, hv⟩ := (FO.rd O1).form
  subst hv
  go_enter Try.func30, Try.ntmps30
  go_upto_if 12 with fail
  generalize hW1 : w.alloc (Obj.cells (NC a m) 27) = W1 at *
  have hW1s : w.heap.size < W1.heap.size := G1.lt
  go_cut [0] (fun s0 wx => ∃ ns, FO wx B s0 ns ∧ ns.length ≤ 1000001 ∧ Hid (Goes ns 0 p u R) ∧ Only (.slice sa L.length sc) s0 w wx ∧ Blk wx w.heap.size (NC a m) 27 ∧ s0.ownBlock ≠ some w.heap.size)
  case first =>
    by_cases h0 : L = []
    · subst h0
      have HG : Hid (Goes [z0] 0 p u R) := HS.out.2 rfl
      clear HS
      rcases O1.forms with ⟨hv, _⟩ | ⟨g, _, hv, _, _⟩
      · cases hv
        have O2 := O1.alloc (.cells (Nd.cells z0) 57)
        have Y2 := Blk.new W1 (Nd.cells z0) 57
        have bW := (Below.refl W1.heap.size W1).alloc (Nat.le_refl _) (.cells (Nd.cells z0) 57)
        have hB1 : B ≤ (W1.alloc (.cells (Nd.cells z0) 57)).heap.size := by simp; omega
        go_wp2_with (at_builtin; refine app_full _ rfl _ _ rfl B _ [] rfl O2 W1.heap.size 1 z0 57 rfl Y2 (by decide) (by decide) hB1 ?_)
        intro v3 W3 O3 g3 x3
        have x3 : v3.ownBlock = (.slice none ([] : List Nd).length 0 : Value).ownBlock ∨ v3.ownBlock = some (W1.alloc (.cells (Nd.cells z0) 57)).heap.size := x3.imp (fun e => e) (fun e => by rw [e]; simp)
        have o3 : Only (.slice none 0 0) v3 w W3 := N1.trans ((Only.of_below bW).trans (Only.of_app g3 x3))
        have G3 : Blk W3 w.heap.size (NC a m) 27 := (Only.of_app g3 x3).blk (G1.below bW (by omega)) hvne
        have hne3 : v3.ownBlock ≠ some w.heap.size := by
          rcases x3 with e | e
          · rw [e]; exact hvne
          · rw [e]; simp; omega
        go_wp2_with fail
        go_meet
        case rel => exact ⟨[z0], O3, by simp, HG, o3, G3, hne3⟩
      · cases hv
        have O2 := O1.alloc (.cells (Nd.cells z0) 57)
        have Y2 := Blk.new W1 (Nd.cells z0) 57
        have bW := (Below.refl W1.heap.size W1).alloc (Nat.le_refl _) (.cells (Nd.cells z0) 57)
        have hB1 : B ≤ (W1.alloc (.cells (Nd.cells z0) 57)).heap.size := by simp; omega
        go_wp2_with (at_builtin; refine app_full _ rfl _ _ rfl B _ [] rfl O2 W1.heap.size 1 z0 57 rfl Y2 (by decide) (by decide) hB1 ?_)
        intro v3 W3 O3 g3 x3
        have x3 : v3.ownBlock = (.slice (some ⟨g, 0, none⟩) ([] : List Nd).length sc : Value).ownBlock ∨ v3.ownBlock = some (W1.alloc (.cells (Nd.cells z0) 57)).heap.size := x3.imp (fun e => e) (fun e => by rw [e]; simp)
        have o3 : Only (.slice (some ⟨g, 0, none⟩) [].length sc) v3 w W3 := N1.trans ((Only.of_below bW).trans (Only.of_app g3 x3))
        have G3 : Blk W3 w.heap.size (NC a m) 27 := (Only.of_app g3 x3).blk (G1.below bW (by omega)) hvne
        have hne3 : v3.ownBlock ≠ some w.heap.size := by
          rcases x3 with e | e
          · rw [e]; exact hvne
          · rw [e]; simp; omega
        go_wp2_with fail
        go_meet
        case rel => exact ⟨[z0], O3, by simp, HG, o3, G3, hne3⟩
    · have HG : Hid (Goes L 0 p u R) := HS.out.1 h0
      clear HS
      have hl0 : ¬ L.length = 0 := fun e => h0 (List.eq_nil_of_length_eq_zero e)
      go_wp2_with fail
      go_meet
      case rel => exact ⟨L, O1, by omega, HG, N1, G1, hvne⟩
  case rest =>
    obtain ⟨ns, O2, hl2, HG, o2, G2, hne2⟩ := hcut
    clear HS O1 N1 G1 hvne b1 hl
    have cG2 := G2.cell
    go_wp2_with fail
    clear cG2
    go_loopw [0, 7, 19] (fun s0 s7 s19 wr => ∃ (ns : List Nd) (i0 i : Nat), s7 = .int .i64 (i0 : Int) ∧ s19 = .int .i64 (i : Int) ∧ i ≤ m ∧ FO wr B s0 ns ∧ ns.length ≤ 1000001 + i ∧ Hid (Goes ns i0 (p.drop i) u R) ∧ Only (.slice sa L.length sc) s0 w wr ∧ Blk wr w.heap.size (NC a m) 27 ∧ s0.ownBlock ≠ some w.heap.size) (fun _ _ s _ => m - (intOf s).toNat)
    case atStart => exact ⟨ns, 0, 0, rfl, rfl, Nat.zero_le _, O2, hl2, HG, o2, G2, hne2⟩
    case round =>
      clear O2 hl2 HG o2 G2 hne2
      obtain ⟨ns, i0, i, rfl, rfl, hi, hO, hl, HG, ow, hF, hgx⟩ := hrel
      have hlt0 := goes_lt HG.out
      obtain ⟨⟨xa, xb, xs, xv⟩, hx⟩ : ∃ x, ns[i0]? = some x := ⟨_, List.getElem?_eq_getElem hlt0⟩
      obtain ⟨g, cap, rfl, hBg, hgl, hcap, _, _⟩ := hO.form (by omega)
      have hgx : w.heap.size ≠ g := fun e => hgx (by rw [e]; rfl)
      have hBr : B ≤ wr.heap.size := Nat.le_trans hBg (Nat.le_of_lt hgl)
      by_cases hi : i < m
      · have HG : Hid (Goes ns i0 (p.getD i false :: p.drop (i + 1)) u R) := by have := HG.out; rwa [HGet.out i hi] at this
        obtain ⟨bb, hbit⟩ : ∃ bb, p.getD i false = bb := ⟨_, rfl⟩
        cases bb
        · have CBi := fun u => CB.out i u hi
          rw [hbit] at CBi HG
          simp only [Bool.false_eq_true, if_false] at CBi
          have hbt := fun u => ixbf g (i0 * 4) u
          have cn : wr.cell? ⟨g, i0 * 4, none⟩ = some (.int .i64 xa) := hO.cell hx (i := 0) (by decide)
          clear hbit HGet CB
          by_cases h0 : xa = 0
          · subst h0
            have G5 := goes_new HG.out hx rfl
            have e5 : stN ⟨0, xb, xs, xv⟩ false (ns.length : Int) = ⟨(ns.length : Int), xb, xs, xv⟩ := rfl
            rw [e5] at G5
            obtain ⟨O5, fz, _⟩ := FO.put hO i0 0 ⟨0, xb, xs, xv⟩ ⟨(ns.length : Int), xb, xs, xv⟩ (.int .i64 (ns.length : Int)) hx (by decide) rfl
            have fz : wr.frozen? ⟨g, i0 * 4, none⟩ = false := fz
            have O5 : FO (wr.setCell ⟨g, i0 * 4, none⟩ (.int .i64 (ns.length : Int))) B (.slice (some ⟨g, 0, none⟩) ns.length cap) (ns.set i0 ⟨(ns.length : Int), xb, xs, xv⟩) := O5
            have hL5 : (ns.set i0 ⟨(ns.length : Int), xb, xs, xv⟩).length = ns.length := by simp
            have hx5 : (ns.set i0 ⟨(ns.length : Int), xb, xs, xv⟩ ++ [z0])[i0]? = some ⟨(ns.length : Int), xb, xs, xv⟩ := by
              rw [List.getElem?_append_left (by rw [hL5]; exact hlt0), List.getElem?_set_self hlt0]
            have HG5 : Hid (Goes (ns.set i0 ⟨(ns.length : Int), xb, xs, xv⟩ ++ [z0]) ns.length (p.drop (i + 1)) u R) := G5
            have o5 : Only (.slice sa L.length sc) (.slice (some ⟨g, 0, none⟩) ns.length cap) w (wr.setCell ⟨g, i0 * 4, none⟩ (.int .i64 (ns.length : Int))) := ow.trans (Only.of_but (but_setCell _ _ _ _) rfl)
            have F5 := (but_setCell wr g (i0 * 4) (.int .i64 (ns.length : Int))).blk hF hgx
            have hsz5 : B ≤ (wr.setCell ⟨g, i0 * 4, none⟩ (.int .i64 (ns.length : Int))).heap.size := by rw [(but_setCell wr g (i0 * 4) (.int .i64 (ns.length : Int))).size]; exact hBr
            generalize hns5 : ns.set i0 ⟨(ns.length : Int), xb, xs, xv⟩ = ns5 at *
            clear hns5 G5 e5 HG hx hO ow
            generalize hn : ns.length = n at *
            clear hn
            have cF := hF.cell
            go_wp2_with fail
            refine (CBi _).mono ?_
            rintro e wr ⟨rfl, rfl⟩
            clear CBi cF
            go_upto_region 10 with fail
            clear cn fz hbt
            generalize hW5 : wr.setCell ⟨g, i0 * 4, none⟩ (.int .i64 (n : Int)) = W5 at *
            clear hW5
            have O6 := FO.alloc O5 (.cells (Nd.cells z0) 57)
            have Y6 := Blk.new W5 (Nd.cells z0) 57
            have b6 := (Below.refl W5.heap.size W5).alloc (Nat.le_refl _) (.cells (Nd.cells z0) 57)
            have hB6 : B ≤ (W5.alloc (.cells (Nd.cells z0) 57)).heap.size := by simp; omega
            go_wp2_with (at_builtin; refine app_full _ rfl _ _ rfl B _ ns5 rfl O6 W5.heap.size 1 z0 57 rfl Y6 (by omega) (by rw [hL5]; show (n + 1) * 32 ≤ _; omega) hB6 ?_)
            intro v7 W7 O7 g7 x7
            have x7 : v7.ownBlock = (.slice (some ⟨g, 0, none⟩) n cap : Value).ownBlock ∨ v7.ownBlock = some (W5.alloc (.cells (Nd.cells z0) 57)).heap.size := x7.imp (fun e => e) (fun e => by rw [e]; simp)
            have hlt5 : w.heap.size < W5.heap.size := F5.lt
            have o7 := o5.trans ((Only.of_below b6).trans (Only.of_app g7 x7))
            have F7 := (Only.of_app g7 x7).blk (F5.below b6 (by omega)) (by simp [Value.ownBlock]; omega)
            have ne7 : v7.ownBlock ≠ some w.heap.size := by
              rcases x7 with e | e
              · rw [e]; simp [Value.ownBlock]; omega
              · rw [e]; simp; omega
            clear x7 g7 O6 Y6 b6 hB6 O5 o5 F5
            have hl7 : (ns5 ++ [z0]).length = n + 1 := by rw [List.length_append, hL5]; rfl
            obtain ⟨g7, cap7, rfl, hB7, hg7, hc7, _, _⟩ := O7.form (by omega)
            have cn7 : W7.cell? ⟨g7, i0 * 4, none⟩ = some (.int .i64 (n : Int)) := O7.cell hx5 (i := 0) (by decide)
            have hbt := fun u => ixbf g7 (i0 * 4) u
            rw [hl7] at O7 o7 hc7 ⊢
            have hlt7 : i0 < n + 1 := by omega
            go_wp2_with fail
            go_roundw
            case rel => exact ⟨ns5 ++ [z0], n, i + 1, rfl, by go_num, by omega, O7, by omega, HG5, o7, F7, ne7⟩
            case measure => simp [intOf]; omega
          · obtain ⟨k, hk, G5⟩ := goes_old HG.out hx h0
            have hk : xa = (k : Int) := hk
            have HG5 : Hid (Goes ns k (p.drop (i + 1)) u R) := G5
            have hne : (Value.slice (some ⟨g, 0, none⟩) ns.length cap).ownBlock ≠ some w.heap.size := by simp [Value.ownBlock]; omega
            subst hk
            clear G5 HG
            have cF := hF.cell
            have h0' : ((k : Int) == 0) = false := by simpa using h0
            obtain ⟨n, hn⟩ : ∃ n, n = ns.length := ⟨_, rfl⟩
            have HN : Hid (n = ns.length) := hn
            rw [← hn] at hlt0 hcap hl hne ow hO ⊢
            clear hn
            go_wp2_with fail
            refine (CBi _).mono ?_
            rintro e wr ⟨rfl, rfl⟩
            clear CBi cF
            go_wp2_with fail
            go_roundw
            case rel => exact ⟨ns, k, i + 1, rfl, by go_num, by omega, hO, by rw [← HN.out]; omega, HG5, ow, hF, hne⟩
            case measure => simp [intOf]; omega
        · have CBi := fun u => CB.out i u hi
          rw [hbit] at CBi HG
          simp only [if_true] at CBi
          have hbt := fun u => ixbt g (i0 * 4) u
          have cn : wr.cell? ⟨g, i0 * 4 + 1, none⟩ = some (.int .i64 xb) := hO.cell hx (i := 1) (by decide)
          clear hbit HGet CB
          by_cases h0 : xb = 0
          · subst h0
            have G5 := goes_new HG.out hx rfl
            have e5 : stN ⟨xa, 0, xs, xv⟩ true (ns.length : Int) = ⟨xa, (ns.length : Int), xs, xv⟩ := rfl
            rw [e5] at G5
            obtain ⟨O5, fz, _⟩ := FO.put hO i0 1 ⟨xa, 0, xs, xv⟩ ⟨xa, (ns.length : Int), xs, xv⟩ (.int .i64 (ns.length : Int)) hx (by decide) rfl
            have fz : wr.frozen? ⟨g, i0 * 4 + 1, none⟩ = false := fz
            have O5 : FO (wr.setCell ⟨g, i0 * 4 + 1, none⟩ (.int .i64 (ns.length : Int))) B (.slice (some ⟨g, 0, none⟩) ns.length cap) (ns.set i0 ⟨xa, (ns.length : Int), xs, xv⟩) := O5
            have hL5 : (ns.set i0 ⟨xa, (ns.length : Int), xs, xv⟩).length = ns.length := by simp
            have hx5 : (ns.set i0 ⟨xa, (ns.length : Int), xs, xv⟩ ++ [z0])[i0]? = some ⟨xa, (ns.length : Int), xs, xv⟩ := by
              rw [List.getElem?_append_left (by rw [hL5]; exact hlt0), List.getElem?_set_self hlt0]
            have HG5 : Hid (Goes (ns.set i0 ⟨xa, (ns.length : Int), xs, xv⟩ ++ [z0]) ns.length (p.drop (i + 1)) u R) := G5
            have o5 : Only (.slice sa L.length sc) (.slice (some ⟨g, 0, none⟩) ns.length cap) w (wr.setCell ⟨g, i0 * 4 + 1, none⟩ (.int .i64 (ns.length : Int))) := ow.trans (Only.of_but (but_setCell _ _ _ _) rfl)
            have F5 := (but_setCell wr g (i0 * 4 + 1) (.int .i64 (ns.length : Int))).blk hF hgx
            have hsz5 : B ≤ (wr.setCell ⟨g, i0 * 4 + 1, none⟩ (.int .i64 (ns.length : Int))).heap.size := by rw [(but_setCell wr g (i0 * 4 + 1) (.int .i64 (ns.length : Int))).size]; exact hBr
            generalize hns5 : ns.set i0 ⟨xa, (ns.length : Int), xs, xv⟩ = ns5 at *
            clear hns5 G5 e5 HG hx hO ow
            generalize hn : ns.length = n at *
            clear hn
            have cF := hF.cell
            go_wp2_with fail
            refine (CBi _).mono ?_
            rintro e wr ⟨rfl, rfl⟩
            clear CBi cF
            go_upto_region 10 with fail
            clear cn fz hbt
            generalize hW5 : wr.setCell ⟨g, i0 * 4 + 1, none⟩ (.int .i64 (n : Int)) = W5 at *
            clear hW5
            have O6 := FO.alloc O5 (.cells (Nd.cells z0) 57)
            have Y6 := Blk.new W5 (Nd.cells z0) 57
            have b6 := (Below.refl W5.heap.size W5).alloc (Nat.le_refl _) (.cells (Nd.cells z0) 57)
            have hB6 : B ≤ (W5.alloc (.cells (Nd.cells z0) 57)).heap.size := by simp; omega
            go_wp2_with (at_builtin; refine app_full _ rfl _ _ rfl B _ ns5 rfl O6 W5.heap.size 1 z0 57 rfl Y6 (by omega) (by rw [hL5]; show (n + 1) * 32 ≤ _; omega) hB6 ?_)
            intro v7 W7 O7 g7 x7
            have x7 : v7.ownBlock = (.slice (some ⟨g, 0, none⟩) n cap : Value).ownBlock ∨ v7.ownBlock = some (W5.alloc (.cells (Nd.cells z0) 57)).heap.size := x7.imp (fun e => e) (fun e => by rw [e]; simp)
            have hlt5 : w.heap.size < W5.heap.size := F5.lt
            have o7 := o5.trans ((Only.of_below b6).trans (Only.of_app g7 x7))
            have F7 := (Only.of_app g7 x7).blk (F5.below b6 (by omega)) (by simp [Value.ownBlock]; omega)
            have ne7 : v7.ownBlock ≠ some w.heap.size := by
              rcases x7 with e | e
              · rw [e]; simp [Value.ownBlock]; omega
              · rw [e]; simp; omega
            clear x7 g7 O6 Y6 b6 hB6 O5 o5 F5
            have hl7 : (ns5 ++ [z0]).length = n + 1 := by rw [List.length_append, hL5]; rfl
            obtain ⟨g7, cap7, rfl, hB7, hg7, hc7, _, _⟩ := O7.form (by omega)
            have cn7 : W7.cell? ⟨g7, i0 * 4 + 1, none⟩ = some (.int .i64 (n : Int)) := O7.cell hx5 (i := 1) (by decide)
            have hbt := fun u => ixbt g7 (i0 * 4) u
            rw [hl7] at O7 o7 hc7 ⊢
            have hlt7 : i0 < n + 1 := by omega
            go_wp2_with fail
            go_roundw
            case rel => exact ⟨ns5 ++ [z0], n, i + 1, rfl, by go_num, by omega, O7, by omega, HG5, o7, F7, ne7⟩
            case measure => simp [intOf]; omega
          · obtain ⟨k, hk, G5⟩ := goes_old HG.out hx h0
            have hk : xb = (k : Int) := hk
            have HG5 : Hid (Goes ns k (p.drop (i + 1)) u R) := G5
            have hne : (Value.slice (some ⟨g, 0, none⟩) ns.length cap).ownBlock ≠ some w.heap.size := by simp [Value.ownBlock]; omega
            subst hk
            clear G5 HG
            have cF := hF.cell
            have h0' : ((k : Int) == 0) = false := by simpa using h0
            obtain ⟨n, hn⟩ : ∃ n, n = ns.length := ⟨_, rfl⟩
            have HN : Hid (n = ns.length) := hn
            rw [← hn] at hlt0 hcap hl hne ow hO ⊢
            clear hn
            go_wp2_with fail
            refine (CBi _).mono ?_
            rintro e wr ⟨rfl, rfl⟩
            clear CBi cF
            go_wp2_with fail
            go_roundw
            case rel => exact ⟨ns, k, i + 1, rfl, by go_num, by omega, hO, by rw [← HN.out]; omega, HG5, ow, hF, hne⟩
            case measure => simp [intOf]; omega
      · obtain rfl : i = m := by omega
        have HG : Hid (Goes ns i0 [] u R) := by have := HG.out; rwa [HEnd.out] at this
        have eR := goes_end HG.out hx
        obtain ⟨O5, fz5, _⟩ := FO.put hO i0 2 ⟨xa, xb, xs, xv⟩ ⟨xa, xb, true, xv⟩ (.bool true) hx (by decide) rfl
        have hx5 : (ns.set i0 ⟨xa, xb, true, xv⟩)[i0]? = some ⟨xa, xb, true, xv⟩ := List.getElem?_set_self hlt0
        obtain ⟨O6, fz6, _⟩ := FO.put O5 i0 3 ⟨xa, xb, true, xv⟩ ⟨xa, xb, true, u⟩ (.int .i64 u) hx5 (by decide) rfl
        rw [List.set_set, ← eR] at O6
        have o6 := ow.trans ((Only.of_but (but_setCell wr g (i0 * 4 + 2) (.bool true)) rfl).trans (Only.of_but (v := .slice (some ⟨g, 0, none⟩) ns.length cap) (but_setCell (wr.setCell ⟨g, i0 * 4 + 2, none⟩ (.bool true)) g (i0 * 4 + 3) (.int .i64 u)) rfl))
        have fz5 : wr.frozen? ⟨g, i0 * 4 + 2, none⟩ = false := fz5
        have fz6 : (wr.setCell ⟨g, i0 * 4 + 2, none⟩ (.bool true)).frozen? ⟨g, i0 * 4 + 3, none⟩ = false := fz6
        have O6 : FO ((wr.setCell ⟨g, i0 * 4 + 2, none⟩ (.bool true)).setCell ⟨g, i0 * 4 + 3, none⟩ (.int .i64 u)) B (.slice (some ⟨g, 0, none⟩) ns.length cap) R := O6
        have cF := hF.cell
        have cc2 : wr.cell? ⟨g, i0 * 4 + 2, none⟩ = some (.bool xs) := hO.cell hx (i := 2) (by decide)
        have cc3 : (wr.setCell ⟨g, i0 * 4 + 2, none⟩ (.bool true)).cell? ⟨g, i0 * 4 + 3, none⟩ = some (.int .i64 xv) := FO.cell O5 hx5 (i := 3) (by decide)
        clear O5 eR HG hx hx5 hO ow HGet CB HEnd
        go_wp2_with fail
        go_ret
        exact ⟨_, rfl, O6, o6⟩
end Go.Proofs.Ytiddpkppfpdfhaa.pf
