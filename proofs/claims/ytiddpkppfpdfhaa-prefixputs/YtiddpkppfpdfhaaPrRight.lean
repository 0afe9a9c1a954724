/- custref.TrieRight: the reference says of a trie what the program's Check says. -/
import Derived.Test.YtiddpkppfpdfhaaPrRows
namespace Go.Proofs.Ytiddpkppfpdfhaa.pf
open Go.ChangeShapes Go.WideShapes Go.ChangeAt Go.RowKit Go.BigFrame
open Go.Proofs.Ytiddpkppfpdfhaa Go.Proofs.Ytiddpkppfpdfhaa.pm Go.Proofs.Ytiddpkppfpdfhaa.boxes Go.Proofs.Ytiddpkppfpdfhaa.rwr Go.Proofs.Ytiddpkppfpdfhaa.rwat
open Go.Proofs.Ytiddpkppfpdfhaa.rws (Knd Own)

set_option maxRecDepth 20000 in
set_option maxHeartbeats 4000000 in
theorem right_any (v : Value) (ns : List Nd) (w : World) (hr : Rd DK w v ns) :
    Calls Try.prog 14 #[.agg (TC v)] w fun e w' => e = .returned (.int .i64 (chk ns 2 4)) ∧ Below w.heap.size w w' := by
  have b0 := (Below.refl w.heap.size w).alloc (Nat.le_refl _) (.cells (TC v) 24)
  have F0 := Blk.new w (TC v) 24
  replace hr := hr.below b0
  by_cases hl : 500 < ns.length
  · have e : chk ns 2 4 = 2 := by unfold chk; rw [if_neg (by omega), if_pos hl]
    rw [e]
    obtain ⟨sa, sc, e_v⟩ := hr.form
    subst e_v
    have cF0 := F0.cell
    go_enter Try.func14, Try.ntmps14
    go_wp2_with fail
    go_ret
    exact ⟨rfl, b0⟩
  · have C1 := rows_any v ns _ hr (by omega)
    have HC : Hid (∀ (rs : List Rw) (ok : Bool), (∀ x ∈ rs, x.1.length ≤ 32) → (∀ t, Rt ns t → ok = true ∧ rs = rows t) → (ok = true → ns = lay 0 (ofR rs) → chk ns 2 4 = 0) ∧ (ok = true → ¬ ns = lay 0 (ofR rs) → chk ns 2 4 = 4) ∧ (ok = false → chk ns 2 4 = 4)) := fun rs ok h1 h2 => right_of (by omega) h1 h2
    generalize chk ns 2 4 = c at *
    obtain ⟨sa, sc, e_v⟩ := hr.form
    obtain ⟨n, hn⟩ : ∃ n, n = ns.length := ⟨_, rfl⟩
    rw [← hn] at e_v hl
    subst e_v
    clear hn
    have cF0 := F0.cell
    go_enter Try.func14, Try.ntmps14
    go_upto_region 3 with fail
    go_wp2_with fail
    refine C1.mono ?_
    rintro e W1 ⟨v1, rs, ok, rfl, O1, hlen, hrl, hrt, z⟩
    have hc := HC.out rs ok hlen hrt
    replace F0 := F0.below z F0.lt
    replace hr := hr.below z
    replace b0 := b0.trans (z.mono b0.size)
    have q1 := Own.rd O1
    clear C1 HC cF0 z O1 hrt
    cases ok with
    | false =>
      have h4 : Hid (c = 4) := hc.2.2 rfl
      clear hc hlen q1 hr
      go_upto_region 4 with fail
      have nn := ab.ne W1
      refine ab.region (by kernel_rfl) (by kernel_rfl) ?_
      repeat (go_big_quiet_step (fail))
      refine wpQuiet_nil ?_
      intro _ hx
      obtain ⟨y, rfl⟩ := hx
      go_wp2_with fail
      go_ret
      exact ⟨ret_int h4.out.symm, b0.trans (y.h.mono b0.size)⟩
    | true =>
      have CO := fun u (hu : Rd RK u v1 rs) => of_any v1 rs u hu hlen (by omega)
      have CS := fun u q (h1 : Rd DK u (.slice sa n sc) ns) (hu : Rd DK u q (lay 0 (ofR rs))) => same_any (.slice sa n sc) q ns (lay 0 (ofR rs)) u h1 hu
      obtain ⟨fd, hfd⟩ : ∃ fd, fd = decide (ns = lay 0 (ofR rs)) := ⟨_, rfl⟩
      rw [← hfd] at CS
      have h4 : Hid (c = if fd then 0 else 4) := by
        show _ = _
        by_cases e : ns = lay 0 (ofR rs)
        · rw [hfd, decide_eq_true e]; exact hc.1 rfl e
        · rw [hfd, decide_eq_false e]; exact hc.2.1 rfl e
      clear hfd hc hlen
      generalize lay 0 (ofR rs) = L at *
      have cF0 := F0.cell
      go_upto_region 4 with fail
      go_cut [22] (fun s22 wx => s22 = .bool (!fd) ∧ Below W1.heap.size W1 wx)
      case first =>
        clear b0
        go_region_with (first
          | (go_at_call 35; refine (CO _ (by first | exact q1 | exact q1.below ((Below.refl _ _).drew))).mono ?_; rintro e W2 ⟨v2, rfl, O2, z2⟩; have cF2 := ((Blk.drew F0).below z2 F0.lt).cell)
          | (go_at_call 15; refine (CS _ _ (by first | exact hr.below (((Below.refl _ _).drew).trans z2) | exact hr.below z2) (Own.rd O2)).mono ?_; rintro e W3 ⟨rfl, z3⟩))
        all_goals
          have zz : Below W1.heap.size W1 W3 := (((Below.refl _ _).drew).trans z2).trans (z3.mono z2.size)
          go_wp2_with fail
          go_meet
          case rel => exact ⟨rfl, zz⟩
      case rest =>
        obtain ⟨rfl, z⟩ := hcut
        cases fd
        · have h5 : Hid (c = 4) := h4.out
          go_wp2_with fail
          go_ret
          exact ⟨ret_int h5.out.symm, b0.trans (z.mono b0.size)⟩
        · have h5 : Hid (c = 0) := h4.out
          go_wp2_with fail
          go_ret
          exact ⟨ret_int h5.out.symm, b0.trans (z.mono b0.size)⟩
end Go.Proofs.Ytiddpkppfpdfhaa.pf
