/- Whatever is handed in, package sip answers what the document says. -/
import Derived.Test.YthdplonfhhnpaaaSipROf
import Derived.Test.YthdplonfhhnpaaaArgsSip
namespace Go.Proofs.Ythdplonfhhnpaaa.sips
open Go.ChangeShapes Go.WideShapes Go.ChangeAt Go.RowKit Go.BigFrame
open Go.Proofs.Ythdplonfhhnpaaa Go.Proofs.Ythdplonfhhnpaaa.sipm Go.Proofs.Ythdplonfhhnpaaa.boxes Go.Proofs.Ythdplonfhhnpaaa.ethb Go.Proofs.Ythdplonfhhnpaaa.sipb Go.Proofs.Ythdplonfhhnpaaa.sipt Go.Proofs.Ythdplonfhhnpaaa.sipn Go.Proofs.Ythdplonfhhnpaaa.sipf Go.Proofs.Ythdplonfhhnpaaa.sipr Go.Proofs.Ythdplonfhhnpaaa.sipo Go.Proofs.Ythdplonfhhnpaaa.sipe Go.Proofs.Ythdplonfhhnpaaa.sipq Go.Proofs.Ythdplonfhhnpaaa.sipx Go.Proofs.Ythdplonfhhnpaaa.sipy Go.Proofs.Ythdplonfhhnpaaa.sipg Go.Proofs.Ythdplonfhhnpaaa.argsp

theorem names (k l : UInt64) (x : V4) (p s : ByteArray) (n : Int) (hs : s.size ≤ 140737488351232) (hn : n ≤ 4611686018427387904) :
    ∃ (V v0 : V4) (P : ByteArray) (N e h : Int) (r t : UInt64),
      (∀ u, Calls Try.prog 6 #[.agg (sc x p n), .string s] u fun z w' => z = .returned (.tuple #[.agg (sc V P N), .int .i64 e]) ∧ Below u.heap.size u w') ∧
      (∀ u, Calls Try.prog 7 #[.agg (sc x p n), .string s] u fun z w' => z = .returned (.tuple #[.agg (sc V P N), .int .i64 e]) ∧ Below u.heap.size u w') ∧
      (∀ u, Calls Try.prog 8 #[.agg (sc x p n)] u fun z w' => z = .returned (.tuple #[nm r, .int .i64 h]) ∧ Below u.heap.size u w') ∧
      (∀ u, Calls Try.prog 9 #[.agg (sc x p n)] u fun z w' => z = .returned (.tuple #[nm r, .int .i64 h]) ∧ Below u.heap.size u w') ∧
      (∀ u, Calls Try.prog 10 #[.agg #[nm k, nm l]] u fun z w' => z = .returned (.agg (sc v0 ⟨#[]⟩ 0)) ∧ Below u.heap.size u w') ∧
      (∀ u, Calls Try.prog 11 #[.agg #[nm k, nm l]] u fun z w' => z = .returned (.agg (sc v0 ⟨#[]⟩ 0)) ∧ Below u.heap.size u w') ∧
      (∀ u, Calls Try.prog 12 #[.agg #[nm k, nm l], .string s] u fun z w' => z = .returned (nm t) ∧ Below u.heap.size u w') ∧
      (∀ u, Calls Try.prog 13 #[.agg #[nm k, nm l], .string s] u fun z w' => z = .returned (nm t) ∧ Below u.heap.size u w') := by
  cases h : okf p n
  · exact ⟨_, _, _, _, _, _, 0, _, fun u => more_no x p s n u h, fun u => rmore_no x p s n u h, fun u => end_no x p n u h, fun u => rend_no x p n u h, begin_any k l, sbegin_any k l, fun u => of_any k l s u (by omega), fun u => rof_any k l s u (by omega)⟩
  · exact ⟨_, _, _, _, _, _, _, _, fun u => more_ok x p s n u h (by omega) (by omega), fun u => rmore_ok x p s n u h (by omega) (by omega), fun u => end_ok x p n u h, fun u => rend_ok x p n u h, begin_any k l, sbegin_any k l, fun u => of_any k l s u (by omega), fun u => rof_any k l s u (by omega)⟩
set_option maxHeartbeats 8000000 in
theorem says_any (k l : UInt64) (x : V4) (p s : ByteArray) (n : Int) (w : World) (hs : s.size ≤ 140737488351232) :
    Calls Try.prog 3 #[.agg #[nm k, nm l], .agg (sc x p n), .string s] w fun e w' => e = .returned (.bool true) ∧ Below w.heap.size w w' := by
  have X0 : Blk ((w.alloc (.cells #[nm k, nm l] 24)).alloc (.cells (sc x p n) 27)) w.heap.size #[nm k, nm l] 24 := (Blk.new _ _ _).alloc _
  have Y0 : Blk ((w.alloc (.cells #[nm k, nm l] 24)).alloc (.cells (sc x p n) 27)) (w.heap.size + 1) (sc x p n) 27 := Blk.newAt _ _ _ (by simp)
  have B0 := ((Below.refl w.heap.size w).alloc (Nat.le_refl _) (.cells #[nm k, nm l] 24)).alloc (by simp) (.cells (sc x p n) 27)
  by_cases hn : n ≤ 4611686018427387904
  · obtain ⟨V, v0, P, N, e, h, r, t, C1, C2, D1, D2, E1, E2, F1, F2⟩ := names k l x p s n hs hn
    go_enter Try.func3, Try.ntmps3
    go_upto_region 1 with fail
    refine gen2 (p := fun W => Code.wp _ _ _ _ W) X0 Y0 B0 ?_
    clear X0 Y0 B0
    intro W X Y B
    have cy := Y.cell
    go_upto_region 3 with fail
    clear cy
    go_wp2_with (refine blk_load _ rfl 27 _ rfl _ rfl _ _ Y _ Try.underlying27 rfl 6 sp_info rfl ?_)
    refine (C1 _).mono ?_
    rintro e W1 ⟨rfl, z⟩
    replace X := X.below z X.lt
    replace Y := Y.below z Y.lt
    replace B := B.trans (z.mono (Below.size B))
    clear z
    go_upto_region 4 with (refine blk_store _ rfl 27 _ _ rfl W1.heap.size (sc V P N) rfl rfl _ _ (Blk.new W1 ZS 27) 6 sp_info rfl rfl (sp_one _ _ _ _ _ _) ?_; intro W2 K2 p2)
    have d := p2.below ((Below.refl W1.heap.size W1).alloc (Nat.le_refl _) (.cells ZS 27)) (Nat.le_refl _)
    replace X := X.below d X.lt
    replace Y := Y.below d Y.lt
    replace B := B.trans (d.mono (Below.size B))
    clear d p2
    generalize W1.heap.size = g2 at *
    go_wp2_with (refine blk_load _ rfl 27 _ rfl _ rfl _ _ Y _ Try.underlying27 rfl 6 sp_info rfl ?_)
    refine (C2 _).mono ?_
    rintro e W3 ⟨rfl, z⟩
    replace X := X.below z X.lt
    replace Y := Y.below z Y.lt
    replace K2 := K2.below z K2.lt
    replace B := B.trans (z.mono (Below.size B))
    clear z
    go_upto_region 5 with (refine blk_store _ rfl 27 _ _ rfl W3.heap.size (sc V P N) rfl rfl _ _ (Blk.new W3 ZS 27) 6 sp_info rfl rfl (sp_one _ _ _ _ _ _) ?_; intro W4 K3 p4)
    have d := p4.below ((Below.refl W3.heap.size W3).alloc (Nat.le_refl _) (.cells ZS 27)) (Nat.le_refl _)
    replace X := X.below d X.lt
    replace Y := Y.below d Y.lt
    replace K2 := K2.below d K2.lt
    replace B := B.trans (d.mono (Below.size B))
    clear d p4
    generalize W3.heap.size = g4 at *
    go_wp2_with (refine blk_load _ rfl 27 _ rfl _ rfl _ _ Y _ Try.underlying27 rfl 6 sp_info rfl ?_)
    refine (D1 _).mono ?_
    rintro e W5 ⟨rfl, z⟩
    replace X := X.below z X.lt
    replace Y := Y.below z Y.lt
    replace K2 := K2.below z K2.lt
    replace K3 := K3.below z K3.lt
    replace B := B.trans (z.mono (Below.size B))
    clear z
    go_wp2_with (refine blk_load _ rfl 27 _ rfl _ rfl _ _ Y _ Try.underlying27 rfl 6 sp_info rfl ?_)
    refine (D2 _).mono ?_
    rintro e W6 ⟨rfl, z⟩
    replace X := X.below z X.lt
    replace Y := Y.below z Y.lt
    replace K2 := K2.below z K2.lt
    replace K3 := K3.below z K3.lt
    replace B := B.trans (z.mono (Below.size B))
    clear z
    clear Y C1 C2 D1 D2
    go_upto_region 7 with fail
    have cx := ab.cells X
    have c2 := ab.cells K2
    have c3 := ab.cells K3
    have ne := ab.ne W6
    have q1 : ∀ u, (Op.equalIn 9999 25 (.agg #[nm V.a, nm V.b, nm V.c, nm V.d]) (.agg #[nm V.a, nm V.b, nm V.c, nm V.d])).run Try.prog u = .ok true u := fun u => v4_same V 9997 u
    have q2 : ∀ u, (Op.equalIn 9999 25 (.agg #[nm v0.a, nm v0.b, nm v0.c, nm v0.d]) (.agg #[nm v0.a, nm v0.b, nm v0.c, nm v0.d])).run Try.prog u = .ok true u := fun u => v4_same v0 9997 u
    refine ab.region (by kernel_rfl) (by kernel_rfl) ?_
    repeat (go_big_quiet_step (first | (go_at_call 10; exact ab.call (E1 _)) | (go_at_call 11; exact ab.call (E2 _)) | (go_at_call 12; exact ab.call (F1 _)) | (go_at_call 13; exact ab.call (F2 _))))
    refine wpQuiet_nil ?_
    intro _ hx'
    obtain ⟨x', rfl⟩ := hx'
    have B9 := B.trans (x'.h.mono (Below.size B))
    clear cx c2 c3 ne q1 q2 X K2 K3 B
    go_wp2_with fail
    go_ret
    exact ⟨rfl, B9⟩
  · go_enter Try.func3, Try.ntmps3
    go_upto_region 1 with fail
    refine gen2 (p := fun W => Code.wp _ _ _ _ W) X0 Y0 B0 ?_
    clear X0 Y0 B0
    intro W X Y B
    have cy := Y.cell
    go_wp2_with fail
    go_ret
    exact ⟨rfl, B⟩
end Go.Proofs.Ythdplonfhhnpaaa.sips
