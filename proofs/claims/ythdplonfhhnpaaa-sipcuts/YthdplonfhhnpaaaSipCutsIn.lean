/- However a text is cut, what is kept meanwhile is the same, and its number is. -/
import Derived.Test.YthdplonfhhnpaaaSipLives
import Derived.Test.YthdplonfhhnpaaaArgsSip
namespace Go.Proofs.Ythdplonfhhnpaaa.sipc
open Go.ChangeShapes Go.WideShapes Go.ChangeAt Go.RowKit Go.BigFrame
open Go.Proofs.Ythdplonfhhnpaaa Go.Proofs.Ythdplonfhhnpaaa.sipm Go.Proofs.Ythdplonfhhnpaaa.boxes Go.Proofs.Ythdplonfhhnpaaa.ethb Go.Proofs.Ythdplonfhhnpaaa.sipb Go.Proofs.Ythdplonfhhnpaaa.sipt Go.Proofs.Ythdplonfhhnpaaa.sipn Go.Proofs.Ythdplonfhhnpaaa.sipf Go.Proofs.Ythdplonfhhnpaaa.sipr Go.Proofs.Ythdplonfhhnpaaa.sipo Go.Proofs.Ythdplonfhhnpaaa.sipe Go.Proofs.Ythdplonfhhnpaaa.sipl Go.Proofs.Ythdplonfhhnpaaa.argsp Go.Proofs.Ythdplonfhhnpaaa.sipg

theorem ev_app (v : V4) (p a b : ByteArray) : ev (ev v p a) (ep v p a) b = ev v p (a ++ b) := by
  unfold ev ep
  rw [ByteArray.data_append, Array.toList_append, eat_app]
theorem ep_app (v : V4) (p a b : ByteArray) : ep (ev v p a) (ep v p a) b = ep v p (a ++ b) := by
  unfold ev ep
  rw [ByteArray.data_append, Array.toList_append, eat_app]
/-- what More answers, in its form or not -/
def mv (v : V4) (p s : ByteArray) (n : Int) : V4 := if okf p n then ev v p s else v
def mp (v : V4) (p s : ByteArray) (n : Int) : ByteArray := if okf p n then ep v p s else p
def mn (p s : ByteArray) (n : Int) : Int := if okf p n then n + (s.size : Int) else n
theorem more_any (v : V4) (p s : ByteArray) (n : Int) (w : World) (hn : n + (s.size : Int) ≤ 9223372036854775807) (hs : s.size ≤ 281474976710600) :
    Calls Try.prog 6 #[.agg (sc v p n), .string s] w fun e w' => e = .returned (.tuple #[.agg (sc (mv v p s n) (mp v p s n) (mn p s n)), .int .i64 (ef p n)]) ∧ Below w.heap.size w w' := by
  cases h : okf p n
  · have := more_no v p s n w h
    unfold mv mp mn ef
    simpa [h] using this
  · have := more_ok v p s n w h hn hs
    unfold mv mp mn ef
    simpa [h] using this
theorem names (x : V4) (p a b : ByteArray) (n : Int) (ha : a.size ≤ 140737488351232) (hb : b.size ≤ 140737488351232) (hn : n ≤ 4611686018427387904) :
    ∃ (V1 V2 V3 : V4) (P1 P2 P3 : ByteArray) (N1 N2 N3 e1 e2 e3 : Int),
      (∀ u, Calls Try.prog 6 #[.agg (sc x p n), .string a] u fun e w' => e = .returned (.tuple #[.agg (sc V1 P1 N1), .int .i64 e1]) ∧ Below u.heap.size u w') ∧
      (∀ u, Calls Try.prog 6 #[.agg (sc V1 P1 N1), .string b] u fun e w' => e = .returned (.tuple #[.agg (sc V2 P2 N2), .int .i64 e2]) ∧ Below u.heap.size u w') ∧
      (∀ u, Calls Try.prog 6 #[.agg (sc x p n), .string (a ++ b)] u fun e w' => e = .returned (.tuple #[.agg (sc V3 P3 N3), .int .i64 e3]) ∧ Below u.heap.size u w') ∧
      (e1 = 0 → e2 = 0 ∧ e3 = 0 ∧ V2 = V3 ∧ P2 = P3 ∧ N2 = N3) := by
  have hab : (a ++ b).size = a.size + b.size := ByteArray.size_append
  have hN : mn p a n ≤ n + a.size := by unfold mn; split <;> omega
  refine ⟨_, _, _, _, _, _, _, _, _, _, _, _, fun u => more_any x p a n u (by omega) (by omega), fun u => more_any _ _ b _ u (by omega) (by omega), fun u => more_any x p (a ++ b) n u (by omega) (by omega), fun h => ?_⟩
  have ho : okf p n = true := by
    cases h' : okf p n
    · rw [ef_f h'] at h; cases h
    · rfl
  have h1 : mv x p a n = ev x p a := by unfold mv; rw [if_pos ho]
  have h2 : mp x p a n = ep x p a := by unfold mp; rw [if_pos ho]
  have h3 : mn p a n = n + a.size := by unfold mn; rw [if_pos ho]
  rw [h1, h2, h3]
  have h4 : okf (ep x p a) (n + a.size) = true := okf_more ho
  refine ⟨ef_t h4, ef_t ho, ?_, ?_, ?_⟩
  · unfold mv; rw [if_pos h4, if_pos ho, ev_app]
  · unfold mp; rw [if_pos h4, if_pos ho, ep_app]
  · unfold mn; rw [if_pos h4, if_pos ho, hab]; omega
theorem names2 (k l : UInt64) (a b : ByteArray) (ha : a.size ≤ 140737488351232) (hb : b.size ≤ 140737488351232) :
    ∃ (v0 A1 A2 : V4) (Q1 Q2 : ByteArray) (M1 M2 : Int) (r : UInt64),
      (∀ u, Calls Try.prog 10 #[.agg #[nm k, nm l]] u fun e w' => e = .returned (.agg (sc v0 ⟨#[]⟩ 0)) ∧ Below u.heap.size u w') ∧
      (∀ u, Calls Try.prog 6 #[.agg (sc v0 ⟨#[]⟩ 0), .string a] u fun e w' => e = .returned (.tuple #[.agg (sc A1 Q1 M1), .int .i64 0]) ∧ Below u.heap.size u w') ∧
      (∀ u, Calls Try.prog 6 #[.agg (sc A1 Q1 M1), .string b] u fun e w' => e = .returned (.tuple #[.agg (sc A2 Q2 M2), .int .i64 0]) ∧ Below u.heap.size u w') ∧
      (∀ u, Calls Try.prog 8 #[.agg (sc A2 Q2 M2)] u fun e w' => e = .returned (.tuple #[nm r, .int .i64 0]) ∧ Below u.heap.size u w') ∧
      (∀ u, Calls Try.prog 12 #[.agg #[nm k, nm l], .string (a ++ b)] u fun e w' => e = .returned (nm r) ∧ Below u.heap.size u w') := by
  have hab : (a ++ b).size = a.size + b.size := ByteArray.size_append
  have h1 : okf (ep (bgn k l) ⟨#[]⟩ a) (0 + (a.size : Int)) = true := okf_more okf_zero
  have h2 : okf (ep (ev (bgn k l) ⟨#[]⟩ a) (ep (bgn k l) ⟨#[]⟩ a) b) (0 + (a.size : Int) + b.size) = true := okf_more h1
  refine ⟨_, _, _, _, _, _, _, _, begin_any k l, fun u => more_ok (bgn k l) ⟨#[]⟩ a 0 u okf_zero (by omega) (by omega), fun u => more_ok _ _ b _ u h1 (by omega) (by omega), fun u => end_ok _ _ _ u h2, fun u => ?_⟩
  have := of_any k l (a ++ b) u (by omega)
  unfold ofv at this
  rw [ev_app, ep_app, show (0 + (a.size : Int) + b.size) = ((a ++ b).size : Int) by omega]
  exact this
set_option maxHeartbeats 8000000 in
theorem cuts_any (k l : UInt64) (x : V4) (p a b : ByteArray) (n : Int) (w : World) (ha : a.size ≤ 140737488351232) (hb : b.size ≤ 140737488351232) :
    Calls Try.prog 4 #[.agg #[nm k, nm l], .agg (sc x p n), .string a, .string b] w fun e w' => e = .returned (.bool true) ∧ Below w.heap.size w w' := by
  have X0 : Blk ((w.alloc (.cells #[nm k, nm l] 24)).alloc (.cells (sc x p n) 27)) w.heap.size #[nm k, nm l] 24 := (Blk.new _ _ _).alloc _
  have Y0 : Blk ((w.alloc (.cells #[nm k, nm l] 24)).alloc (.cells (sc x p n) 27)) (w.heap.size + 1) (sc x p n) 27 := Blk.newAt _ _ _ (by simp)
  have B0 := ((Below.refl w.heap.size w).alloc (Nat.le_refl _) (.cells #[nm k, nm l] 24)).alloc (by simp) (.cells (sc x p n) 27)
  by_cases hn : n ≤ 4611686018427387904
  · obtain ⟨V1, V2, V3, P1, P2, P3, N1, N2, N3, e1, e2, e3, C1, C2, C3, HX⟩ := names x p a b n ha hb hn
    obtain ⟨v0, A1, A2, Q1, Q2, M1, M2, r, D1, D2, D3, D4, D5⟩ := names2 k l a b ha hb
    have hab : (a ++ b).size = a.size + b.size := ByteArray.size_append
    replace HX : Hid _ := HX
    go_enter Try.func4, Try.ntmps4
    go_upto_region 1 with fail
    refine gen2 (p := fun W => Code.wp _ _ _ _ W) X0 Y0 B0 ?_
    clear X0 Y0 B0
    intro W X Y B
    go_wp2_with fail
    refine (lives_any _).mono ?_
    rintro e W1 ⟨rfl, z⟩
    replace X := X.below z X.lt
    replace Y := Y.below z Y.lt
    replace B := B.trans (z.mono (Below.size B))
    clear z
    have cy := Y.cell
    go_wp2_with (refine blk_load _ rfl 27 _ rfl _ rfl _ _ Y _ Try.underlying27 rfl 6 sp_info rfl ?_)
    clear cy
    refine (C1 _).mono ?_
    rintro e W2 ⟨rfl, z⟩
    replace X := X.below z X.lt
    replace Y := Y.below z Y.lt
    replace B := B.trans (z.mono (Below.size B))
    clear z
    go_upto_region 4 with (refine blk_store _ rfl 27 _ _ rfl W2.heap.size (sc V1 P1 N1) rfl rfl _ _ (Blk.new W2 ZS 27) 6 sp_info rfl rfl (sp_one _ _ _ _ _ _) ?_; intro W3 K1 p3)
    have d := p3.below ((Below.refl W2.heap.size W2).alloc (Nat.le_refl _) (.cells ZS 27)) (Nat.le_refl _)
    replace X := X.below d X.lt
    replace Y := Y.below d Y.lt
    replace B := B.trans (d.mono (Below.size B))
    clear d p3
    generalize W2.heap.size = g3 at *
    go_wp2_with (refine blk_load _ rfl 27 _ rfl _ rfl _ _ K1 _ Try.underlying27 rfl 6 sp_info rfl ?_)
    refine (C2 _).mono ?_
    rintro e W4 ⟨rfl, z⟩
    replace X := X.below z X.lt
    replace Y := Y.below z Y.lt
    replace B := B.trans (z.mono (Below.size B))
    clear z
    clear K1
    go_upto_region 5 with (refine blk_store _ rfl 27 _ _ rfl W4.heap.size (sc V2 P2 N2) rfl rfl _ _ (Blk.new W4 ZS 27) 6 sp_info rfl rfl (sp_one _ _ _ _ _ _) ?_; intro W5 K2 p5)
    have d := p5.below ((Below.refl W4.heap.size W4).alloc (Nat.le_refl _) (.cells ZS 27)) (Nat.le_refl _)
    replace X := X.below d X.lt
    replace Y := Y.below d Y.lt
    replace B := B.trans (d.mono (Below.size B))
    clear d p5
    generalize W4.heap.size = g5 at *
    go_wp2_with (refine blk_load _ rfl 27 _ rfl _ rfl _ _ Y _ Try.underlying27 rfl 6 sp_info rfl ?_)
    refine (C3 _).mono ?_
    rintro e W6 ⟨rfl, z⟩
    replace X := X.below z X.lt
    replace Y := Y.below z Y.lt
    replace K2 := K2.below z K2.lt
    replace B := B.trans (z.mono (Below.size B))
    clear z
    go_upto_region 6 with (refine blk_store _ rfl 27 _ _ rfl W6.heap.size (sc V3 P3 N3) rfl rfl _ _ (Blk.new W6 ZS 27) 6 sp_info rfl rfl (sp_one _ _ _ _ _ _) ?_; intro W7 K3 p7)
    have d := p7.below ((Below.refl W6.heap.size W6).alloc (Nat.le_refl _) (.cells ZS 27)) (Nat.le_refl _)
    replace X := X.below d X.lt
    replace Y := Y.below d Y.lt
    replace K2 := K2.below d K2.lt
    replace B := B.trans (d.mono (Below.size B))
    clear d p7
    generalize W6.heap.size = g7 at *
    clear Y C1 C2 C3
    have c2 := K2.cell
    have c3 := K3.cell
    by_cases he : e1 = 0
    · obtain ⟨rfl, rfl, rfl, rfl, rfl⟩ := HX.out he
      subst he
      have q1 : ∀ u, (Op.equalIn 9999 25 (.agg #[nm V2.a, nm V2.b, nm V2.c, nm V2.d]) (.agg #[nm V2.a, nm V2.b, nm V2.c, nm V2.d])).run Try.prog u = .ok true u := fun u => v4_same V2 9997 u
      go_upto_region 8 with fail
      clear c2 c3 q1 K2 K3 HX
      go_wp2_with (refine blk_load _ rfl 24 _ rfl _ rfl _ _ X _ Try.underlying24 rfl 2 sec_info rfl ?_)
      refine (D1 _).mono ?_
      rintro e W8 ⟨rfl, z⟩
      replace X := X.below z X.lt
      replace B := B.trans (z.mono (Below.size B))
      clear z
      go_wp2_with fail
      refine (D2 _).mono ?_
      rintro e W9 ⟨rfl, z⟩
      replace X := X.below z X.lt
      replace B := B.trans (z.mono (Below.size B))
      clear z
      have hlt := X.lt
      go_upto_region 9 with (refine blk_store _ rfl 27 _ _ rfl W9.heap.size (sc A1 Q1 M1) rfl rfl _ _ (Blk.new W9 ZS 27) 6 sp_info rfl rfl (sp_one _ _ _ _ _ _) ?_; intro W10 K5 p10)
      have d := p10.below ((Below.refl W9.heap.size W9).alloc (Nat.le_refl _) (.cells ZS 27)) (Nat.le_refl _)
      replace X := X.below d X.lt
      replace B := B.trans (d.mono (Below.size B))
      clear d p10
      generalize W9.heap.size = g10 at *
      go_wp2_with (refine blk_load _ rfl 27 _ rfl _ rfl _ _ K5 _ Try.underlying27 rfl 6 sp_info rfl ?_)
      refine (D3 _).mono ?_
      rintro e W11 ⟨rfl, z⟩
      replace X := X.below z X.lt
      replace K5 := K5.below z K5.lt
      replace B := B.trans (z.mono (Below.size B))
      clear z
      go_upto_region 10 with (refine blk_store _ rfl 27 _ _ rfl _ (sc A2 Q2 M2) rfl rfl _ _ K5 6 sp_info rfl rfl (sp_one _ _ _ _ _ _) ?_; intro W12 K6 p12)
      replace X := p12.blk X (by omega)
      replace B := p12.below B (by omega)
      clear K5 p12
      go_wp2_with (refine blk_load _ rfl 27 _ rfl _ rfl _ _ K6 _ Try.underlying27 rfl 6 sp_info rfl ?_)
      refine (D4 _).mono ?_
      rintro e W13 ⟨rfl, z⟩
      replace X := X.below z X.lt
      replace B := B.trans (z.mono (Below.size B))
      clear z
      clear K6
      have cx := X.cell
      go_wp2_with fail
      refine (D5 _).mono ?_
      rintro e W14 ⟨rfl, z⟩
      replace B := B.trans (z.mono (Below.size B))
      go_wp2_with fail
      go_ret
      exact ⟨rfl, B⟩
    · clear HX
      go_upto_region 8 with fail
      clear c2 c3 K2 K3
      go_wp2_with (refine blk_load _ rfl 24 _ rfl _ rfl _ _ X _ Try.underlying24 rfl 2 sec_info rfl ?_)
      refine (D1 _).mono ?_
      rintro e W15 ⟨rfl, z⟩
      replace X := X.below z X.lt
      replace B := B.trans (z.mono (Below.size B))
      clear z
      go_wp2_with fail
      refine (D2 _).mono ?_
      rintro e W16 ⟨rfl, z⟩
      replace X := X.below z X.lt
      replace B := B.trans (z.mono (Below.size B))
      clear z
      have hlt := X.lt
      go_upto_region 9 with (refine blk_store _ rfl 27 _ _ rfl W16.heap.size (sc A1 Q1 M1) rfl rfl _ _ (Blk.new W16 ZS 27) 6 sp_info rfl rfl (sp_one _ _ _ _ _ _) ?_; intro W17 K5 p17)
      have d := p17.below ((Below.refl W16.heap.size W16).alloc (Nat.le_refl _) (.cells ZS 27)) (Nat.le_refl _)
      replace X := X.below d X.lt
      replace B := B.trans (d.mono (Below.size B))
      clear d p17
      generalize W16.heap.size = g17 at *
      go_wp2_with (refine blk_load _ rfl 27 _ rfl _ rfl _ _ K5 _ Try.underlying27 rfl 6 sp_info rfl ?_)
      refine (D3 _).mono ?_
      rintro e W18 ⟨rfl, z⟩
      replace X := X.below z X.lt
      replace K5 := K5.below z K5.lt
      replace B := B.trans (z.mono (Below.size B))
      clear z
      go_upto_region 10 with (refine blk_store _ rfl 27 _ _ rfl _ (sc A2 Q2 M2) rfl rfl _ _ K5 6 sp_info rfl rfl (sp_one _ _ _ _ _ _) ?_; intro W19 K6 p19)
      replace X := p19.blk X (by omega)
      replace B := p19.below B (by omega)
      clear K5 p19
      go_wp2_with (refine blk_load _ rfl 27 _ rfl _ rfl _ _ K6 _ Try.underlying27 rfl 6 sp_info rfl ?_)
      refine (D4 _).mono ?_
      rintro e W20 ⟨rfl, z⟩
      replace X := X.below z X.lt
      replace B := B.trans (z.mono (Below.size B))
      clear z
      clear K6
      have cx := X.cell
      go_wp2_with fail
      refine (D5 _).mono ?_
      rintro e W21 ⟨rfl, z⟩
      replace B := B.trans (z.mono (Below.size B))
      go_wp2_with fail
      go_ret
      exact ⟨rfl, B⟩
  · go_enter Try.func4, Try.ntmps4
    go_upto_region 1 with fail
    refine gen2 (p := fun W => Code.wp _ _ _ _ W) X0 Y0 B0 ?_
    clear X0 Y0 B0
    intro W X Y B
    go_wp2_with fail
    refine (lives_any _).mono ?_
    rintro e W22 ⟨rfl, z⟩
    replace X := X.below z X.lt
    replace Y := Y.below z Y.lt
    replace B := B.trans (z.mono (Below.size B))
    clear z
    have cy := Y.cell
    go_wp2_with fail
    clear cy
    refine (lives_any _).mono ?_
    rintro e W23 ⟨rfl, z⟩
    replace X := X.below z X.lt
    replace Y := Y.below z Y.lt
    replace B := B.trans (z.mono (Below.size B))
    clear z
    go_wp2_with fail
    go_ret
    exact ⟨rfl, B⟩
end Go.Proofs.Ythdplonfhhnpaaa.sipc
