/- Plain mathematics of a hop: behind it a packet is read as it was, but for a Life one less. -/
import Derived.Test.YtedbjhpajpakpaaDoorIpHop
namespace Go.Proofs.YtedbjhpajpakpaaDoor.iphm
open Go.Proofs.YtedbjhpajpakpaaDoor.EM Go.Proofs.YtedbjhpajpakpaaDoor.ethb Go.Proofs.YtedbjhpajpakpaaDoor.SM Go.Proofs.YtedbjhpajpakpaaDoor.ipb Go.Proofs.YtedbjhpajpakpaaDoor.ipm Go.Proofs.YtedbjhpajpakpaaDoor.iph Go.Proofs.YtedbjhpajpakpaaDoor.ipw

theorem bt_list {s : ByteArray} {l : List UInt8} {n k : Nat} (h : s.data.toList.take n = l) (hk : k < n) : bt s k = ((l.getD k 0).toNat : Int) := by
  unfold bt
  rw [← h, List.getD_eq_getElem?_getD, List.getD_eq_getElem?_getD, List.getElem?_take, if_pos hk]
/-- twenty bytes of a head, Life one less, another CHECK -/
theorem hop_list {s : ByteArray} (h : ire s = 0) (h8 : 2 ≤ bt s 8) : ∃ b0 b1 b2 b3 b4 b5 b6 b7 x b9 c0 c1 d0 d1 d2 d3 d4 d5 d6 d7 r,
    s.data.toList.take (an s) = b0 :: b1 :: b2 :: b3 :: b4 :: b5 :: b6 :: b7 :: x :: b9 :: c0 :: c1 :: d0 :: d1 :: d2 :: d3 :: d4 :: d5 :: d6 :: d7 :: r ∧
    hopl s = b0 :: b1 :: b2 :: b3 :: b4 :: b5 :: b6 :: b7 :: b8 ((x.toNat : Int) - 1) :: b9 :: hi8 (fixed s) :: lo8 (fixed s) :: d0 :: d1 :: d2 :: d3 :: d4 :: d5 :: d6 :: d7 :: r := by
  have R := red h
  have z := R.z; have h0 := R.h0; have ha := R.ha; have a := R.a
  obtain ⟨b0, b1, b2, b3, b4, b5, b6, b7, x, b9, c0, c1, d0, d1, d2, d3, d4, d5, d6, d7, r, e⟩ := list20 (s.data.toList.take (an s)) (by rw [List.length_take, size_list]; omega)
  refine ⟨b0, b1, b2, b3, b4, b5, b6, b7, x, b9, c0, c1, d0, d1, d2, d3, d4, d5, d6, d7, r, e, ?_⟩
  have e8 : bt s 8 = (x.toNat : Int) := by rw [bt_list e (by omega)]; rfl
  have e9 : bt s 9 = (b9.toNat : Int) := by rw [bt_list e (by omega)]; rfl
  have w8 : wd s 8 = 256 * (x.toNat : Int) + (b9.toNat : Int) := by unfold wd; rw [e8, e9]
  have x1 := byte_bd x
  have x2 := byte_bd b9
  have q1 : hi8 (wd s 8 - 256) = b8 ((x.toNat : Int) - 1) := byte_eq (by rw [hi8_at _ (by omega) (by omega), b8_at]; omega)
  have q2 : lo8 (wd s 8 - 256) = b9 := byte_eq (by rw [lo8_at]; omega)
  unfold hopl putw
  rw [e, q1, q2]
  simp only [List.set_cons_succ, List.set_cons_zero]
theorem hop_read {s : ByteArray} (h : ire s = 0) (h8 : 2 ≤ bt s 8) : ire ⟨(hopl s).toArray⟩ = 0 ∧ rdp ⟨(hopl s).toArray⟩ = { rdp s with li := (rdp s).li - 1 } := by
  have R := red h
  have z := R.z; have hn0 := R.h0; have ha := R.ha; have a := R.a; have hn1 := R.h1
  have fb := fixed_bd s h8
  obtain ⟨b0, b1, b2, b3, b4, b5, b6, b7, x, b9, c0, c1, d0, d1, d2, d3, d4, d5, d6, d7, r, e, e'⟩ := hop_list h h8
  have S : ∀ k, k < 20 → bt s k = (((b0 :: b1 :: b2 :: b3 :: b4 :: b5 :: b6 :: b7 :: x :: b9 :: c0 :: c1 :: d0 :: d1 :: d2 :: d3 :: d4 :: d5 :: d6 :: d7 :: r).getD k 0).toNat : Int) := fun k hk => bt_list e (by omega)
  have T : ∀ k, bt ⟨(hopl s).toArray⟩ k = (((hopl s).getD k 0).toNat : Int) := fun k => btl _ _
  have x1 := byte_bd x
  have hx : bt s 8 = (x.toNat : Int) := S 8 (by omega)
  have same : ∀ k, k < 20 → k ≠ 8 → k ≠ 10 → k ≠ 11 → bt ⟨(hopl s).toArray⟩ k = bt s k := by
    intro k hk n8 n10 n11
    rw [T, S k hk, e']
    match k, hk with
    | 0, _ | 1, _ | 2, _ | 3, _ | 4, _ | 5, _ | 6, _ | 7, _ | 9, _ | 12, _ | 13, _ | 14, _ | 15, _ | 16, _ | 17, _ | 18, _ | 19, _ => rfl
    | 8, _ => exact absurd rfl n8
    | 10, _ => exact absurd rfl n10
    | 11, _ => exact absurd rfl n11
    | k + 20, hk => exact absurd hk (by omega)
  have t8 : bt ⟨(hopl s).toArray⟩ 8 = bt s 8 - 1 := by
    rw [T, e', hx]
    show (((b8 ((x.toNat : Int) - 1)).toNat : Nat) : Int) = _
    rw [b8_at]; omega
  have w0 : ∀ k, k + 1 < 20 → k ≠ 7 → k ≠ 8 → k ≠ 9 → k ≠ 10 → k ≠ 11 → wd ⟨(hopl s).toArray⟩ k = wd s k := by
    intro k hk _ _ _ _ _
    unfold wd
    rw [same k (by omega) (by omega) (by omega) (by omega), same (k + 1) (by omega) (by omega) (by omega) (by omega)]
  have ehn : hn ⟨(hopl s).toArray⟩ = hn s := by unfold hn; rw [same 0 (by omega) (by omega) (by omega) (by omega)]
  have ean : an ⟨(hopl s).toArray⟩ = an s := by unfold an; rw [w0 2 (by omega) (by omega) (by omega) (by omega) (by omega) (by omega)]
  have zl : (hopl s).length = an s := by
    have := congrArg List.length e
    rw [List.length_take, size_list] at this
    rw [e']
    simp only [List.length_cons] at this ⊢
    omega
  have zc : (⟨(hopl s).toArray⟩ : ByteArray).size = an s := by rw [← zl]; simp [ByteArray.size]
  obtain ⟨m, hm⟩ : ∃ m, hn s = m + 20 := ⟨hn s - 20, by omega⟩
  obtain ⟨q, hq⟩ : ∃ q, an s = q + 20 := ⟨an s - 20, by omega⟩
  have tk : s.data.toList.take (hn s) = (s.data.toList.take (an s)).take (hn s) := by rw [List.take_take, Nat.min_eq_left ha]
  have eo : (⟨(hopl s).toArray⟩ : ByteArray).extract 20 (hn s) = s.extract 20 (hn s) := by
    apply bytes_ext
    rw [ext_list, ext_list, tk, e, hm]
    show ((hopl s).take (m + 20)).drop 20 = _
    rw [e']
    simp only [List.take_succ_cons, List.drop_succ_cons, List.drop_zero]
  have ed : (⟨(hopl s).toArray⟩ : ByteArray).extract (hn s) (an s) = s.extract (hn s) (an s) := by
    apply bytes_ext
    rw [ext_list, ext_list, e, hm, hq]
    show ((hopl s).take (q + 20)).drop (m + 20) = _
    rw [e']
    have hr : r.take q = r := by
      have := congrArg List.length e
      rw [List.length_take, size_list] at this
      simp only [List.length_cons] at this
      exact List.take_of_length_le (by omega)
    simp only [List.take_succ_cons, List.drop_succ_cons, hr]
  have er : rdp ⟨(hopl s).toArray⟩ = { rdp s with li := (rdp s).li - 1 } := by
    simp only [rdp]
    rw [ehn, ean, eo, ed, t8, same 1 (by omega) (by omega) (by omega) (by omega), same 9 (by omega) (by omega) (by omega) (by omega), w0 4 (by omega) (by omega) (by omega) (by omega) (by omega) (by omega), w0 6 (by omega) (by omega) (by omega) (by omega) (by omega) (by omega),
      w0 12 (by omega) (by omega) (by omega) (by omega) (by omega) (by omega), w0 14 (by omega) (by omega) (by omega) (by omega) (by omega) (by omega), w0 16 (by omega) (by omega) (by omega) (by omega) (by omega) (by omega), w0 18 (by omega) (by omega) (by omega) (by omega) (by omega) (by omega)]
  have ok := R.ok
  have ok' : (rdp ⟨(hopl s).toArray⟩).err = 0 := by
    rw [er]
    have li : (rdp s).li = bt s 8 := rfl
    have := ok.li1
    exact Pk.Ok.err ⟨ok.tos0, ok.tos1, by show (0 : Int) ≤ (rdp s).li - 1; omega, by show (rdp s).li - 1 ≤ (255 : Int); omega, ok.pr0, ok.pr1, ok.id0, ok.id1, ok.st0, ok.st1, ok.o1, ok.o4, ok.form, ok.all⟩
  have sum : wsum 0 ((⟨(hopl s).toArray⟩ : ByteArray).data.toList.take (hn s)) = 65535 := by
    have s0 := R.sum
    show wsum 0 ((hopl s).take (hn s)) = 65535
    rw [tk, e, hm] at s0
    rw [e', hm]
    simp only [List.take_succ_cons] at s0 ⊢
    have w10 : wd s 10 = 256 * (c0.toNat : Int) + (c1.toNat : Int) := by unfold wd; rw [S 10 (by omega), S 11 (by omega)]; rfl
    have w8 : wd s 8 = 256 * (x.toNat : Int) + (b9.toNat : Int) := by unfold wd; rw [S 8 (by omega), S 9 (by omega)]; rfl
    have F1 : fixed s = 65535 - ea (ea (65535 - wd s 10) (65535 - wd s 8)) (wd s 8 - 256) := rfl
    have wf := word_of (fixed s) fb.1 fb.2
    have xb : ((b8 ((x.toNat : Int) - 1)).toNat : Int) = (x.toNat : Int) - 1 := by rw [b8_at]; omega
    rw [wsum_norm _ _ (by omega) (by omega)] at s0 ⊢
    simp only [pw] at s0 ⊢
    rw [xb]
    have p1 := pw_nonneg (r.take m)
    generalize pw (r.take m) = P at s0 p1 ⊢
    have y0 := byte_bd b0; have y1 := byte_bd b1; have y2 := byte_bd b2; have y3 := byte_bd b3; have y4 := byte_bd b4; have y5 := byte_bd b5; have y6 := byte_bd b6; have y7 := byte_bd b7; have y9 := byte_bd b9
    have yc := byte_bd c0; have yd := byte_bd c1
    have v0 := byte_bd d0; have v1 := byte_bd d1; have v2 := byte_bd d2; have v3 := byte_bd d3; have v4 := byte_bd d4; have v5 := byte_bd d5; have v6 := byte_bd d6; have v7 := byte_bd d7
    have g0 := R.b0
    rw [S 0 (by omega)] at g0
    have g0 : 69 ≤ (b0.toNat : Int) := g0
    unfold ea at F1
    unfold norm at s0 ⊢
    rw [w8, w10] at F1
    generalize (hi8 (fixed s)).toNat = H at wf ⊢
    generalize (lo8 (fixed s)).toNat = L at wf ⊢
    generalize fixed s = F at wf F1 fb
    split at s0 <;> split <;> (repeat' split at F1) <;> omega
  refine ⟨?_, er⟩
  have l1 := wd_bd s 6
  unfold ire
  rw [ehn, ean, zc, sum, same 0 (by omega) (by omega) (by omega) (by omega), w0 6 (by omega) (by omega) (by omega) (by omega) (by omega) (by omega)]
  have := R.b0; have := R.b1; have := R.f
  rw [if_neg (by omega), if_neg (by omega), if_neg (by omega), if_neg (by rw [ok']; simp), if_neg (by simp)]
end Go.Proofs.YtedbjhpajpakpaaDoor.iphm
