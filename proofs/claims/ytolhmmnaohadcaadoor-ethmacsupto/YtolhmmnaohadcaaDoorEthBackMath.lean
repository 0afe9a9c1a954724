/- What is read of what was written, written of what was read, parsed of what is shown, and shown of what was parsed: plain mathematics. -/
import Derived.Test.YtolhmmnaohadcaaDoorEthCut
import Derived.Test.YtolhmmnaohadcaaDoorEthParse
namespace Go.Proofs.YtolhmmnaohadcaaDoor.ethm
open Go.Proofs.YtolhmmnaohadcaaDoor.EM Go.Proofs.YtolhmmnaohadcaaDoor.EH Go.Proofs.YtolhmmnaohadcaaDoor.ethb Go.Proofs.YtolhmmnaohadcaaDoor.ethc Go.Proofs.YtolhmmnaohadcaaDoor.ethp

theorem bt_list (l : List UInt8) (k : Nat) : bt ⟨l.toArray⟩ k = ((l.getD k 0).toNat : Int) := rfl
theorem size_list (l : List UInt8) : (⟨l.toArray⟩ : ByteArray).size = l.length := rfl
theorem end_list (l : List UInt8) (k : Nat) (d : ByteArray) (h : l.drop k = d.data.toList) : (⟨l.toArray⟩ : ByteArray).extract k (⟨l.toArray⟩ : ByteArray).size = d := by
  apply bytes_ext
  rw [end_data]
  exact h
theorem word_of (y : Int) (h0 : 0 ≤ y) (h1 : y ≤ 65535) : 256 * ((hi8 y).toNat : Int) + ((lo8 y).toNat : Int) = y := by
  rw [hi8_at y h0 h1, lo8_at y]; omega
theorem back_rd (t0 t1 t2 t3 t4 t5 f0 f1 f2 f3 f4 f5 : UInt8) (v y : Int) (d : ByteArray) (h : wre v y d.size = 0) :
    rde ⟨(wrl t0 t1 t2 t3 t4 t5 f0 f1 f2 f3 f4 f5 v y d).toArray⟩ = 0 ∧
    rdf ⟨(wrl t0 t1 t2 t3 t4 t5 f0 f1 f2 f3 f4 f5 v y d).toArray⟩ = frame t0.toNat t1.toNat t2.toNat t3.toNat t4.toNat t5.toNat f0.toNat f1.toNat f2.toNat f3.toNat f4.toNat f5.toNat v y d ∧
    (⟨(wrl t0 t1 t2 t3 t4 t5 f0 f1 f2 f3 f4 f5 v y d).toArray⟩ : ByteArray).size ≤ 65553 := by
  have hd : d.size ≤ 65535 := by unfold wre at h; (repeat' split at h) <;> omega
  have hv : -1 ≤ v ∧ v ≤ 4095 := by unfold wre at h; (repeat' split at h) <;> omega
  have hy : 0 ≤ y ∧ y ≤ 65535 := by unfold wre at h; (repeat' split at h) <;> omega
  have hf : ¬ (v = -1 ∧ y = 33024) := by unfold wre at h; (repeat' split at h) <;> omega
  have hl : d.data.toList.length = d.size := by simp
  by_cases hv1 : v = -1
  · obtain ⟨l, el⟩ : ∃ l, l = t0 :: t1 :: t2 :: t3 :: t4 :: t5 :: f0 :: f1 :: f2 :: f3 :: f4 :: f5 :: hi8 y :: lo8 y :: d.data.toList := ⟨_, rfl⟩
    have e : wrl t0 t1 t2 t3 t4 t5 f0 f1 f2 f3 f4 f5 v y d = l := by rw [el]; simp [wrl, tagl, hv1]
    have sz : l.length = 14 + d.size := by rw [el]; simp; omega
    have w12 : wd ⟨l.toArray⟩ 12 = y := by
      have := word_of y hy.1 hy.2
      unfold wd; rw [bt_list, bt_list, el]; exact this
    have r0 : rde ⟨l.toArray⟩ = 0 := by
      unfold rde
      rw [size_list, sz, w12, if_neg (by omega), if_neg (by omega), if_neg (by omega)]
    rw [e]
    refine ⟨r0, ?_, by rw [size_list, sz]; omega⟩
    unfold rdf
    rw [if_pos r0, w12, if_neg (by omega), end_list l 14 d (by rw [el]; rfl), hv1]
    unfold framed
    simp only [bt_list]
    rw [el]
    rfl
  · obtain ⟨l, el⟩ : ∃ l, l = t0 :: t1 :: t2 :: t3 :: t4 :: t5 :: f0 :: f1 :: f2 :: f3 :: f4 :: f5 :: 129 :: 0 :: hi8 v :: lo8 v :: hi8 y :: lo8 y :: d.data.toList := ⟨_, rfl⟩
    have e : wrl t0 t1 t2 t3 t4 t5 f0 f1 f2 f3 f4 f5 v y d = l := by rw [el]; simp [wrl, tagl, hv1]
    have sz : l.length = 18 + d.size := by rw [el]; simp; omega
    have w12 : wd ⟨l.toArray⟩ 12 = 33024 := by
      unfold wd; rw [bt_list, bt_list, el]; rfl
    have w14 : wd ⟨l.toArray⟩ 14 = v := by
      have := word_of v (by omega) (by omega)
      unfold wd; rw [bt_list, bt_list, el]; exact this
    have w16 : wd ⟨l.toArray⟩ 16 = y := by
      have := word_of y hy.1 hy.2
      unfold wd; rw [bt_list, bt_list, el]; exact this
    have r0 : rde ⟨l.toArray⟩ = 0 := by
      unfold rde
      rw [size_list, sz, w12, w14, if_neg (by omega), if_pos rfl, if_neg (by omega), if_neg (by omega), if_neg (by omega)]
    rw [e]
    refine ⟨r0, ?_, by rw [size_list, sz]; omega⟩
    unfold rdf
    rw [if_pos r0, w12, w14, w16, if_pos rfl, end_list l 18 d (by rw [el]; rfl)]
    unfold framed
    simp only [bt_list]
    rw [el]
    rfl

theorem hi_back (a b : UInt8) : hi8 (256 * (a.toNat : Int) + (b.toNat : Int)) = a := by
  apply UInt8.toNat_inj.1
  have := hi8_at (256 * (a.toNat : Int) + (b.toNat : Int)) (by omega) (by have := a.toNat_lt; have := b.toNat_lt; omega)
  have := b.toNat_lt
  omega
theorem lo_back (a b : UInt8) : lo8 (256 * (a.toNat : Int) + (b.toNat : Int)) = b := by
  apply UInt8.toNat_inj.1
  have := lo8_at (256 * (a.toNat : Int) + (b.toNat : Int))
  have := b.toNat_lt
  omega
theorem split14 (l : List UInt8) (h : 14 ≤ l.length) : l = [l.getD 0 0, l.getD 1 0, l.getD 2 0, l.getD 3 0, l.getD 4 0, l.getD 5 0, l.getD 6 0, l.getD 7 0, l.getD 8 0, l.getD 9 0, l.getD 10 0, l.getD 11 0] ++ ([l.getD 12 0, l.getD 13 0] ++ l.drop 14) := by
  match l, h with
  | a0 :: a1 :: a2 :: a3 :: a4 :: a5 :: a6 :: a7 :: a8 :: a9 :: a10 :: a11 :: a12 :: a13 :: r, _ => rfl
theorem getD_drop (l : List UInt8) (a k : Nat) : (l.drop a).getD k 0 = l.getD (a + k) 0 := by
  rw [List.getD_eq_getElem?_getD, List.getD_eq_getElem?_getD, List.getElem?_drop]
theorem split4 (l : List UInt8) (h : 4 ≤ l.length) : l = [l.getD 0 0, l.getD 1 0] ++ ([l.getD 2 0, l.getD 3 0] ++ l.drop 4) := by
  match l, h with
  | a0 :: a1 :: a2 :: a3 :: r, _ => rfl
theorem split3 (l : List UInt8) (h : l.length = 3) : l = [l.getD 0 0, l.getD 1 0, l.getD 2 0] := by
  match l, h with
  | [a0, a1, a2], _ => rfl
theorem split18 (l : List UInt8) (h : 18 ≤ l.length) : l = [l.getD 0 0, l.getD 1 0, l.getD 2 0, l.getD 3 0, l.getD 4 0, l.getD 5 0, l.getD 6 0, l.getD 7 0, l.getD 8 0, l.getD 9 0, l.getD 10 0, l.getD 11 0] ++ ([l.getD 12 0, l.getD 13 0, l.getD 14 0, l.getD 15 0] ++ ([l.getD 16 0, l.getD 17 0] ++ l.drop 18)) := by
  have e := split4 (l.drop 14) (by simp; omega)
  rw [getD_drop, getD_drop, getD_drop, getD_drop, List.drop_drop] at e
  have f := split14 l (by omega)
  rw [e] at f
  exact f
theorem wd_hi (s : ByteArray) (k : Nat) : hi8 (wd s k) = by8 s k := hi_back _ _
theorem wd_lo (s : ByteArray) (k : Nat) : lo8 (wd s k) = by8 s (k + 1) := lo_back _ _
theorem back_wr (s : ByteArray) (h : rde s = 0) : ∃ (v y : Int) (D : ByteArray), rdf s = framed s v y D ∧ wre v y D.size = 0 ∧
    wrl (by8 s 0) (by8 s 1) (by8 s 2) (by8 s 3) (by8 s 4) (by8 s 5) (by8 s 6) (by8 s 7) (by8 s 8) (by8 s 9) (by8 s 10) (by8 s 11) v y D = s.data.toList := by
  have h0 : ¬ s.size < 14 := fun c => by simp [rde, c] at h
  have hl : s.data.toList.length = s.size := by simp
  by_cases ht : wd s 12 = 33024
  · have h1 : ¬ s.size < 18 := fun c => by simp [rde, h0, ht, c] at h
    have h2 : ¬ 4095 < wd s 14 := fun c => by simp [rde, h0, ht, h1, c] at h
    have h3 : ¬ 65553 < s.size := fun c => by simp [rde, h0, ht, h1, h2, c] at h
    have b14 := wd_bd s 14
    have b16 := wd_bd s 16
    refine ⟨wd s 14, wd s 16, s.extract 18 s.size, ?_, ?_, ?_⟩
    · unfold rdf; rw [if_pos h, if_pos ht]
    · unfold wre; rw [end_size, if_neg (by omega), if_neg (by omega), if_neg (by omega)]
    · have e12 : (129 : UInt8) = by8 s 12 := by rw [← wd_hi, ht]; rfl
      have e13 : (0 : UInt8) = by8 s 13 := by rw [← wd_lo, ht]; rfl
      unfold wrl tagl
      rw [if_neg (by omega), end_data, wd_hi, wd_lo, wd_hi, wd_lo, e12, e13]
      exact (split18 s.data.toList (by omega)).symm
  · have h3 : ¬ 65549 < s.size := fun c => by simp [rde, h0, ht, c] at h
    have b12 := wd_bd s 12
    refine ⟨-1, wd s 12, s.extract 14 s.size, ?_, ?_, ?_⟩
    · unfold rdf; rw [if_pos h, if_neg ht]
    · unfold wre; rw [end_size, if_neg (by omega), if_neg (by omega), if_neg (by omega)]
    · unfold wrl tagl
      rw [if_pos rfl, end_data, wd_hi, wd_lo]
      exact (split14 s.data.toList (by omega)).symm

theorem six {p : Nat → Prop} (h0 : p 0) (h1 : p 1) (h2 : p 2) (h3 : p 3) (h4 : p 4) (h5 : p 5) : ∀ j, j < 6 → p j := by
  intro j hj
  have hj6 : j = 0 ∨ j = 1 ∨ j = 2 ∨ j = 3 ∨ j = 4 ∨ j = 5 := by omega
  rcases hj6 with rfl | rfl | rfl | rfl | rfl | rfl <;> assumption
theorem dig_ok (m : UInt8) : 0 ≤ dx (dig (m.toNat / 16)) ∧ 0 ≤ dx (dig (m.toNat % 16)) ∧ 16 * dx (dig (m.toNat / 16)) + dx (dig (m.toNat % 16)) = (m.toNat : Int) := by
  have := m.toNat_lt
  rw [dx_dig _ (by omega), dx_dig _ (by omega)]
  omega
theorem vs (s : ByteArray) (j : Nat) (a b : UInt8) (h1 : by8 s (3 * j) = a) (h2 : by8 s (3 * j + 1) = b) : vD s j = 16 * dx a + dx b := by unfold vD; rw [h1, h2]
theorem oks (s : ByteArray) (j : Nat) (a b : UInt8) (h0 : 0 < j → by8 s (3 * j - 1) = 58) (h1 : by8 s (3 * j) = a) (h2 : by8 s (3 * j + 1) = b) (ha : 0 ≤ dx a) (hb : 0 ≤ dx b) : okD s j := by
  refine ⟨fun hj => ?_, by rw [h1]; exact ha, by rw [h2]; exact hb⟩
  rw [bt_by, h0 hj]; rfl
theorem parse17 (a0 a1 a2 a3 a4 a5 a6 a7 a8 a9 a10 a11 : UInt8) (s : ByteArray) (hs : s = ⟨([a0, a1, 58, a2, a3, 58, a4, a5, 58, a6, a7, 58, a8, a9, 58, a10, a11]).toArray⟩) (h0 : 0 ≤ dx a0) (h1 : 0 ≤ dx a1) (h2 : 0 ≤ dx a2) (h3 : 0 ≤ dx a3) (h4 : 0 ≤ dx a4) (h5 : 0 ≤ dx a5) (h6 : 0 ≤ dx a6) (h7 : 0 ≤ dx a7) (h8 : 0 ≤ dx a8) (h9 : 0 ≤ dx a9) (h10 : 0 ≤ dx a10) (h11 : 0 ≤ dx a11) : aok s ∧ pa s 6 = #[.int .u8 (16 * dx a0 + dx a1), .int .u8 (16 * dx a2 + dx a3), .int .u8 (16 * dx a4 + dx a5), .int .u8 (16 * dx a6 + dx a7), .int .u8 (16 * dx a8 + dx a9), .int .u8 (16 * dx a10 + dx a11)] := by
  subst hs
  have v0 := vs ⟨([a0, a1, 58, a2, a3, 58, a4, a5, 58, a6, a7, 58, a8, a9, 58, a10, a11]).toArray⟩ 0 a0 a1 rfl rfl
  have v1 := vs ⟨([a0, a1, 58, a2, a3, 58, a4, a5, 58, a6, a7, 58, a8, a9, 58, a10, a11]).toArray⟩ 1 a2 a3 rfl rfl
  have v2 := vs ⟨([a0, a1, 58, a2, a3, 58, a4, a5, 58, a6, a7, 58, a8, a9, 58, a10, a11]).toArray⟩ 2 a4 a5 rfl rfl
  have v3 := vs ⟨([a0, a1, 58, a2, a3, 58, a4, a5, 58, a6, a7, 58, a8, a9, 58, a10, a11]).toArray⟩ 3 a6 a7 rfl rfl
  have v4 := vs ⟨([a0, a1, 58, a2, a3, 58, a4, a5, 58, a6, a7, 58, a8, a9, 58, a10, a11]).toArray⟩ 4 a8 a9 rfl rfl
  have v5 := vs ⟨([a0, a1, 58, a2, a3, 58, a4, a5, 58, a6, a7, 58, a8, a9, 58, a10, a11]).toArray⟩ 5 a10 a11 rfl rfl
  refine ⟨six (oks _ 0 a0 a1 (fun h => absurd h (by omega)) rfl rfl h0 h1) (oks _ 1 a2 a3 (fun _ => rfl) rfl rfl h2 h3) (oks _ 2 a4 a5 (fun _ => rfl) rfl rfl h4 h5) (oks _ 3 a6 a7 (fun _ => rfl) rfl rfl h6 h7) (oks _ 4 a8 a9 (fun _ => rfl) rfl rfl h8 h9) (oks _ 5 a10 a11 (fun _ => rfl) rfl rfl h10 h11), ?_⟩
  simp [pa, List.range_succ, v0, v1, v2, v3, v4, v5]
theorem back_parse (m0 m1 m2 m3 m4 m5 : UInt8) : (⟨(shl m0 m1 m2 m3 m4 m5).toArray⟩ : ByteArray).size = 17 ∧ aok ⟨(shl m0 m1 m2 m3 m4 m5).toArray⟩ ∧
    pa ⟨(shl m0 m1 m2 m3 m4 m5).toArray⟩ 6 = #[.int .u8 (m0.toNat : Int), .int .u8 (m1.toNat : Int), .int .u8 (m2.toNat : Int), .int .u8 (m3.toNat : Int), .int .u8 (m4.toNat : Int), .int .u8 (m5.toNat : Int)] := by
  have d0 := dig_ok m0
  have d1 := dig_ok m1
  have d2 := dig_ok m2
  have d3 := dig_ok m3
  have d4 := dig_ok m4
  have d5 := dig_ok m5
  have h := parse17 (dig (m0.toNat / 16)) (dig (m0.toNat % 16)) (dig (m1.toNat / 16)) (dig (m1.toNat % 16)) (dig (m2.toNat / 16)) (dig (m2.toNat % 16)) (dig (m3.toNat / 16)) (dig (m3.toNat % 16)) (dig (m4.toNat / 16)) (dig (m4.toNat % 16)) (dig (m5.toNat / 16)) (dig (m5.toNat % 16)) ⟨(shl m0 m1 m2 m3 m4 m5).toArray⟩ (by simp [shl, two]) d0.1 d0.2.1 d1.1 d1.2.1 d2.1 d2.2.1 d3.1 d3.2.1 d4.1 d4.2.1 d5.1 d5.2.1
  rw [d0.2.2, d1.2.2, d2.2.2, d3.2.2, d4.2.2, d5.2.2] at h
  exact ⟨by rw [size_list]; simp [shl, two], h⟩
/-- the address' byte j in s -/
def xD (s : ByteArray) (j : Nat) : UInt8 := UInt8.ofNat (vD s j).toNat
theorem xD_at (s : ByteArray) (j : Nat) (h : okD s j) : ((xD s j).toNat : Int) = vD s j := by
  have := vD_bd s j h
  unfold xD; rw [UInt8.toNat_ofNat']; omega
theorem two_back (s : ByteArray) (j : Nat) (h : okD s j) : two (xD s j) = [by8 s (3 * j), by8 s (3 * j + 1)] := by
  have e := xD_at s j h
  have h1 := h.2.1
  have h2 := h.2.2
  have b1 := dx_bd (by8 s (3 * j))
  have b2 := dx_bd (by8 s (3 * j + 1))
  unfold vD at e
  have e1 : (xD s j).toNat / 16 = (dx (by8 s (3 * j))).toNat := by omega
  have e2 : (xD s j).toNat % 16 = (dx (by8 s (3 * j + 1))).toNat := by omega
  unfold two
  rw [e1, e2, dig_dx _ h1, dig_dx _ h2]
theorem split17 (l : List UInt8) (h : l.length = 17) : l = [l.getD 0 0, l.getD 1 0, l.getD 2 0, l.getD 3 0, l.getD 4 0, l.getD 5 0, l.getD 6 0, l.getD 7 0, l.getD 8 0, l.getD 9 0, l.getD 10 0, l.getD 11 0, l.getD 12 0, l.getD 13 0, l.getD 14 0, l.getD 15 0, l.getD 16 0] := by
  have e := split3 (l.drop 14) (by simp; omega)
  rw [getD_drop, getD_drop, getD_drop] at e
  have f := split14 l (by omega)
  rw [e] at f
  exact f
theorem colon (s : ByteArray) (j : Nat) (h : okD s j) (hj : 0 < j) : by8 s (3 * j - 1) = 58 := by
  have := h.1 hj
  rw [bt_by] at this
  apply UInt8.toNat_inj.1
  show _ = 58
  omega
theorem back_show (s : ByteArray) (hs : s.size = 17) (h : aok s) : pa s 6 = #[.int .u8 ((xD s 0).toNat : Int), .int .u8 ((xD s 1).toNat : Int), .int .u8 ((xD s 2).toNat : Int), .int .u8 ((xD s 3).toNat : Int), .int .u8 ((xD s 4).toNat : Int), .int .u8 ((xD s 5).toNat : Int)] ∧
    (⟨(shl (xD s 0) (xD s 1) (xD s 2) (xD s 3) (xD s 4) (xD s 5)).toArray⟩ : ByteArray) = s := by
  refine ⟨?_, ?_⟩
  · rw [xD_at s 0 (h 0 (by omega)), xD_at s 1 (h 1 (by omega)), xD_at s 2 (h 2 (by omega)), xD_at s 3 (h 3 (by omega)), xD_at s 4 (h 4 (by omega)), xD_at s 5 (h 5 (by omega))]
    simp [pa, List.range_succ]
  · apply bytes_ext
    have hl : s.data.toList.length = 17 := by simpa using hs
    have c1 := colon s 1 (h 1 (by omega)) (by omega)
    have c2 := colon s 2 (h 2 (by omega)) (by omega)
    have c3 := colon s 3 (h 3 (by omega)) (by omega)
    have c4 := colon s 4 (h 4 (by omega)) (by omega)
    have c5 := colon s 5 (h 5 (by omega)) (by omega)
    show shl _ _ _ _ _ _ = _
    unfold shl
    rw [two_back s 0 (h 0 (by omega)), two_back s 1 (h 1 (by omega)), two_back s 2 (h 2 (by omega)), two_back s 3 (h 3 (by omega)), two_back s 4 (h 4 (by omega)), two_back s 5 (h 5 (by omega))]
    rw [← c1]
    refine Eq.trans ?_ (split17 s.data.toList hl).symm
    have g2 : by8 s 2 = s.data.toList.getD 5 0 := c1.trans c2.symm
    have g3 : by8 s 2 = s.data.toList.getD 8 0 := c1.trans c3.symm
    have g4 : by8 s 2 = s.data.toList.getD 11 0 := c1.trans c4.symm
    have g5 : by8 s 2 = s.data.toList.getD 14 0 := c1.trans c5.symm
    show [s.data.toList.getD 0 0, s.data.toList.getD 1 0, by8 s 2, s.data.toList.getD 3 0, s.data.toList.getD 4 0, by8 s 2, s.data.toList.getD 6 0, s.data.toList.getD 7 0, by8 s 2, s.data.toList.getD 9 0, s.data.toList.getD 10 0, by8 s 2, s.data.toList.getD 12 0, s.data.toList.getD 13 0, by8 s 2, s.data.toList.getD 15 0, s.data.toList.getD 16 0] = _
    rw [← g2, ← g3, ← g4, ← g5]
    rfl
end Go.Proofs.YtolhmmnaohadcaaDoor.ethm
