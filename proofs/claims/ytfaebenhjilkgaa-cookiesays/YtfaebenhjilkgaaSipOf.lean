/- What package sip's Of answers; what stays in its form. -/
import Derived.Test.YtfaebenhjilkgaaSipEnd
namespace Go.Proofs.Ytfaebenhjilkgaa.sipe
open Go.ChangeShapes Go.WideShapes Go.ChangeAt Go.RowKit Go.BigFrame
open Go.Proofs.Ytfaebenhjilkgaa Go.Proofs.Ytfaebenhjilkgaa.sipm Go.Proofs.Ytfaebenhjilkgaa.boxes Go.Proofs.Ytfaebenhjilkgaa.sipb Go.Proofs.Ytfaebenhjilkgaa.sipt Go.Proofs.Ytfaebenhjilkgaa.sipn Go.Proofs.Ytfaebenhjilkgaa.sipf Go.Proofs.Ytfaebenhjilkgaa.sipr Go.Proofs.Ytfaebenhjilkgaa.sipo
open Go.Proofs.Ytfaebenhjilkgaa.sumw (Qd Qd.refl Qd.drewN Qd.trans)

theorem okf_bd {p : ByteArray} {n : Int} (h : okf p n = true) : 0 ≤ n ∧ p.size ≤ 7 ∧ n % 8 = (p.size : Int) := by
  unfold okf at h
  simp at h
  omega
theorem ep_size (v : V4) (p s : ByteArray) (h : p.size ≤ 7) : (ep v p s).size = (p.size + s.size) % 8 := by
  have h1 := eat_len s.data.toList (v, p.data.toList) (by simpa using h)
  have h2 : (ep v p s).size = (eat (v, p.data.toList) s.data.toList).2.length := by unfold ep; simp [ByteArray.size]
  rw [h2, h1]
  simp
theorem okf_more {v : V4} {p s : ByteArray} {n : Int} (h : okf p n = true) : okf (ep v p s) (n + (s.size : Int)) = true := by
  obtain ⟨h0, h7, h8⟩ := okf_bd h
  have hz := ep_size v p s h7
  exact okf_y (by omega) (by omega)
theorem okf_zero : okf ⟨#[]⟩ 0 = true := by decide
/-- a text's number -/
def ofv (k l : UInt64) (s : ByteArray) : UInt64 := fin (ev (bgn k l) ⟨#[]⟩ s) (ep (bgn k l) ⟨#[]⟩ s) (s.size : Int)
theorem sec_info : (Try.prog.info? 24).map (·.size) = some 2 := by kernel_rfl
theorem sec_one (k l : UInt64) : (#[nm k, nm l]).all (·.oneCell') = true := by simp [Value.oneCell']

set_option maxHeartbeats 4000000 in
theorem of_any (k l : UInt64) (s : ByteArray) (w : World) (hs : s.size ≤ 281474976710600) :
    Calls Try.prog 18 #[.agg #[nm k, nm l], .string s] w fun e w' => e = .returned (nm (ofv k l s)) ∧ Below w.heap.size w w' := by
  obtain ⟨v, hv⟩ : ∃ v, v = bgn k l := ⟨_, rfl⟩
  obtain ⟨r, hr⟩ : ∃ r, r = ofv k l s := ⟨_, rfl⟩
  have HR : Hid (r = fin (ev v ⟨#[]⟩ s) (ep v ⟨#[]⟩ s) (s.size : Int)) := by rw [hv]; exact hr
  have HO : Hid (okf (ep v ⟨#[]⟩ s) (s.size : Int) = true) := by
    have := okf_more (v := v) (s := s) okf_zero
    rw [Int.zero_add] at this
    exact this
  have C1 := fun u => begin_any k l u
  have C2 := fun u => more_ok v ⟨#[]⟩ s 0 u okf_zero (by omega) hs
  simp only [Int.zero_add] at C2
  rw [← hv] at C1
  rw [← hr]
  clear hr hv
  obtain ⟨V, eV⟩ : ∃ V, V = ev v ⟨#[]⟩ s := ⟨_, rfl⟩
  obtain ⟨Y, eY⟩ : ∃ Y, Y = ep v ⟨#[]⟩ s := ⟨_, rfl⟩
  rw [← eV, ← eY] at C2
  rw [← eV, ← eY] at HR
  rw [← eY] at HO
  clear eV eY
  have K0 : Blk (w.alloc (.cells #[nm k, nm l] 24)) w.heap.size #[nm k, nm l] 24 := Blk.new _ _ _
  have B0 := (Below.refl w.heap.size w).alloc (Nat.le_refl _) (.cells #[nm k, nm l] 24)
  go_enter Try.func18, Try.ntmps18
  go_upto_region 1 with fail
  refine gen (p := fun W => Code.wp _ _ _ _ W) K0 B0 ?_
  clear K0 B0
  intro W K B
  go_wp2_with (refine blk_load _ rfl 24 _ rfl _ rfl _ _ K _ Try.underlying24 rfl 2 sec_info rfl ?_)
  refine (C1 _).mono ?_
  rintro e W1 ⟨rfl, q⟩
  replace B := B.trans (q.mono (Below.size B))
  clear q K
  go_wp2_with fail
  refine (C2 _).mono ?_
  rintro e W2 ⟨rfl, q⟩
  replace B := B.trans (q.mono (Below.size B))
  clear q
  go_upto_region 2 with (refine blk_store _ rfl 56 _ _ rfl W2.heap.size (sc V Y s.size) rfl rfl _ _ (Blk.new W2 ZS 56) 6 sp_info rfl rfl (sp_one _ _ _ _ _ _) ?_; intro W3 K3 p3)
  have dA := B.alloc (Below.size B) (.cells ZS 56)
  have B3 := p3.below dA (Below.size B)
  clear dA p3 B
  go_wp2_with (refine blk_load _ rfl 56 _ rfl _ rfl _ _ K3 _ Try.underlying56 rfl 6 sp_info rfl ?_)
  refine (end_ok V Y s.size _ HO.out).mono ?_
  rintro e W4 ⟨rfl, q⟩
  have B4 := B3.trans (q.mono (Below.size B3))
  go_wp2_with fail
  go_ret
  exact ⟨by rw [HR.out]; rfl, B4⟩
end Go.Proofs.Ytfaebenhjilkgaa.sipe
