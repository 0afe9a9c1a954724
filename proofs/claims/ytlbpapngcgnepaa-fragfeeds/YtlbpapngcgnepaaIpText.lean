/- What custref.Long, LongAt and WordAt answer; custref.PacketText of a packet that can't be written. -/
import Derived.Test.YtlbpapngcgnepaaIpWrite2
import Derived.Test.YtlbpapngcgnepaaRefBytes
import Derived.Test.YtlbpapngcgnepaaSumRef
import Derived.Test.YtlbpapngcgnepaaIpMath
namespace Go.Proofs.Ytlbpapngcgnepaa.ipt
open Go.ChangeShapes Go.WideShapes Go.ChangeAt Go.RowKit Go.BigFrame
open Go.Proofs.Ytlbpapngcgnepaa Go.Proofs.Ytlbpapngcgnepaa.EM Go.Proofs.Ytlbpapngcgnepaa.ethb Go.Proofs.Ytlbpapngcgnepaa.SM Go.Proofs.Ytlbpapngcgnepaa.ipb Go.Proofs.Ytlbpapngcgnepaa.buf Go.Proofs.Ytlbpapngcgnepaa.boxes Go.Proofs.Ytlbpapngcgnepaa.ipi Go.Proofs.Ytlbpapngcgnepaa.ipw
open Go.Proofs.Ytlbpapngcgnepaa.refb (bytes_any word_ref between_any)
open Go.Proofs.Ytlbpapngcgnepaa.ipm (bytes_ext ext_list)

theorem wordAt_ref (s : ByteArray) (k : Nat) (w : World) (hs : s.size ≤ 281474976710656) (h : k + 1 < s.size) :
    Calls Try.prog 87 #[.string s, .int .i64 k] w fun e w' => e = .returned (.int .i64 (wd s k)) ∧ w' = w := by
  have b0 := bt_bd s k
  have b1 := bt_bd s (k + 1)
  have hix := index_at s k (by omega)
  have hix1 : ∀ u, (Instr.index 9 (.string s) (.int .i64 ((k : Int) + 1))).run Try.prog u = .ok (.int .u8 (bt s (k + 1))) u := fun u => by
    have := index_at s (k + 1) h u
    simpa using this
  have hlt : (k : Int) + 1 < s.size := by omega
  go_enter Try.func87, Try.ntmps87
  go_wp2_with fail
  go_ret
  exact ⟨ret_int (by unfold wd; rfl), rfl⟩
theorem wordAt_refi (s : ByteArray) (k : Int) (w : World) (hs : s.size ≤ 281474976710656) (h0 : 0 ≤ k) (h : k + 1 < s.size) :
    Calls Try.prog 87 #[.string s, .int .i64 k] w fun e w' => e = .returned (.int .i64 (wd s k.toNat)) ∧ w' = w := by
  obtain ⟨n, rfl⟩ := Int.eq_ofNat_of_zero_le h0
  exact wordAt_ref s n w hs (by omega)
theorem long_ref (a : Int) (w : World) (h0 : 0 ≤ a) (h1 : a ≤ 4294967295) :
    Calls Try.prog 51 #[.int .u32 a] w fun e w' => e = .returned (.string ⟨(adr a).toArray⟩) ∧ Below w.heap.size w w' := by
  have E : Hid ((⟨#[hi8 (a / 65536), lo8 (a / 65536)]⟩ : ByteArray) ++ ⟨#[hi8 (a % 65536), lo8 (a % 65536)]⟩ = ⟨(adr a).toArray⟩) := by
    show _ = _
    apply bytes_ext
    simp [adr]
  have c1 := fun u => word_ref (a / 65536) u (by omega) (by omega)
  have c2 := fun u => word_ref (a % 65536) u (by omega) (by omega)
  obtain ⟨x, hx⟩ : ∃ x, x = (⟨#[hi8 (a / 65536), lo8 (a / 65536)]⟩ : ByteArray) := ⟨_, rfl⟩
  obtain ⟨y, hy⟩ : ∃ y, y = (⟨#[hi8 (a % 65536), lo8 (a % 65536)]⟩ : ByteArray) := ⟨_, rfl⟩
  rw [← hx] at c1 E
  rw [← hy] at c2 E
  have zx : x.size = 2 := by rw [hx]; rfl
  have zy : y.size = 2 := by rw [hy]; rfl
  clear hx hy
  go_enter Try.func51, Try.ntmps51
  go_wp2_with fail
  refine (c1 _).mono ?_
  rintro e w1 ⟨rfl, b1⟩
  go_wp2_with fail
  refine (c2 _).mono ?_
  rintro e w2 ⟨rfl, b2⟩
  go_wp2_with fail
  go_ret
  exact ⟨by rw [E.out]; rfl, b1.trans (b2.mono b1.size)⟩

set_option maxHeartbeats 2000000 in
theorem pt_bad (p : Pk) (w : World) (h : 20 + p.o.size + p.d.size ≤ 9223372036854775807) (hne : ¬ p.err = 0) :
    Calls Try.prog 22 #[.agg p.cells] w fun e w' => e = .returned (.tuple #[.string ⟨#[]⟩, .int .i64 p.err]) ∧ Below w.heap.size w w' := by
  have A := arg_err p
  have A2 := more_err p
  obtain ⟨er, her⟩ : ∃ er, er = p.err := ⟨_, rfl⟩
  rw [← her] at A A2 hne ⊢
  have HA : Hid (_ → er = 1) := A
  have HB : Hid (_ → er = _) := A2
  have HN : Hid (¬ er = 0) := hne
  clear A A2 her hne
  obtain ⟨tos, id, wh, mo, st, li, pr, fr, tt, o, d⟩ := p
  simp only at h HA HB ⊢
  have bel := (Below.refl w.heap.size w).alloc (Nat.le_refl _) (.cells (Pk.cells ⟨tos, id, wh, mo, st, li, pr, fr, tt, o, d⟩) 24)
  go_enter Try.func22, Try.ntmps22
  go_wp2_with fail
  refine (between_any tos 0 255 _).mono ?_
  rintro e w1 ⟨rfl, rfl⟩
  by_cases a1 : 0 ≤ tos ∧ tos ≤ 255
  case neg =>
    rw [decide_eq_false a1]
    go_wp2_with fail
    go_ret2
    exact ⟨ret_text rfl (HA.out (by omega)).symm, bel⟩
  rw [decide_eq_true a1]
  go_wp2_with fail
  refine (between_any li 0 255 _).mono ?_
  rintro e w1 ⟨rfl, rfl⟩
  by_cases a2 : 0 ≤ li ∧ li ≤ 255
  case neg =>
    rw [decide_eq_false a2]
    go_wp2_with fail
    go_ret2
    exact ⟨ret_text rfl (HA.out (by omega)).symm, bel⟩
  rw [decide_eq_true a2]
  go_wp2_with fail
  refine (between_any pr 0 255 _).mono ?_
  rintro e w1 ⟨rfl, rfl⟩
  by_cases a3 : 0 ≤ pr ∧ pr ≤ 255
  case neg =>
    rw [decide_eq_false a3]
    go_wp2_with fail
    go_ret2
    exact ⟨ret_text rfl (HA.out (by omega)).symm, bel⟩
  rw [decide_eq_true a3]
  go_wp2_with fail
  refine (between_any id 0 65535 _).mono ?_
  rintro e w1 ⟨rfl, rfl⟩
  by_cases a4 : 0 ≤ id ∧ id ≤ 65535
  case neg =>
    rw [decide_eq_false a4]
    go_wp2_with fail
    go_ret2
    exact ⟨ret_text rfl (HA.out (by omega)).symm, bel⟩
  rw [decide_eq_true a4]
  go_wp2_with fail
  refine (between_any st 0 8191 _).mono ?_
  rintro e w1 ⟨rfl, rfl⟩
  by_cases a5 : 0 ≤ st ∧ st ≤ 8191
  case neg =>
    rw [decide_eq_false a5]
    go_wp2_with fail
    go_ret2
    exact ⟨ret_text rfl (HA.out (by omega)).symm, bel⟩
  rw [decide_eq_true a5]
  by_cases o1 : 40 < o.size
  · have o1' : decide (40 < (o.size : Int)) = true := by simp; omega
    go_wp2_with fail
    go_ret2
    exact ⟨ret_text rfl (HA.out (by omega)).symm, bel⟩
  have o1' : decide (40 < (o.size : Int)) = false := by simp; omega
  by_cases o4 : o.size % 4 = 0
  case neg =>
    have o4' : decide (0 < (o.size : Int) % 4) = true := by simp; omega
    go_wp2_with fail
    go_ret2
    exact ⟨ret_text rfl (HA.out (by omega)).symm, bel⟩
  have o4' : decide (0 < (o.size : Int) % 4) = false := by simp; omega
  have G1 := HB.out (by omega)
  have HG : Hid (er = _) := G1
  clear HA HB a1 a2 a3 a4 G1
  cases wh
  · have G2 : Hid (er = if 65535 < 20 + o.size + d.size then 2 else 0) := by show _ = _; rw [HG.out, if_neg (by simp)]
    clear HG
    by_cases L : 65535 < 20 + o.size + d.size
    · cases mo
      · go_wp2_with fail
        go_ret2
        exact ⟨ret_text rfl (by rw [G2.out, if_pos L]), bel⟩
      · go_wp2_with fail
        go_ret2
        exact ⟨ret_text rfl (by rw [G2.out, if_pos L]), bel⟩
    · exact absurd (by rw [G2.out, if_neg L]) HN.out
  · cases mo
    · by_cases s0 : st = 0
      · subst s0
        have G2 : Hid (er = if 65535 < 20 + o.size + d.size then 2 else 0) := by show _ = _; rw [HG.out, if_neg (by simp)]
        clear HG
        by_cases L : 65535 < 20 + o.size + d.size
        · go_wp2_with fail
          go_ret2
          exact ⟨ret_text rfl (by rw [G2.out, if_pos L]), bel⟩
        · exact absurd (by rw [G2.out, if_neg L]) HN.out
      · have s0' : decide (0 < st) = true := by simp; omega
        have G2 : Hid (er = 4) := by show _ = _; rw [HG.out, if_pos ⟨rfl, Or.inr s0⟩]
        clear HG
        go_wp2_with fail
        go_ret2
        exact ⟨ret_text rfl G2.out.symm, bel⟩
    · have G2 : Hid (er = 4) := by show _ = _; rw [HG.out, if_pos ⟨rfl, Or.inl rfl⟩]
      clear HG
      go_wp2_with fail
      go_ret2
      exact ⟨ret_text rfl G2.out.symm, bel⟩
end Go.Proofs.Ytlbpapngcgnepaa.ipt
