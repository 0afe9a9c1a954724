/- What custref.LetterText answers. -/
import Derived.Test.YtohonfpmaafnaaaDgRef
namespace Go.Proofs.Ytohonfpmaafnaaa.dgf
open Go.ChangeShapes Go.WideShapes Go.ChangeAt Go.RowKit Go.BigFrame
open Go.Proofs.Ytohonfpmaafnaaa Go.Proofs.Ytohonfpmaafnaaa.EM Go.Proofs.Ytohonfpmaafnaaa.ethb Go.Proofs.Ytohonfpmaafnaaa.SM Go.Proofs.Ytohonfpmaafnaaa.ipb Go.Proofs.Ytohonfpmaafnaaa.buf Go.Proofs.Ytohonfpmaafnaaa.boxes Go.Proofs.Ytohonfpmaafnaaa.wds Go.Proofs.Ytohonfpmaafnaaa.dgb Go.Proofs.Ytohonfpmaafnaaa.dgi Go.Proofs.Ytohonfpmaafnaaa.dgw
open Go.Proofs.Ytohonfpmaafnaaa.sumw (Qd)
open Go.Proofs.Ytohonfpmaafnaaa.refb (bytes_any word_ref between_any)
open Go.Proofs.Ytohonfpmaafnaaa.ipm (bytes_ext ext_list size_list)
open Go.Proofs.Ytohonfpmaafnaaa.ipb (ret_text)

theorem letterText_bad (l : Lt) (f t : Int) (w : World) (h : l.d.size ≤ 281474976710656) (hn : ¬ l.err = 0) :
    Calls Try.prog 9 #[.agg l.cells, .int .u32 f, .int .u32 t] w fun e w' => e = .returned (.tuple #[.string ⟨#[]⟩, .int .i64 l.err]) ∧ Below w.heap.size w w' := by
  have HA : Hid (_ → l.err = 1) := arg_err l
  have HB : Hid (_ → l.err = _) := more_err l
  obtain ⟨c, E⟩ : ∃ c, c = l.err := ⟨_, rfl⟩
  rw [← E] at HA HB hn ⊢
  have HN : Hid (¬ c = 0) := hn
  clear E hn
  have bel := (Below.refl w.heap.size w).alloc (Nat.le_refl _) (.cells l.cells 23)
  go_enter Try.func9, Try.ntmps9
  go_wp2_with fail
  refine (between_any l.fr 0 65535 _).mono ?_
  rintro e w1 ⟨rfl, rfl⟩
  by_cases a1 : 0 ≤ l.fr ∧ l.fr ≤ 65535
  case neg =>
    rw [decide_eq_false a1]
    go_wp2_with fail
    go_ret2
    exact ⟨ret_text rfl (HA.out (by omega)).symm, bel⟩
  rw [decide_eq_true a1]
  go_wp2_with fail
  refine (between_any l.to 0 65535 _).mono ?_
  rintro e w1 ⟨rfl, rfl⟩
  by_cases a2 : 0 ≤ l.to ∧ l.to ≤ 65535
  case neg =>
    rw [decide_eq_false a2]
    go_wp2_with fail
    go_ret2
    exact ⟨ret_text rfl (HA.out (by omega)).symm, bel⟩
  rw [decide_eq_true a2]
  have G : Hid (c = if 65507 < l.d.size then 2 else 0) := HB.out (by omega)
  clear HA HB a1 a2
  by_cases L : 65507 < l.d.size
  · have dl : decide (65515 < (l.d.size : Int) + 8) = true := by simp; omega
    have G2 : Hid (c = 2) := by show _ = _; rw [G.out, if_pos L]
    clear L G
    go_wp2_with fail
    go_ret2
    exact ⟨ret_text rfl G2.out.symm, bel⟩
  · exact absurd (by rw [G.out, if_neg L]) HN.out
/-- a word's two bytes -/
def wbs (k : Int) : ByteArray := ⟨#[hi8 k, lo8 k]⟩
theorem wbs_size (k : Int) : (wbs k).size = 2 := rfl
theorem wbs_list (k : Int) : (wbs k).data.toList = [hi8 k, lo8 k] := rfl
theorem app_list (a b : ByteArray) : (a ++ b).data.toList = a.data.toList ++ b.data.toList := by simp
set_option maxHeartbeats 2000000 in
theorem letterText_ok (l : Lt) (f t : Int) (w : World) (hp : l.Ok) (hf : Ad f) (ht : Ad t) :
    Calls Try.prog 9 #[.agg l.cells, .int .u32 f, .int .u32 t] w fun e w' => e = .returned (.tuple #[.string ⟨(l.txt f t).toArray⟩, .int .i64 0]) ∧ Below w.heap.size w w' := by
  have f0 := hp.f0
  have f1 := hp.f1
  have t0 := hp.t0
  have t1 := hp.t1
  have d1 := hp.d1
  clear hp
  have W1 := fun u => between_any l.fr 0 65535 u
  have W2 := fun u => between_any l.to 0 65535 u
  rw [decide_eq_true ⟨f0, f1⟩] at W1
  rw [decide_eq_true ⟨t0, t1⟩] at W2
  have CW : ∀ (k : Int) u, 0 ≤ k → k ≤ 65535 → Calls Try.prog 27 #[.int .i64 k] u fun e w' => e = .returned (.string (wbs k)) ∧ Below u.heap.size u w' := fun k u h0 h1 => word_ref k u h0 h1
  have en : ((8 + l.d.size : Nat) : Int) = (l.d.size : Int) + 8 := by omega
  have CU := fun u => underText_any f t 17 ((l.d.size : Int) + 8) u hf ht
  have zU : (⟨(und f t 17 ((l.d.size : Int) + 8)).toArray⟩ : ByteArray).size = 12 := by show (und _ _ _ _).toArray.size = 12; rw [List.size_toArray, und_len]
  have zf := wbs_size l.fr
  have zt := wbs_size l.to
  have zn := wbs_size ((l.d.size : Int) + 8)
  have z0 := wbs_size 0
  have lU : (⟨(und f t 17 ((l.d.size : Int) + 8)).toArray⟩ : ByteArray).data.toList = und f t 17 (8 + l.d.size : Nat) := by rw [en]
  generalize (⟨(und f t 17 ((l.d.size : Int) + 8)).toArray⟩ : ByteArray) = U at CU zU lU
  have e0 : ∀ H, H = U ++ (wbs l.fr ++ wbs l.to) ++ wbs ((l.d.size : Int) + 8) ++ wbs 0 ++ l.d → 65535 - wsum 0 H.data.toList = l.c0 f t := fun H hH => by
    rw [hH]
    simp only [app_list, wbs_list, lU]
    unfold Lt.c0 Lt.h1
    rw [en]
    simp [hi8, lo8]
  have CC : ∀ u, Calls Try.prog 28 #[.string (U ++ (wbs l.fr ++ wbs l.to) ++ wbs ((l.d.size : Int) + 8) ++ wbs 0 ++ l.d)] u fun e w' => e = .returned (.int .i64 (l.c0 f t)) ∧ w' = u := fun u => by
    have := sumr.check_any (U ++ (wbs l.fr ++ wbs l.to) ++ wbs ((l.d.size : Int) + 8) ++ wbs 0 ++ l.d) u (by simp only [ByteArray.size_append]; omega)
    rw [e0 _ rfl] at this
    exact this
  have hfin : ∀ c, l.ck f t = c → (wbs l.fr ++ wbs l.to) ++ wbs ((l.d.size : Int) + 8) ++ wbs c ++ l.d = ⟨(l.txt f t).toArray⟩ := fun c hc => by
    subst hc
    apply bytes_ext
    simp only [app_list, wbs_list]
    unfold Lt.txt Lt.h1
    rw [en]
    simp
  have HF : Hid (∀ c, l.ck f t = c → (wbs l.fr ++ wbs l.to) ++ wbs ((l.d.size : Int) + 8) ++ wbs c ++ l.d = ⟨(l.txt f t).toArray⟩) := hfin
  have HK : Hid (l.ck f t = if l.c0 f t = 0 then 65535 else l.c0 f t) := (rfl : _ = _)
  have c0b := l.c0_bd f t
  obtain ⟨T, eT⟩ : ∃ T, T = (⟨(l.txt f t).toArray⟩ : ByteArray) := ⟨_, rfl⟩
  rw [← eT] at HF ⊢
  generalize l.c0 f t = c0 at CC HK c0b
  generalize l.ck f t = ck at HK HF
  clear e0 hfin eT lU en
  have dl : decide (65515 < (l.d.size : Int) + 8) = false := by simp; omega
  have F0 : Blk (w.alloc (.cells l.cells 23)) w.heap.size l.cells 23 := Blk.new _ _ _
  have bel := (Below.refl w.heap.size w).alloc (Nat.le_refl _) (.cells l.cells 23)
  go_enter Try.func9, Try.ntmps9
  go_wp2_with fail
  refine (W1 _).mono ?_
  rintro e w1 ⟨rfl, rfl⟩
  go_wp2_with fail
  refine (W2 _).mono ?_
  rintro e w1 ⟨rfl, rfl⟩
  clear W1 W2
  go_upto_region 6 with fail
  generalize w.alloc (.cells l.cells 23) = V at F0 bel ⊢
  have ne := ab.ne V
  have cm := ab.cells F0
  refine ab.region (by kernel_rfl) (by kernel_rfl) ?_
  repeat (go_big_quiet_step ((go_at_call 27; exact ab.call (CW _ _ (by omega) (by omega)))))
  refine wpQuiet_nil ?_
  intro _ hx
  obtain ⟨x, rfl⟩ := hx
  have Kx := x.h
  generalize x.W = V1 at Kx ⊢
  have F1 := F0.below Kx F0.lt
  have bel1 := bel.trans (Kx.mono bel.size)
  clear ne cm F0 bel Kx
  go_upto_region 7 with fail
  have ne := ab.ne V1
  have cm := ab.cells F1
  refine ab.region (by kernel_rfl) (by kernel_rfl) ?_
  repeat (go_big_quiet_step (first
    | (go_at_call 27; exact ab.call (CW _ _ (by omega) (by omega)))
    | (go_at_call 13; exact ab.call (CU _))
    | (go_at_call 28; exact ab.call_same (CC _))))
  refine wpQuiet_nil ?_
  intro _ hx
  obtain ⟨x, rfl⟩ := hx
  have Kx := x.h
  generalize x.W = V2 at Kx ⊢
  have F2 := F1.below Kx F1.lt
  have bel2 := bel1.trans (Kx.mono bel1.size)
  clear ne cm F1 bel1 Kx CU CC
  by_cases cz : c0 = 0
  · subst cz
    have E := HF.out 65535 (by rw [HK.out]; rfl)
    have zc := wbs_size 65535
    clear HK HF
    go_upto_region 10 with fail
    have ne := ab.ne V2
    have cm := ab.cells F2
    refine ab.region (by kernel_rfl) (by kernel_rfl) ?_
    repeat (go_big_quiet_step ((go_at_call 27; exact ab.call (CW _ _ (by omega) (by omega)))))
    refine wpQuiet_nil ?_
    intro _ hx
    obtain ⟨x, rfl⟩ := hx
    have Kx := x.h
    generalize x.W = V3 at Kx ⊢
    have bel3 := bel2.trans (Kx.mono bel2.size)
    clear ne cm
    go_wp2_with fail
    go_ret2
    exact ⟨ret_text rfl rfl, bel3⟩
  · have E := HF.out c0 (by rw [HK.out, if_neg cz])
    have zc := wbs_size c0
    have cz' : (c0 == 0) = false := by simpa using cz
    clear HK HF cz
    go_upto_region 10 with fail
    have ne := ab.ne V2
    have cm := ab.cells F2
    refine ab.region (by kernel_rfl) (by kernel_rfl) ?_
    repeat (go_big_quiet_step ((go_at_call 27; exact ab.call (CW _ _ (by omega) (by omega)))))
    refine wpQuiet_nil ?_
    intro _ hx
    obtain ⟨x, rfl⟩ := hx
    have Kx := x.h
    generalize x.W = V3 at Kx ⊢
    have bel3 := bel2.trans (Kx.mono bel2.size)
    clear ne cm
    go_wp2_with fail
    go_ret2
    exact ⟨ret_text rfl rfl, bel3⟩
theorem letterText_any (l : Lt) (f t : Int) (w : World) (h : l.d.size ≤ 281474976710656) (hf : Ad f) (ht : Ad t) :
    Calls Try.prog 9 #[.agg l.cells, .int .u32 f, .int .u32 t] w fun e w' => e = .returned (.tuple #[.string (l.out f t), .int .i64 l.err]) ∧ Below w.heap.size w w' := by
  by_cases he : l.err = 0
  · rw [show l.out f t = ⟨(l.txt f t).toArray⟩ by unfold Lt.out; rw [if_pos he], he]
    exact letterText_ok l f t w (Lt.ok he) hf ht
  · rw [show l.out f t = ⟨#[]⟩ by unfold Lt.out; rw [if_neg he]]
    exact letterText_bad l f t w h he
end Go.Proofs.Ytohonfpmaafnaaa.dgf
