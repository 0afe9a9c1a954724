/- custkeep.agesLives: two rooms, of which one is touched; slices.Equal of ints that are alike. -/
import Derived.Test.YtehiipnafckjbaaAgTouch
import Derived.Test.YtehiipnafckjbaaAgExpire
namespace Go.Proofs.Ytehiipnafckjbaa.agv
open Go.ChangeShapes Go.WideShapes Go.ChangeAt Go.RowKit Go.BigFrame
open Go.Proofs.Ytehiipnafckjbaa Go.Proofs.Ytehiipnafckjbaa.am Go.Proofs.Ytehiipnafckjbaa.ag Go.Proofs.Ytehiipnafckjbaa.ai Go.Proofs.Ytehiipnafckjbaa.ash Go.Proofs.Ytehiipnafckjbaa.agi Go.Proofs.Ytehiipnafckjbaa.agt Go.Proofs.Ytehiipnafckjbaa.agl Go.Proofs.Ytehiipnafckjbaa.agu Go.Proofs.Ytehiipnafckjbaa.agx Go.Proofs.Ytehiipnafckjbaa.boxes Go.Proofs.Ytehiipnafckjbaa.rwr
open Go.Proofs.Ytehiipnafckjbaa.rws (Knd Own)

/-- a row of ints: its cells -/
theorem num_cells {w : World} {sa : Option Addr} {n sc : Nat} {l : List Int} (h : Rd NK w (.slice sa n sc) l) (hn : 0 < l.length) : ∃ b off, sa = some ⟨b, off, none⟩ ∧ b < w.heap.size ∧ ∀ (j : Nat) x, l[j]? = some x → w.cell? ⟨b, off + j, none⟩ = some (.int .i64 x) := by
  obtain ⟨sa', sc', e, _, _, hc⟩ := h
  simp only [Value.slice.injEq] at e
  obtain ⟨rfl, e2, _⟩ := e
  obtain ⟨b, off, rfl, hb, hx⟩ := hc hn
  refine ⟨b, off, rfl, hb, fun j x hj => ?_⟩
  have := hx j x hj 0 (by decide)
  simpa [NK] using this
set_option maxHeartbeats 1000000 in
theorem ints_same (v1 v2 : Value) (l : List Int) (w : World) (h1 : Rd NK w v1 l) (h2 : Rd NK w v2 l) (hm : l.length ≤ 1000) :
    Calls Try.prog 19 #[v1, v2] w fun e w' => e = .returned (.bool true) ∧ Below w.heap.size w w' := by
  obtain ⟨sa1, sc1, rfl⟩ := h1.form
  obtain ⟨sa2, sc2, rfl⟩ := h2.form
  have HX1 : Hid (0 < l.length → ∃ b off, sa1 = some ⟨b, off, none⟩ ∧ b < w.heap.size ∧ ∀ (j : Nat) x, l[j]? = some x → w.cell? ⟨b, off + j, none⟩ = some (.int .i64 x)) := fun hp => num_cells h1 hp
  have HX2 : Hid (0 < l.length → ∃ b off, sa2 = some ⟨b, off, none⟩ ∧ b < w.heap.size ∧ ∀ (j : Nat) x, l[j]? = some x → w.cell? ⟨b, off + j, none⟩ = some (.int .i64 x)) := fun hp => num_cells h2 hp
  have HG : Hid (∀ i, i < l.length → ∃ x, l[i]? = some x) := fun i hi => ⟨_, List.getElem?_eq_getElem hi⟩
  clear h1 h2
  generalize l.length = m at *
  go_enter Try.func19, Try.ntmps19
  go_wp2_with fail
  go_loopw [13] (fun s13 wr => ∃ i : Nat, s13 = .int .i64 (i : Int) ∧ i ≤ m ∧ Below w.heap.size w wr) (fun s _ => m - (intOf s).toNat)
  case atStart => exact ⟨0, rfl, Nat.zero_le _, Below.refl _ _⟩
  case round =>
    obtain ⟨i, rfl, hi, bel⟩ := hrel
    by_cases hlt : i < m
    · have hlt' : (i : Int) < (m : Int) := by omega
      obtain ⟨x, hx⟩ := HG.out i hlt
      obtain ⟨b1, o1, rfl, hb1, hx1⟩ := HX1.out (by omega)
      obtain ⟨b2, o2, rfl, hb2, hx2⟩ := HX2.out (by omega)
      have c1 := (bel.cell (p := ⟨b1, o1 + i, none⟩) hb1).trans (hx1 i x hx)
      have c2 := (bel.cell (p := ⟨b2, o2 + i, none⟩) hb2).trans (hx2 i x hx)
      obtain ⟨W, hW⟩ : ∃ W, W = wr := ⟨_, rfl⟩
      subst hW
      have nn := ab.ne W
      have lt1 : b1 < W.heap.size := Nat.lt_of_lt_of_le hb1 bel.size
      have lt2 : b2 < W.heap.size := Nat.lt_of_lt_of_le hb2 bel.size
      have ca1 := ab.cell c1 lt1
      have ca2 := ab.cell c2 lt2
      clear HX1 HX2 HG hx1 hx2 hx
      go_upto_region 6 with fail
      refine ab.region (by kernel_rfl) (by kernel_rfl) ?_
      repeat (go_big_quiet_step (fail))
      refine wpQuiet_nil ?_
      intro _ hx
      obtain ⟨y, rfl⟩ := hx
      have bel1 := bel.trans (Below.mono y.h bel.size)
      go_wp2_with fail
      go_roundw
      case rel => exact ⟨i + 1, by go_num, by omega, bel1⟩
      case measure => simp [intOf]; omega
    · have hlt' : ¬ (i : Int) < (m : Int) := by omega
      go_wp2_with fail
      go_ret
      exact ⟨rfl, bel⟩
theorem tk_f {l : List Sy} {r : Int} (h : ∀ s ∈ l, s.r ≠ r) : tk l r = false := tk_no.2 h
def la : List Sy := [⟨0, 5⟩]
def lb : List Sy := [⟨0, 5⟩, ⟨1, 6⟩]
def lc : List Sy := [⟨1, 6⟩, ⟨0, 7⟩]
theorem ok_la : Ok 2 la := by unfold la; rw [ok_cons]; exact ⟨by decide, by decide, fun t ht => by simp at ht, ok_nil _⟩
theorem ok_lb : Ok 2 lb := by
  unfold lb; rw [ok_cons]
  refine ⟨by decide, by decide, fun t ht => ?_, ?_⟩
  · simp at ht; subst ht; decide
  · rw [ok_cons]; exact ⟨by decide, by decide, fun t ht => by simp at ht, ok_nil _⟩
theorem ok_lc : Ok 2 lc := by
  unfold lc; rw [ok_cons]
  refine ⟨by decide, by decide, fun t ht => ?_, ?_⟩
  · simp at ht; subst ht; decide
  · rw [ok_cons]; exact ⟨by decide, by decide, fun t ht => by simp at ht, ok_nil _⟩
theorem rs2 : rs 2 = true := by decide
theorem ce_zero {l : List Sy} {now : Int} (h : Ok 2 l) (hl : late l now = false) : ce 2 l now = 0 := by
  rcases ce_cases 2 l now with ⟨_, b⟩ | ⟨_, _, c⟩ | ⟨a, _⟩
  · exact absurd (aerr_ok rs2 h) b
  · rw [hl] at c; cases c
  · exact a
theorem te_zero {l : List Sy} {now : Int} (h : Ok 2 l) (hl : late l now = false) (hn : (l.length : Int) ≠ 2) : te 2 l now = 0 := by
  rcases te_cases 2 l now with ⟨_, b⟩ | ⟨_, _, c⟩ | ⟨a, _⟩
  · exact absurd (ce_zero h hl) b
  · exact absurd c hn
  · exact a
theorem m1 : te 2 [] 5 = 0 ∧ tn 2 [] 5 = 2 ∧ tr 2 [] 5 = 0 ∧ tl 2 [] 5 = la := by
  have e := te_zero (now := 5) (ok_nil 2) rfl (by decide)
  obtain ⟨a, b, c⟩ := te_ones e
  have hf : lf [] = 0 := lf_eq ⟨rfl, fun j hj => absurd hj (by omega)⟩
  rw [hf] at b c
  exact ⟨e, a, b, c⟩
theorem m2 : te 2 la 6 = 0 ∧ tn 2 la 6 = 2 ∧ tr 2 la 6 = 1 ∧ tl 2 la 6 = lb := by
  have e := te_zero (now := 6) ok_la (by decide) (by decide)
  obtain ⟨a, b, c⟩ := te_ones e
  have hf : lf la = 1 := lf_eq ⟨by decide, fun j hj => by
    have : j = 0 := by omega
    subst this; decide⟩
  rw [hf] at b c
  exact ⟨e, a, b, c⟩
theorem m3 : ue 2 lb 0 7 = 0 ∧ un 2 lb 0 7 = 2 ∧ ul 2 lb 0 7 = lc := by
  have e : ue 2 lb 0 7 = 0 := by
    rcases ue_cases 2 lb 0 7 with ⟨_, b⟩ | ⟨_, _, c⟩ | ⟨a, _⟩
    · exact absurd (ce_zero ok_lb (by decide)) b
    · exact absurd c (by decide)
    · exact a
  obtain ⟨a, b⟩ := ue_ones e
  exact ⟨e, a, b⟩
theorem m4 : aerr 2 lc = 0 ∧ xn 2 lc = 2 ∧ xl 2 lc 7 = [⟨0, 7⟩] ∧ xg 2 lc 7 = [1] := by
  have e := aerr_ok rs2 ok_lc
  obtain ⟨a, b, c⟩ := xe_ones e 7
  exact ⟨e, a, b, c⟩
theorem m0 : nn 2 = 2 ∧ ne 2 = 0 := ⟨by decide, by decide⟩
end Go.Proofs.Ytehiipnafckjbaa.agv
