/- What custref's others and AgesTouched answer. -/
import Derived.Test.YtehiipnafckjbaaAgIdx
import Derived.Test.YtehiipnafckjbaaAgWith
namespace Go.Proofs.Ytehiipnafckjbaa.agr
open Go.ChangeShapes Go.WideShapes Go.ChangeAt Go.RowKit Go.BigFrame
open Go.Proofs.Ytehiipnafckjbaa Go.Proofs.Ytehiipnafckjbaa.am Go.Proofs.Ytehiipnafckjbaa.ag Go.Proofs.Ytehiipnafckjbaa.ai Go.Proofs.Ytehiipnafckjbaa.ash Go.Proofs.Ytehiipnafckjbaa.agw Go.Proofs.Ytehiipnafckjbaa.boxes Go.Proofs.Ytehiipnafckjbaa.rwr
open Go.Proofs.Ytehiipnafckjbaa.rws (Knd Own)

theorem take_one {l : List Sy} {i : Nat} (h : i < l.length) : l.take (i + 1) = l.take i ++ [ax l i] := by
  rw [List.take_add_one, ax_get h]; rfl
theorem wo_one {l : List Sy} {i : Nat} {r : Int} (h : i < l.length) : wo (l.take (i + 1)) r = if (ax l i).r = r then wo (l.take i) r else wo (l.take i) r ++ [ax l i] := by
  rw [take_one h]
  unfold wo
  rw [List.filter_append]
  by_cases e : (ax l i).r = r
  · rw [if_pos e, List.filter_cons_of_neg (by simp [e])]; simp
  · rw [if_neg e, List.filter_cons_of_pos (by simp [e])]; rfl
theorem wo_le (l : List Sy) (i : Nat) (r : Int) : (wo (l.take i) r).length ≤ i := by
  unfold wo
  have := List.length_filter_le (fun s : Sy => s.r != r) (l.take i)
  rw [List.length_take] at this
  omega
set_option maxRecDepth 20000 in
set_option maxHeartbeats 2000000 in
theorem others_any (n : Int) (v : Value) (l : List Sy) (r : Int) (w : World) (h : Rd SK w v l) (hb : l.length ≤ 1000) : Calls Try.prog 30 #[.agg (AC n v), .int .i64 r] w fun e w' => ∃ v', e = .returned v' ∧ Own SK w' w.heap.size v' (wo l r) ∧ Below w.heap.size w w' := by
  have F0 := Blk.new w (AC n v) 24
  have b0 := (Below.refl w.heap.size w).alloc (Nat.le_refl _) (.cells (AC n v) 24)
  have hz0 : (w.alloc (.cells (AC n v) 24)).heap.size = w.heap.size + 1 := by simp
  obtain ⟨V, HV⟩ : ∃ V, Hid (w.alloc (.cells (AC n v) 24) = V) := ⟨_, rfl⟩
  rw [HV.out] at F0 b0 hz0
  have HG : Hid (∀ i, i < l.length → l[i]? = some (ax l i)) := fun i hi => ax_get hi
  have HW : Hid (∀ i, i < l.length → wo (l.take (i + 1)) r = if (ax l i).r = r then wo (l.take i) r else wo (l.take i) r ++ [ax l i]) := fun i hi => wo_one hi
  have HL : Hid (∀ i, (wo (l.take i) r).length ≤ i) := fun i => wo_le l i r
  have HE : Hid (l.take l.length = l) := List.take_length
  obtain ⟨sa, sc, rfl⟩ := h.form
  have HX : Hid (∀ u, Below w.heap.size w u → 0 < l.length → ∃ b off, sa = some ⟨b, off, none⟩ ∧ b < u.heap.size ∧ ∀ j x, l[j]? = some x → ∀ i, i < SK.k → u.cell? ⟨b, off + j * SK.k + i, none⟩ = (SK.enc x)[i]?) := fun u hu hp => rd_spot (h.below hu) hp
  have hle : l.length ≤ sc := (rd_cap h).2
  have c0 := F0.cell
  clear h
  generalize hm : l.length = m at *
  clear hm
  go_enter Try.func30, Try.ntmps30
  go_upto_region 1 with fail
  rw [HV.out]
  go_wp2_with fail
  clear c0
  go_loopw [5, 11] (fun s5 s11 wr => ∃ (i : Nat) (v5 : Value), s11 = .int .i64 (i : Int) ∧ v5 = s5 ∧ i ≤ m ∧ Own SK wr V.heap.size v5 (wo (l.take i) r) ∧ Below V.heap.size V wr) (fun _ s _ => m - (intOf s).toNat)
  case atStart => exact ⟨0, _, rfl, rfl, Nat.zero_le _, Own.nil _ _ _, Below.refl _ _⟩
  case round =>
    obtain ⟨i, v5, rfl, rfl, hi, O, bel⟩ := hrel
    have b1 := b0.trans (bel.mono (by omega))
    have hBV := bel.size
    by_cases hlt : i < m
    · have hlt' : (i : Int) < (m : Int) := by omega
      have gi := HG.out i hlt
      obtain ⟨b, off, rfl, hb2, hx⟩ := HX.out wr b1 (by omega)
      have hw := HW.out i hlt
      have hl := HL.out i
      obtain ⟨⟨sr, sv⟩, hs⟩ : ∃ s, ax l i = s := ⟨_, rfl⟩
      rw [hs] at gi hw
      obtain ⟨A, HA⟩ : ∃ A, Hid (wr.alloc (.cells #[.int .i64 sr, .int .i64 sv] 41) = A) := ⟨_, rfl⟩
      have S2 := Blk.new wr #[.int .i64 sr, .int .i64 sv] 41
      have O2 := O.alloc (.cells #[.int .i64 sr, .int .i64 sv] 41)
      have b2 := bel.alloc bel.size (.cells #[.int .i64 sr, .int .i64 sv] 41)
      rw [HA.out] at S2 O2 b2
      have cS := S2.cell
      clear hs HX HG HW HL HE O bel b1
      by_cases e : sr = r
      · have HW' : Hid (wo (l.take (i + 1)) r = wo (l.take i) r) := by rw [show Hid _ = _ from rfl]; exact hw.trans (if_pos e)
        have hd : (sr != r) = false := by simpa using e
        clear hw e
        go_upto_region 5 with (refine rd_load SK _ rfl _ rfl b off l hx i _ rfl rfl _ gi #[.int .i64 sr, .int .i64 sv] rfl _ Try.underlying41 rfl ?_)
        rw [HA.out]
        go_wp2_with fail
        go_roundw
        case rel => exact ⟨i + 1, _, by go_num, rfl, by omega, by rw [HW'.out]; exact O2, b2⟩
        case measure => simp [intOf]; omega
      · have HW' : Hid (wo (l.take (i + 1)) r = wo (l.take i) r ++ [⟨sr, sv⟩]) := hw.trans (if_neg e)
        have hd : (sr != r) = true := by simpa using e
        clear hw e
        generalize wo (l.take i) r = gl at *
        go_upto_region 5 with (refine rd_load SK _ rfl _ rfl b off l hx i _ rfl rfl _ gi #[.int .i64 sr, .int .i64 sv] rfl _ Try.underlying41 rfl ?_)
        rw [HA.out]
        have O3 := O2.alloc (.cells #[.int .i64 sr, .int .i64 sv] 41)
        have L3 := Blk.new A #[.int .i64 sr, .int .i64 sv] 41
        have q1 : gl.length + 1 ≤ maxLen := by unfold maxLen; omega
        have q2 : (gl.length + 1) * SK.by_ ≤ 140737488355328 := by show (gl.length + 1) * 16 ≤ _; omega
        have q3 : V.heap.size ≤ (A.alloc (.cells #[.int .i64 sr, .int .i64 sv] 41)).heap.size := by have := b2.size; simp; omega
        have b3 := b2.alloc b2.size (.cells #[.int .i64 sr, .int .i64 sv] 41)
        clear O2 hl
        go_wp2_with (first | (refine blk_load _ rfl 41 _ rfl wr.heap.size rfl _ _ S2 _ Try.underlying41 rfl 2 sy_info rfl ?_) | (at_builtin; refine rws.app_one SK _ rfl _ _ rfl V.heap.size _ gl rfl O3 A.heap.size 1 ⟨sr, sv⟩ 41 rfl L3 q1 q2 q3 ?_; intro v6 w6 o6 l6 _))
        have b6 := b3.trans l6
        go_wp2_with fail
        go_roundw
        case rel => exact ⟨i + 1, v6, by go_num, rfl, by omega, by rw [HW'.out]; exact o6, b6⟩
        case measure => simp [intOf]; omega
    · have hlt' : ¬ (i : Int) < (m : Int) := by omega
      have ei : i = m := by omega
      have HO : Hid (Own SK wr w.heap.size v5 (wo l r)) := by
        have := O.mono (B' := w.heap.size) (by omega)
        rw [ei, HE.out] at this
        exact this
      clear O ei HX HG HW HL HE
      go_wp2_with fail
      go_ret
      exact ⟨_, rfl, HO.out, b1⟩
end Go.Proofs.Ytehiipnafckjbaa.agr
