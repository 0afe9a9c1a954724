/- What package serial's begin, behind and Trim answer. -/
import Derived.Test.YtdmlfnhlgnhkdaaSerIn
namespace Go.Proofs.Ytdmlfnhlgnhkdaa.sert
open Go.ChangeShapes Go.WideShapes Go.ChangeAt Go.RowKit
open Go.Proofs.Ytdmlfnhlgnhkdaa.seri

def emp : ByteArray := ⟨#[]⟩
/-- as much of d as is within -/
def bg (a : Int) (d : ByteArray) (f s : Int) : ByteArray := if wy f a < s then (if s - wy f a < d.size then d.extract 0 (s - wy f a).toNat else d) else emp
def bh (d : ByteArray) (n : Int) : ByteArray := if (d.size : Int) ≤ n then emp else d.extract n.toNat d.size
def t1 (a : Int) (d : ByteArray) (f s : Int) : ByteArray := bg a d f s
def t2 (a : Int) (d : ByteArray) (f s : Int) : ByteArray := bg f (bh d (wy a f)) f s
def tr (a : Int) (d : ByteArray) (f s : Int) : Int × ByteArray := if t1 a d f s ≠ emp ∧ (t2 a d f s).size ≤ (t1 a d f s).size then (a, t1 a d f s) else (f, t2 a d f s)

theorem begin_any (a : Int) (d : ByteArray) (f s : Int) (w : World) (s0 : 0 ≤ s) (s1 : s < 4294967296) (hd : d.size ≤ 281474976710656) :
    Calls Try.prog 19 #[.int .u32 a, .string d, .int .u32 f, .int .u32 s] w fun e w' => e = .returned (.string (bg a d f s)) ∧ w' = w := by
  obtain ⟨R, HR⟩ : ∃ R, Hid (bg a d f s = R) := ⟨_, (rfl : _ = _)⟩
  rw [HR.out]
  go_enter Try.func19, Try.ntmps19
  go_wp2_with fail
  refine (within_any _ _ _ _).mono ?_
  rintro e w' ⟨rfl, rfl⟩
  have hw := wy_bd f a
  by_cases h : wy f a < s
  · have hi : inn a f s = true := by unfold inn; exact decide_eq_true h
    rw [hi]
    go_wp2_with fail
    refine (way_any _ _ _).mono ?_
    rintro e w' ⟨rfl, rfl⟩
    have HB : Hid (bg a d f s = if s - wy f a < d.size then d.extract 0 (s - wy f a).toNat else d) := by show _ = _; unfold bg; rw [if_pos h]
    generalize wy f a = x at *
    have e1 : (s - x) % 4294967296 = s - x := by omega
    by_cases g : s - x < d.size
    · have sl : ∀ u, (Instr.slice 9 (.string d) none (some (.int .u32 (s - x))) none).run Try.prog u = .ok (.string (d.extract 0 (s - x).toNat)) u := fun u =>
        run_slice_string_h u 9 d Try.underlying9 .u32 (s - x) (by omega) (by omega)
      go_wp2_with fail
      go_ret
      exact ⟨by rw [← HR.out, HB.out, if_pos g]; rfl, rfl⟩
    · go_wp2_with fail
      go_ret
      exact ⟨by rw [← HR.out, HB.out, if_neg (by omega)]; rfl, rfl⟩
  · have hi : inn a f s = false := by unfold inn; exact decide_eq_false h
    have HB : Hid (bg a d f s = emp) := by show _ = _; unfold bg; rw [if_neg h]
    rw [hi]
    go_wp2_with fail
    go_ret
    exact ⟨by rw [← HR.out, HB.out]; rfl, rfl⟩
theorem behind_any (d : ByteArray) (n : Int) (w : World) (n0 : 0 ≤ n) (n1 : n < 4294967296) (hd : d.size ≤ 281474976710656) :
    Calls Try.prog 20 #[.string d, .int .u32 n] w fun e w' => e = .returned (.string (bh d n)) ∧ w' = w := by
  unfold bh
  by_cases h : (d.size : Int) ≤ n
  · rw [if_pos h]
    go_enter Try.func20, Try.ntmps20
    go_wp2_with fail
    go_ret
    exact ⟨rfl, rfl⟩
  · rw [if_neg h]
    have sl : ∀ u, (Instr.slice 9 (.string d) (some (.int .u32 n)) none none).run Try.prog u = .ok (.string (d.extract n.toNat d.size)) u := fun u =>
      run_slice_string_l u 9 d Try.underlying9 .u32 n (by omega) (by omega)
    go_enter Try.func20, Try.ntmps20
    go_wp2_with fail
    go_ret
    exact ⟨rfl, rfl⟩
theorem bh_size (d : ByteArray) (n : Int) : (bh d n).size ≤ d.size := by
  unfold bh; split
  · exact Nat.zero_le _
  · rw [ByteArray.size_extract]; omega
theorem ne_list {x : ByteArray} (h : ¬ x = emp) : x.toList.isEmpty = false := by
  obtain ⟨⟨l⟩⟩ := x
  cases l with
  | nil => exact absurd rfl h
  | cons y r => simp [ByteArray.toList_eq]
theorem ne_list' {x : ByteArray} (h : ¬ x = emp) : ¬ x.toList = [] := fun e => by
  have := ne_list h; rw [e] at this; exact absurd this (by decide)
theorem trim_any (a : Int) (d : ByteArray) (f s : Int) (w : World) (s0 : 0 ≤ s) (s1 : s < 4294967296) (hd : d.size ≤ 281474976710656) :
    Calls Try.prog 14 #[.int .u32 a, .string d, .int .u32 f, .int .u32 s] w fun e w' => e = .returned (.tuple #[.int .u32 (tr a d f s).1, .string (tr a d f s).2]) ∧ w' = w := by
  have hw := wy_bd a f
  have hb := bh_size d (wy a f)
  obtain ⟨R, HR⟩ : ∃ R, Hid (tr a d f s = R) := ⟨_, (rfl : _ = _)⟩
  rw [HR.out]
  obtain ⟨r1, r2⟩ := R
  have HT : Hid ((r1, r2) = if bg a d f s ≠ emp ∧ (bg f (bh d (wy a f)) f s).size ≤ (bg a d f s).size then (a, bg a d f s) else (f, bg f (bh d (wy a f)) f s)) := HR.out.symm
  clear HR
  go_enter Try.func14, Try.ntmps14
  go_wp2_with fail
  refine (begin_any _ _ _ _ _ s0 s1 hd).mono ?_
  rintro e w' ⟨rfl, rfl⟩
  go_wp2_with fail
  refine (way_any _ _ _).mono ?_
  rintro e w' ⟨rfl, rfl⟩
  go_wp2_with fail
  refine (behind_any _ _ _ hw.1 hw.2 hd).mono ?_
  rintro e w' ⟨rfl, rfl⟩
  go_wp2_with fail
  refine (begin_any _ _ _ _ _ s0 s1 (by omega)).mono ?_
  rintro e w' ⟨rfl, rfl⟩
  clear hb
  generalize bg f (bh d (wy a f)) f s = y at *
  generalize bg a d f s = x at *
  by_cases h : x = emp
  · have e := HT.out
    rw [if_neg (fun k => k.1 h)] at e
    obtain ⟨e1, e2⟩ := Prod.mk.inj e
    clear HT e
    subst h e1 e2
    unfold emp
    go_wp2_with fail
    go_ret2
    exact ⟨rfl, rfl⟩
  · have hx := ne_list h
    have hx' := ne_list' h
    by_cases g : y.size ≤ x.size
    · have e := HT.out
      rw [if_pos ⟨h, g⟩] at e
      obtain ⟨e1, e2⟩ := Prod.mk.inj e
      clear HT e
      subst e1 e2
      go_wp2_with fail
      go_ret2
      exact ⟨rfl, rfl⟩
    · have e := HT.out
      rw [if_neg (fun k => g k.2)] at e
      obtain ⟨e1, e2⟩ := Prod.mk.inj e
      clear HT e
      subst e1 e2
      go_wp2_with fail
      go_ret2
      exact ⟨rfl, rfl⟩
end Go.Proofs.Ytdmlfnhlgnhkdaa.sert
