/- What the document's own answers to Mss and Move (package custref) come to. -/
import Derived.Test.YtpcknkpddinccaaTcpMvWalk
import Derived.Test.YtpcknkpddinccaaShelfOp
namespace Go.Proofs.Ytpcknkpddinccaa.tcr
open Go.ChangeShapes Go.WideShapes Go.ChangeAt Go.RowKit Go.BigFrame
open Go.Proofs.Ytpcknkpddinccaa Go.Proofs.Ytpcknkpddinccaa.EM Go.Proofs.Ytpcknkpddinccaa.ethb Go.Proofs.Ytpcknkpddinccaa.SM Go.Proofs.Ytpcknkpddinccaa.ipb Go.Proofs.Ytpcknkpddinccaa.boxes Go.Proofs.Ytpcknkpddinccaa.wds Go.Proofs.Ytpcknkpddinccaa.tcb Go.Proofs.Ytpcknkpddinccaa.tci Go.Proofs.Ytpcknkpddinccaa.tcv Go.Proofs.Ytpcknkpddinccaa.rwr Go.Proofs.Ytpcknkpddinccaa.tcm Go.Proofs.Ytpcknkpddinccaa.tcw
open Go.Proofs.Ytpcknkpddinccaa.rws (Knd Own app_one)
open Go.Proofs.Ytpcknkpddinccaa.ipm (bytes_ext ext_list size_list)

theorem plus_any (a b : Int) (w : World) (a0 : 0 ≤ a) (a1 : a ≤ 4294967295) (b0 : 0 ≤ b) (b1 : b ≤ 4294967295) :
    Calls Try.prog 15 #[.int .u32 a, .int .u32 b] w fun e w' => e = .returned (.int .u32 ((a + b) % 4294967296)) ∧ w' = w := by
  go_enter Try.func15, Try.ntmps15
  go_wp2
  go_ret
  exact ⟨ret_int (by omega), rfl⟩
theorem mpred (w : World) : PredBelow Try.prog 11 #[] (fun x : Opt => .agg x.cells.toList.toArray) isM w := fun W x hb => by
  have b1 := hb.alloc hb.size (.cells x.cells 32)
  show Calls Try.prog 11 #[.agg x.cells] W fun e w' => e = .returned (.bool (isM x)) ∧ _
  have E : Hid (isM x = (decide (x.ki = 2) && decide (x.d.size = 2))) := (rfl : _ = _)
  obtain ⟨ki, d⟩ := x
  by_cases k2 : ki = 2
  · subst k2
    by_cases d2 : d.size = 2
    · have e : isM ⟨2, d⟩ = true := by rw [E.out]; simp [d2]
      have d2' : (d.size : Int) = 2 := by omega
      rw [e]
      clear e E
      go_enter Try.func11, Try.ntmps11
      go_wp2_with fail
      go_ret
      exact ⟨rfl, b1⟩
    · have e : isM ⟨2, d⟩ = false := by rw [E.out]; simp [d2]
      have d2' : ((d.size : Int) == 2) = false := by simp; omega
      rw [e]
      clear e E d2
      go_enter Try.func11, Try.ntmps11
      go_wp2_with fail
      go_ret
      exact ⟨rfl, b1⟩
  · have e : isM ⟨ki, d⟩ = false := by rw [E.out]; simp [k2]
    have k2' : (ki == 2) = false := by simpa using k2
    rw [e]
    clear e E k2
    go_enter Try.func11, Try.ntmps11
    go_wp2_with fail
    go_ret
    exact ⟨rfl, b1⟩
/-- where the first is -/
theorem idx_of (x : Opt) : ∀ (os : List Opt) (i : Nat), (∃ j o, os[j]? = some o ∧ os.find? isM = some o ∧ Lib.idxByFrom (fun _ y : Opt => isM y) x os i = ((i + j : Nat) : Int)) ∨ (os.find? isM = none ∧ Lib.idxByFrom (fun _ y : Opt => isM y) x os i = -1)
  | [], i => Or.inr ⟨rfl, rfl⟩
  | y :: r, i => by
    have st : Lib.idxByFrom (fun _ y : Opt => isM y) x (y :: r) i = if isM y = true then (i : Int) else Lib.idxByFrom (fun _ y : Opt => isM y) x r (i + 1) := rfl
    by_cases hy : isM y = true
    · exact Or.inl ⟨0, y, rfl, by rw [List.find?_cons, hy], by rw [st, if_pos hy]; simp⟩
    · have hy' : isM y = false := by simpa using hy
      rcases idx_of x r (i + 1) with ⟨j, o, h1, h2, h3⟩ | ⟨h1, h2⟩
      · exact Or.inl ⟨j + 1, o, h1, by rw [List.find?_cons, hy', h2], by rw [st, if_neg hy, h3]; omega⟩
      · exact Or.inr ⟨by rw [List.find?_cons, hy', h1], by rw [st, if_neg hy, h2]⟩
theorem idx_none (sa : Option Addr) (sc : Nat) (f : Value) (w : World) : Calls Try.prog 10 #[.slice sa 0 sc, f] w fun e w' => e = .returned (.int .i64 (-1)) ∧ Below w.heap.size w w' := by
  go_enter Try.func10, Try.ntmps10
  go_wp2
  go_loopg [8] 0 (fun g s13 wr => s13 = .int .i64 0 ∧ wr = w)
  case atStart => exact ⟨rfl, rfl⟩
  case round =>
    obtain ⟨rfl, rfl⟩ := hrel
    go_wp2
    go_ret
    exact ⟨rfl, Below.refl _ _⟩
theorem index_any (v : Value) (os : List Opt) (w : World) (hr : Rd OK w v os) :
    Calls Try.prog 10 #[v, .func (.func 11) #[] #[]] w fun e w' => (∃ (j : Nat) (o : Opt), os[j]? = some o ∧ os.find? isM = some o ∧ e = .returned (.int .i64 j) ∧ Below w.heap.size w w') ∨ (os.find? isM = none ∧ e = .returned (.int .i64 (-1)) ∧ Below w.heap.size w w') := by
  obtain ⟨sa, sc, rfl, hm, hn, hc⟩ := hr
  by_cases hX : 0 < os.length
  · obtain ⟨b, off, rfl, hlt, hx⟩ := hc hX
    have eg : ∀ args w, (callFunc 11 args).run Try.prog w = .ok (.enter 11 args) w := enters_of Try.func11 (by kernel_rfl) rfl
    refine (AnyQ.slices_IndexFunc Try.idxOp 2 Try.isAgg32 Try.sizeOf32 (fun x : Opt => x.cells.toList) (fun _ => rfl) isM 11 #[] eg b off os.length sc os _ (mpred _) (Nat.le_refl _) (by unfold maxLen at hm; omega) hlt (rd_cells (K := OK) hx)).mono ?_
    rintro e w' ⟨rfl, hb⟩
    rw [List.take_length]
    unfold Lib.idxBy
    rcases idx_of default os 0 with ⟨j, o, h1, h2, h3⟩ | ⟨h1, h2⟩
    · exact Or.inl ⟨j, o, h1, h2, by rw [h3, Nat.zero_add], hb⟩
    · exact Or.inr ⟨h1, by rw [h2], hb⟩
  · have : os = [] := List.eq_nil_of_length_eq_zero (by omega)
    subst this
    refine (idx_none sa sc _ w).mono ?_
    rintro e w' ⟨rfl, hb⟩
    exact Or.inr ⟨rfl, rfl, hb⟩
set_option maxHeartbeats 1000000 in
theorem mssOf_any (h : Sh) (v : Value) (os : List Opt) (w : World) (hr : Rd OK w v os) (hz : ∀ o ∈ os, o.d.size ≤ 281474976710656) :
    Calls Try.prog 5 #[.agg (h.cells v)] w fun e w' => e = .returned (.tuple #[.int .i64 (mss os).1, .bool (mss os).2]) ∧ Below w.heap.size w w' := by
  have b0 := (Below.refl w.heap.size w).alloc (Nat.le_refl _) (.cells (h.cells v) 25)
  have F0 := Blk.new w (h.cells v) 25
  have C := index_any v os _ (hr.below b0)
  have hr0 := hr
  obtain ⟨sa, sc, rfl, hm, hn, hc⟩ := hr
  have HM : Hid (∀ r, os.find? isM = r → mss os = match r with | some o => (wd o.d 0, true) | none => (0, false)) := fun r hr => by subst hr; rfl
  obtain ⟨M, eM⟩ : ∃ M, M = mss os := ⟨_, rfl⟩
  rw [← eM] at HM ⊢
  clear eM
  go_enter Try.func5, Try.ntmps5
  go_wp2_with fail
  refine C.mono ?_
  rintro e w1 (⟨j, o, ho, hf, rfl, hb⟩ | ⟨hf, rfl, hb⟩)
  · have E : Hid (M = (wd o.d 0, true)) := HM.out _ hf
    have F1 := F0.below hb F0.lt
    have b1 := b0.trans (hb.mono b0.size)
    have jl := (List.getElem?_eq_some_iff.1 ho).1
    have jl' : (j : Int) < (os.length : Int) := by omega
    have oz := hz o (List.mem_of_getElem? ho)
    have om : isM o = true := List.find?_some hf
    have o2 : o.d.size = 2 := by simp [isM] at om; omega
    obtain ⟨b, off, rfl, hlt, hx⟩ := hc (by omega)
    have ce : w1.cell? ⟨b, off + j * 2 + 1, none⟩ = some (.string o.d) := (b1.cell (p := ⟨b, off + j * 2 + 1, none⟩) hlt).trans (hx j o ho 1 (by decide))
    have cf := F1.cell
    have CW := fun u => wordAt_ref o.d 0 u (by omega) (by omega)
    have b2 := wd_bd o.d 0
    clear C HM hc hn hm F0 b0 hf ho om hb hr0 hz
    generalize os.length = n at *
    go_wp2_with fail
    refine (CW _).mono ?_
    rintro e w2 ⟨rfl, rfl⟩
    go_wp2_with fail
    go_ret2
    exact ⟨by rw [E.out]; rfl, b1⟩
  · have E : Hid (M = (0, false)) := HM.out _ hf
    have b1 := b0.trans (hb.mono b0.size)
    clear C HM hc hf hb hr0
    go_wp2_with fail
    go_ret2
    exact ⟨by rw [E.out]; rfl, b1⟩
end Go.Proofs.Ytpcknkpddinccaa.tcr
