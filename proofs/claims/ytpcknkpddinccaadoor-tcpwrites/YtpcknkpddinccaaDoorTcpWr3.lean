/- What tcp.Write answers where a segment can't be written, and that it changes nothing that was there. -/
import Derived.Test.YtpcknkpddinccaaDoorTcpMvIn
import Derived.Test.YtpcknkpddinccaaDoorTcpWr2
namespace Go.Proofs.YtpcknkpddinccaaDoor.tcw3
open Go.ChangeShapes Go.WideShapes Go.ChangeAt Go.RowKit Go.BigFrame
open Go.Proofs.YtpcknkpddinccaaDoor Go.Proofs.YtpcknkpddinccaaDoor.EM Go.Proofs.YtpcknkpddinccaaDoor.ethb Go.Proofs.YtpcknkpddinccaaDoor.SM Go.Proofs.YtpcknkpddinccaaDoor.ipb Go.Proofs.YtpcknkpddinccaaDoor.boxes Go.Proofs.YtpcknkpddinccaaDoor.buf Go.Proofs.YtpcknkpddinccaaDoor.wds Go.Proofs.YtpcknkpddinccaaDoor.tcb Go.Proofs.YtpcknkpddinccaaDoor.tci Go.Proofs.YtpcknkpddinccaaDoor.tcm Go.Proofs.YtpcknkpddinccaaDoor.tct Go.Proofs.YtpcknkpddinccaaDoor.rwr Go.Proofs.YtpcknkpddinccaaDoor.tcw1 Go.Proofs.YtpcknkpddinccaaDoor.tcw2 Go.Proofs.YtpcknkpddinccaaDoor.tcv Go.Proofs.YtpcknkpddinccaaDoor.dgb
open Go.Proofs.YtpcknkpddinccaaDoor.rws (Knd)
open Go.Proofs.YtpcknkpddinccaaDoor.dgi (Ad)
open Go.Proofs.YtpcknkpddinccaaDoor.ipb (ret_text)
open Go.Proofs.YtpcknkpddinccaaDoor.ipm (bytes_ext ext_list size_list)

theorem sarg_iff (h : Sh) : (¬ sarg h) ↔ ([h.fr, h.to, h.wi, h.ur].all (inr 65535) = true ∧ [h.fl].all (inr 255) = true) := by
  unfold sarg inr
  simp only [List.all_cons, List.all_nil, Bool.and_true, Bool.and_eq_true, decide_eq_true_eq]
  constructor
  · intro hh; omega
  · intro hh; omega
set_option maxRecDepth 20000 in
set_option maxHeartbeats 4000000 in
theorem write_bad (h : Sh) (v : Value) (os : List Opt) (f t : Int) (w : World) (hr : Rd OK w v os) (hl : os.length ≤ 6000000000000) (hd : h.d.size ≤ 140737488351232) (hn : ¬ serr h os = 0) :
    Calls Tryd.prog 8 #[.agg (h.cells v), .int .u32 f, .int .u32 t] w fun e w' => e = .returned (.tuple #[.string ⟨#[]⟩, .int .i64 (serr h os)]) ∧ Below w.heap.size w w' := by
  have HE : Hid (serr h os = if sarg h then 1 else if os.all ook = false then 4 else if 40 < oln os ∨ 65455 < h.d.size then 2 else 0) := (rfl : _ = _)
  have HS : Hid ((¬ sarg h) ↔ ([h.fr, h.to, h.wi, h.ur].all (inr 65535) = true ∧ [h.fl].all (inr 255) = true)) := sarg_iff h
  have HL : Hid (lof os = if os.all ook = true then (((oln os : Nat) : Int), true) else (0, false)) := (rfl : _ = _)
  have CL := fun u hu => longOf_any v os u hu hl
  have HN : Hid (¬ serr h os = 0) := hn
  obtain ⟨c, ec⟩ : ∃ c, c = serr h os := ⟨_, rfl⟩
  rw [← ec] at HE HN ⊢
  clear ec hn
  have b1 := ((Below.refl w.heap.size w).alloc (Nat.le_refl _) (.cells (h.cells v) 25)).alloc (by simp) (.cells #[.int .i64 h.fr, .int .i64 h.to, .int .i64 h.wi, .int .i64 h.ur] 3)
  have b2 := b1.alloc (by simp; omega) (.cells #[.int .i64 h.fl] 3)
  have C1 := within_any 65535 ((w.alloc (.cells (h.cells v) 25)).alloc (.cells #[.int .i64 h.fr, .int .i64 h.to, .int .i64 h.wi, .int .i64 h.ur] 3)) (w.heap.size + 1) 4 4 [h.fr, h.to, h.wi, h.ur] rfl (by simp) (Blk.newAt _ _ _ (by simp))
  have C2 := within_any 255 (((w.alloc (.cells (h.cells v) 25)).alloc (.cells #[.int .i64 h.fr, .int .i64 h.to, .int .i64 h.wi, .int .i64 h.ur] 3)).alloc (.cells #[.int .i64 h.fl] 3)) (w.heap.size + 2) 1 1 [h.fl] rfl (by simp) (Blk.newAt _ _ _ (by simp))
  have F2 : Blk (((w.alloc (.cells (h.cells v) 25)).alloc (.cells #[.int .i64 h.fr, .int .i64 h.to, .int .i64 h.wi, .int .i64 h.ur] 3)).alloc (.cells #[.int .i64 h.fl] 3)) w.heap.size (h.cells v) 25 := ((Blk.new _ _ _).alloc _).alloc _
  have r2 := hr.below b2
  obtain ⟨A1, e1⟩ : ∃ A1, A1 = [h.fr, h.to, h.wi, h.ur].all (inr 65535) := ⟨_, rfl⟩
  obtain ⟨A2, e2⟩ : ∃ A2, A2 = [h.fl].all (inr 255) := ⟨_, rfl⟩
  rw [← e1] at C1 HS
  rw [← e2] at C2 HS
  obtain ⟨sa, sc, rfl⟩ := hr.form
  clear e1 e2 hr hl
  go_enter Tryd.func8, Tryd.ntmps8
  go_wp2_with fail
  refine C1.mono ?_
  rintro e w1 ⟨rfl, rfl⟩
  by_cases a1 : A1 = true
  case neg =>
    have a1' : A1 = false := by simpa using a1
    have E : Hid (c = 1) := by show _ = _; rw [HE.out, if_pos (by have := HS.out; rw [a1'] at this; simpa using this)]
    subst a1'
    clear HE HS HN HL CL C1 C2 F2 r2 a1
    go_wp2_with fail
    go_ret2
    exact ⟨ret_text rfl E.out.symm, b1⟩
  subst a1
  go_wp2_with fail
  refine C2.mono ?_
  rintro e w1 ⟨rfl, rfl⟩
  by_cases a2 : A2 = true
  case neg =>
    have a2' : A2 = false := by simpa using a2
    have E : Hid (c = 1) := by show _ = _; rw [HE.out, if_pos (by have := HS.out; rw [a2'] at this; simpa using this)]
    subst a2'
    clear HE HS HN HL CL C1 C2 F2 r2 a2
    go_wp2_with fail
    go_ret2
    exact ⟨ret_text rfl E.out.symm, b2⟩
  subst a2
  have HE1 : Hid (c = if os.all ook = false then 4 else if 40 < oln os ∨ 65455 < h.d.size then 2 else 0) := by show _ = _; rw [HE.out, if_neg (HS.out.2 (by simp))]
  clear HE HS C1 C2 b1
  go_wp2_with fail
  refine (CL _ r2).mono ?_
  rintro e w3 ⟨rfl, h3⟩
  have F3 := F2.below h3 F2.lt
  have b3 := b2.trans (h3.mono b2.size)
  have cf := F3.cell
  clear CL r2 F2 b2 h3
  by_cases ok : os.all ook = true
  case neg =>
    have ok' : os.all ook = false := by simpa using ok
    have E : Hid (c = 4) := by show _ = _; rw [HE1.out, if_pos ok']
    rw [HL.out, if_neg ok]
    clear HE1 HL HN ok ok'
    go_wp2_with fail
    go_ret2
    exact ⟨ret_text rfl E.out.symm, b3⟩
  have HE2 : Hid (c = if 40 < oln os ∨ 65455 < h.d.size then 2 else 0) := by show _ = _; rw [HE1.out, if_neg (by rw [ok]; simp)]
  rw [HL.out, if_pos ok]
  clear HE1 HL ok
  generalize oln os = m at *
  by_cases m1 : 40 < m
  · have E : Hid (c = 2) := by show _ = _; rw [HE2.out, if_pos (Or.inl m1)]
    have m1' : (40 : Int) < (m : Int) := by omega
    clear HE2 HN m1
    go_wp2_with fail
    go_ret2
    exact ⟨ret_text rfl E.out.symm, b3⟩
  · by_cases d1 : 65455 < h.d.size
    · have E : Hid (c = 2) := by show _ = _; rw [HE2.out, if_pos (Or.inr d1)]
      have m1' : ¬ (40 : Int) < (m : Int) := by omega
      have d1' : (65455 : Int) < (h.d.size : Int) := by omega
      clear HE2 HN m1 d1
      go_wp2_with fail
      go_ret2
      exact ⟨ret_text rfl E.out.symm, b3⟩
    · exact absurd (by rw [HE2.out, if_neg (by omega)]) HN.out
end Go.Proofs.YtpcknkpddinccaaDoor.tcw3
