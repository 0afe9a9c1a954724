/- What custref.Hopped answers: the same as ip.Hop. -/
import Derived.Test.YtedbjhpajpakpaaDoorIpText3
import Derived.Test.YtedbjhpajpakpaaDoorIpHopMath
import Derived.Test.YtedbjhpajpakpaaDoorClass
namespace Go.Proofs.YtedbjhpajpakpaaDoor.iphr
open Go.ChangeShapes Go.WideShapes Go.ChangeAt Go.RowKit Go.BigFrame
open Go.Proofs.YtedbjhpajpakpaaDoor Go.Proofs.YtedbjhpajpakpaaDoor.EM Go.Proofs.YtedbjhpajpakpaaDoor.ethb Go.Proofs.YtedbjhpajpakpaaDoor.SM Go.Proofs.YtedbjhpajpakpaaDoor.ipb Go.Proofs.YtedbjhpajpakpaaDoor.buf Go.Proofs.YtedbjhpajpakpaaDoor.boxes Go.Proofs.YtedbjhpajpakpaaDoor.ipi Go.Proofs.YtedbjhpajpakpaaDoor.ipw Go.Proofs.YtedbjhpajpakpaaDoor.ipr Go.Proofs.YtedbjhpajpakpaaDoor.ipt Go.Proofs.YtedbjhpajpakpaaDoor.iph Go.Proofs.YtedbjhpajpakpaaDoor.iphm
open Go.Proofs.YtedbjhpajpakpaaDoor.refb (word_ref)
open Go.Proofs.YtedbjhpajpakpaaDoor.ipm (bytes_ext ext_list size_list red Red)

theorem bcall {w W w' : World} (h : Below w.heap.size w W) (hb : Below W.heap.size W w') : Below w.heap.size w w' := h.trans (hb.mono h.size)
theorem hop_joined {s : ByteArray} (h : ire s = 0) :
    (((s.extract 0 8 ++ ⟨#[hi8 (wd s 8 - 256), lo8 (wd s 8 - 256)]⟩) ++ ⟨#[hi8 (fixed s), lo8 (fixed s)]⟩) ++ s.extract 12 (an s)) = ⟨(hopl s).toArray⟩ := by
  have R := red h
  have z := R.z; have h0 := R.h0; have ha := R.ha; have a := R.a
  obtain ⟨b0, b1, b2, b3, b4, b5, b6, b7, x, b9, c0, c1, d0, d1, d2, d3, d4, d5, d6, d7, r, e⟩ := ipm.list20 (s.data.toList.take (an s)) (by rw [List.length_take, size_list]; omega)
  have d1' : ∀ a b : ByteArray, (a ++ b).data.toList = a.data.toList ++ b.data.toList := fun a b => by simp
  have e8 : s.data.toList.take 8 = [b0, b1, b2, b3, b4, b5, b6, b7] := by
    have : s.data.toList.take 8 = (s.data.toList.take (an s)).take 8 := by rw [List.take_take, Nat.min_eq_left (by omega)]
    rw [this, e]; rfl
  apply bytes_ext
  rw [d1', d1', d1', ext_list, ext_list, List.drop_zero, e8]
  show _ = hopl s
  unfold hopl putw
  rw [e]
  simp only [List.set_cons_succ, List.set_cons_zero, List.drop_succ_cons, List.drop_zero, List.cons_append, List.nil_append]
set_option maxRecDepth 20000 in
set_option maxHeartbeats 2000000 in
theorem hopped_any (s : ByteArray) (w : World) (hs : s.size ≤ 281474976710656) :
    Calls Tryd.prog 8 #[.string s] w fun e w' => e = .returned (.tuple #[.string (hops s), .int .i64 (hope s)]) ∧ Below w.heap.size w w' := by
  have CR := fun u => text_any s u hs
  by_cases h : ire s = 0
  case neg =>
    have e1 : hope s = ire s := by unfold hope; rw [if_neg h]
    have e2 : hops s = ⟨#[]⟩ := by unfold hops; rw [e1, if_neg h]
    rw [e1, e2]
    generalize ird s = R at CR
    generalize ire s = g at CR h ⊢
    have h' : (g != 0) = true := by simpa using h
    clear h e1 e2
    go_enter Tryd.func8, Tryd.ntmps8
    go_wp2_with fail
    refine (CR _).mono ?_
    rintro r w1 ⟨rfl, hb1⟩
    go_wp2_with fail
    go_ret2
    exact ⟨rfl, hb1.alloc hb1.size _⟩
  rw [h, show ird s = rdp s by unfold ird; rw [if_pos h]] at CR
  have R := red h
  have li := rdp_li s
  have hall := R.a
  have h20 := R.z
  have h0 := R.h0
  have hha := R.ha
  by_cases hl : (rdp s).li < 2
  · have e1 : hope s = 7 := by unfold hope; rw [if_pos h, if_pos hl]
    have e2 : hops s = ⟨#[]⟩ := by unfold hops; rw [e1]; rfl
    rw [e1, e2]
    generalize rdp s = P at CR hl
    clear e1 e2 li R
    go_enter Tryd.func8, Tryd.ntmps8
    go_wp2_with fail
    refine (CR _).mono ?_
    rintro r w1 ⟨rfl, hb1⟩
    go_wp2_with fail
    go_ret2
    exact ⟨rfl, hb1.alloc hb1.size _⟩
  have e1 : hope s = 0 := by unfold hope; rw [if_pos h, if_neg hl]
  have e2 : hops s = ⟨(hopl s).toArray⟩ := by unfold hops; rw [e1]; rfl
  rw [e1, e2]
  have fb := fixed_bd s (by omega)
  have w8 := wd_bd s 8
  have w10 := wd_bd s 10
  have g8 : 256 ≤ wd s 8 := by unfold wd; have := bt_bd s 9; simp only [Nat.reduceAdd]; omega
  have HJ : Hid ((((s.extract 0 8 ++ ⟨#[hi8 (wd s 8 - 256), lo8 (wd s 8 - 256)]⟩) ++ ⟨#[hi8 (fixed s), lo8 (fixed s)]⟩) ++ s.extract 12 (an s)) = ⟨(hopl s).toArray⟩) := hop_joined h
  have HF : Hid (fixed s = 65535 - ea (ea (65535 - wd s 10) (65535 - wd s 8)) (wd s 8 - 256)) := (rfl : _ = _)
  have C8 := fun u => wordAt_ref s 8 u hs (by omega)
  have C10 := fun u => wordAt_ref s 10 u hs (by omega)
  have C2 := fun u => wordAt_ref s 2 u hs (by omega)
  rw [show wd s 2 = ((an s : Nat) : Int) by unfold an; have := wd_bd s 2; omega] at C2
  have E1 := ea_bd (65535 - wd s 10) (65535 - wd s 8) (by omega) (by omega) (by omega) (by omega)
  have E2 := ea_bd (ea (65535 - wd s 10) (65535 - wd s 8)) (wd s 8 - 256) E1.1 E1.2 (by omega) (by omega)
  have CE1 := fun u => sumr.endAround_any (65535 - wd s 10) (65535 - wd s 8) u (by omega) (by omega) (by omega) (by omega)
  have CE2 := fun u => sumr.endAround_any (ea (65535 - wd s 10) (65535 - wd s 8)) (wd s 8 - 256) u E1.1 E1.2 (by omega) (by omega)
  have CV1 := fun u => word_ref (wd s 8 - 256) u (by omega) (by omega)
  have CV2 := fun u => word_ref (fixed s) u fb.1 fb.2
  rw [HF.out] at CV2
  have z1 : (⟨#[hi8 (wd s 8 - 256), lo8 (wd s 8 - 256)]⟩ : ByteArray).size = 2 := rfl
  have z2 : (⟨#[hi8 (fixed s), lo8 (fixed s)]⟩ : ByteArray).size = 2 := rfl
  rw [← HF.out] at CV2
  generalize (⟨#[hi8 (wd s 8 - 256), lo8 (wd s 8 - 256)]⟩ : ByteArray) = V1 at HJ CV1 z1
  generalize (⟨#[hi8 (fixed s), lo8 (fixed s)]⟩ : ByteArray) = V2 at HJ CV2 z2
  generalize (⟨(hopl s).toArray⟩ : ByteArray) = X at HJ ⊢
  rw [HF.out] at CV2
  clear HF
  generalize ea (65535 - wd s 10) (65535 - wd s 8) = q1 at *
  generalize ea q1 (wd s 8 - 256) = q2 at *
  have hl' : 2 ≤ (rdp s).li := by omega
  generalize rdp s = P at CR hl'
  have l20 : 20 ≤ an s := by omega
  have ia : (an s : Int) ≤ s.size := by omega
  have i12 : (12 : Int) ≤ an s := by omega
  have i8 : (8 : Int) ≤ s.size := by omega
  have y2 : (s.extract 12 (an s)).size ≤ 65535 := by
    rw [ByteArray.size_extract]; have : an s ≤ 65535 := by unfold an; have := wd_bd s 2; omega
    omega
  have y1 : (s.extract 0 8).size ≤ 8 := by rw [ByteArray.size_extract]; omega
  have sl1 : ∀ u, (Instr.slice 9 (.string s) none (some (.int .i64 8)) none).run Tryd.prog u = .ok (.string (s.extract 0 8)) u := fun u => by
    have := run_slice_string_h u 9 s Tryd.underlying9 .i64 8 (by omega) i8
    simpa using this
  have sl2 : ∀ u, (Instr.slice 9 (.string s) (some (.int .i64 12)) (some (.int .i64 (an s))) none).run Tryd.prog u = .ok (.string (s.extract 12 (an s))) u := fun u => by
    have := run_slice_string (P := Tryd.prog) u 9 s .i64 .i64 12 (an s) Tryd.underlying9 (by omega) i12 ia
    simpa using this
  clear e1 e2 li R hl h hall hha
  generalize an s = al at *
  go_enter Tryd.func8, Tryd.ntmps8
  go_wp2_with fail
  refine (CR _).mono ?_
  rintro r w1 ⟨rfl, hb1⟩
  have bel1 := hb1.alloc hb1.size (.cells P.cells 31)
  clear CR hb1
  go_wp2_with fail
  refine (C8 _).mono ?_
  rintro r w2 ⟨rfl, rfl⟩
  clear C8
  go_wp2_with fail
  refine (C10 _).mono ?_
  rintro r w2 ⟨rfl, rfl⟩
  clear C10
  go_wp2_with fail
  refine (CE1 _).mono ?_
  rintro r w2 ⟨rfl, rfl⟩
  clear CE1
  go_wp2_with fail
  refine (CE2 _).mono ?_
  rintro r w2 ⟨rfl, rfl⟩
  clear CE2
  go_upto_region 9 with fail
  have ne : Nonempty (cls.In (Below w.heap.size w)) := ⟨⟨_, bel1⟩⟩
  refine cls.wp_region_class (Below w.heap.size w) (by kernel_rfl) (by kernel_rfl) (Below.drew bel1) ?_
  repeat (go_big_quiet_step (first
    | (go_at_call 22; exact cls.call_class (C2 _) fun _ hb => hb ▸ cls.In.h _)
    | (go_at_call 24; first | exact cls.call_class (CV1 _) fun _ hb => bcall (cls.In.h _) hb | exact cls.call_class (CV2 _) fun _ hb => bcall (cls.In.h _) hb)))
  refine wpQuiet_nil ?_
  intro _ hx
  obtain ⟨y, rfl⟩ := hx
  go_wp2_with fail
  go_ret2
  exact ⟨ret_text HJ.out rfl, y.h⟩
end Go.Proofs.YtedbjhpajpakpaaDoor.iphr
