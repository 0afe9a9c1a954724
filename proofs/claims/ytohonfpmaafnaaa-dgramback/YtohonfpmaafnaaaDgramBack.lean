/- For every letter l, note n and addresses the law DgramBack returns true: letters and notes are read as they were written, a letter under swapped addresses too; there are no conditions. -/
import Derived.Test.YtohonfpmaafnaaaDgLives
import Derived.Test.YtohonfpmaafnaaaArgsDg
import Derived.Test.YtohonfpmaafnaaaRows
import Derived.WalkKit
import Derived.ProofKit
import Derived.OpenShut
import Derived.ShutString
import Derived.ChangeOld
import Derived.Below
import Derived.SizedLaws
namespace Go.Proofs.Ytohonfpmaafnaaa.dgramBack
open Go.ChangeShapes Go.WideShapes Go.ChangeAt Go.RowKit
open Go.ChangeMaps (open_string shut_string)
set_option linter.unusedVariables false

theorem own : ownKnob Try.prog.godebug = none := by kernel_rfl
theorem laidOut : laidOutB Try.prog = true := by kernel_rfl

open Go.Proofs.Ytohonfpmaafnaaa Go.Proofs.Ytohonfpmaafnaaa.boxes Go.Proofs.Ytohonfpmaafnaaa.argsd Go.Proofs.Ytohonfpmaafnaaa.dgb Go.Proofs.Ytohonfpmaafnaaa.dgi Go.Proofs.Ytohonfpmaafnaaa.dgw Go.Proofs.Ytohonfpmaafnaaa.dgn Go.Proofs.Ytohonfpmaafnaaa.dgl
set_option maxHeartbeats 2000000 in
theorem walk (p : Lt) (n : Nt) (f t : Int) (h : p.d.size ≤ 281474976710656) (hn : n.d.size ≤ 281474976710656) (hf : Ad f) (ht : Ad t) (w : World) :
    Calls Try.prog 5 #[.agg p.cells, .agg n.cells, .int .u32 f, .int .u32 t] w fun e w' => e = .returned (.bool true) ∧ Below w.heap.size w w' := by
  have CW := fun u => write_any p f t u (by omega) hf ht
  have CN := fun u => writeNote_any n u (by omega)
  have HL : Hid (p.err = 0 → (∀ u, Calls Try.prog 10 #[.string (p.out f t), .int .u32 f, .int .u32 t] u fun e w' => e = .returned (.tuple #[.agg p.cells, .int .i64 0]) ∧ Below u.heap.size u w') ∧ (∀ u, Calls Try.prog 10 #[.string (p.out f t), .int .u32 t, .int .u32 f] u fun e w' => e = .returned (.tuple #[.agg p.cells, .int .i64 0]) ∧ Below u.heap.size u w')) := by
    show _ → _
    intro he
    have hp := Lt.ok he
    have eo : p.out f t = ⟨(p.txt f t).toArray⟩ := by unfold Lt.out; rw [if_pos he]
    have zs : (⟨(p.txt f t).toArray⟩ : ByteArray).size ≤ 281474976710656 := by
      have : (p.txt f t).toArray.size = 8 + p.d.size := by rw [List.size_toArray, p.txt_len]
      have d1 := hp.d1
      show (p.txt f t).toArray.size ≤ _
      omega
    obtain ⟨⟨a1, a2⟩, a3, a4⟩ := dgm.back p hp f t hf.l hf.u ht.l ht.u
    rw [eo]
    refine ⟨fun u => ?_, fun u => ?_⟩
    · have := dgr.read_any ⟨(p.txt f t).toArray⟩ f t u zs hf ht
      rw [a1, a2] at this; exact this
    · have := dgr.read_any ⟨(p.txt f t).toArray⟩ t f u zs ht hf
      rw [a3, a4] at this; exact this
  have HN : Hid (n.err = 0 → ∀ u, Calls Try.prog 16 #[.string n.out] u fun e w' => e = .returned (.tuple #[.agg n.cells, .int .i64 0]) ∧ Below u.heap.size u w') := by
    show _ → _
    intro he u
    have hp := Nt.ok he
    have eo : n.out = ⟨n.txt.toArray⟩ := by unfold Nt.out; rw [if_pos he]
    have d1 := hp.d1
    obtain ⟨a1, a2⟩ := dgm.nback n hp
    have := readNote_any ⟨n.txt.toArray⟩ u (by rw [dgm.nt_size]; omega)
    rw [a1, a2] at this
    rw [eo]; exact this
  have Z := fun u => four_eq n.r0 n.r1 n.r2 n.r3 9997 u
  generalize p.out f t = S at CW HL
  generalize p.err = pe at CW HL
  generalize n.out = T at CN HN
  generalize n.err = ne at CN HN
  have F0 : Blk ((w.alloc (.cells p.cells 23)).alloc (.cells n.cells 34)) w.heap.size p.cells 23 := (Blk.new _ _ _).alloc _
  have G0 : Blk ((w.alloc (.cells p.cells 23)).alloc (.cells n.cells 34)) (w.heap.size + 1) n.cells 34 := Blk.newAt _ _ _ (by simp)
  have b0 := ((Below.refl w.heap.size w).alloc (Nat.le_refl _) (.cells p.cells 23)).alloc (by simp) (.cells n.cells 34)
  -- what follows the letters
  have tail : ∀ u : World, Blk u (w.heap.size + 1) n.cells 34 → Below w.heap.size w u → True := fun _ _ _ => trivial
  clear tail
  go_enter Try.func5, Try.ntmps5
  go_wp2_with (refine blk_load _ rfl 23 _ rfl w.heap.size rfl _ _ F0 _ Try.underlying23 rfl 3 lt_info rfl ?_)
  refine (CW _).mono ?_
  rintro r w1 ⟨rfl, hb1⟩
  have F1 := F0.below hb1 F0.lt
  have G1 := G0.below hb1 G0.lt
  have b1 := b0.trans (hb1.mono b0.size)
  clear CW F0 G0 b0 hb1
  by_cases pz : pe = 0
  case neg =>
    have pz' : (pe == 0) = false := by simpa using pz
    clear HL pz
    go_wp2_with (refine blk_load _ rfl 34 _ rfl (w.heap.size + 1) rfl _ _ G1 _ Try.underlying34 rfl 7 nt_info rfl ?_)
    refine (CN _).mono ?_
    rintro r w2 ⟨rfl, hb2⟩
    have G2 := G1.below hb2 G1.lt
    have b2 := b1.trans (hb2.mono b1.size)
    clear CN F1 G1 b1 hb2
    by_cases nz : ne = 0
    case neg =>
      have nz' : (ne == 0) = false := by simpa using nz
      clear HN nz
      go_wp2_with fail
      refine (lives _).mono ?_
      rintro r w3 ⟨rfl, hb3⟩
      have b3 := b2.trans (hb3.mono b2.size)
      go_wp2_with fail
      go_ret
      exact ⟨rfl, b3⟩
    subst nz
    have CR := HN.out rfl
    clear HN
    go_wp2_with fail
    refine (CR _).mono ?_
    rintro r w3 ⟨rfl, hb3⟩
    have G3 := G2.below hb3 G2.lt
    have b3 := b2.trans (hb3.mono b2.size)
    clear CR G2 b2 hb3
    have c3 := G3.cell
    have l3 := G3.lt
    go_wp2_with fail
    refine (lives _).mono ?_
    rintro r w4 ⟨rfl, hb4⟩
    have b4' := b3.alloc b3.size (.cells n.cells 34)
    have b4 := b4'.trans (hb4.mono b4'.size)
    go_wp2_with fail
    go_ret
    exact ⟨rfl, b4⟩
  subst pz
  obtain ⟨CR1, CR2⟩ := HL.out rfl
  clear HL
  go_wp2_with fail
  refine (CR1 _).mono ?_
  rintro r w2 ⟨rfl, hb2⟩
  have F2 := F1.below hb2 F1.lt
  have G2 := G1.below hb2 G1.lt
  have b2 := b1.trans (hb2.mono b1.size)
  clear CR1 F1 G1 b1 hb2
  go_wp2_with fail
  refine (CR2 _).mono ?_
  rintro r w3 ⟨rfl, hb3⟩
  have b3' := b2.alloc b2.size (.cells p.cells 23)
  have H3 := (Blk.new w2 p.cells 23).below hb3 (by simp)
  have F3 := (F2.alloc (.cells p.cells 23)).below hb3 (F2.alloc _).lt
  have G3 := (G2.alloc (.cells p.cells 23)).below hb3 (G2.alloc _).lt
  have b3 := b3'.trans (hb3.mono b3'.size)
  clear CR2 F2 G2 b2 b3' hb3
  have c3 := F3.cell
  have l3 := F3.lt
  have d3 := H3.cell
  have m3 := H3.lt
  have G4 := G3.alloc (.cells p.cells 23)
  have b4 := b3.alloc b3.size (.cells p.cells 23)
  go_wp2_with (refine blk_load _ rfl 34 _ rfl (w.heap.size + 1) rfl _ _ G4 _ Try.underlying34 rfl 7 nt_info rfl ?_)
  refine (CN _).mono ?_
  rintro r w5 ⟨rfl, hb5⟩
  have G5 := G4.below hb5 G4.lt
  have b5 := b4.trans (hb5.mono b4.size)
  clear CN F3 G3 b3 hb5 c3 l3 d3 m3 G4 b4 H3
  by_cases nz : ne = 0
  case neg =>
    have nz' : (ne == 0) = false := by simpa using nz
    clear HN nz
    go_wp2_with fail
    refine (lives _).mono ?_
    rintro r w6 ⟨rfl, hb6⟩
    have b6 := b5.trans (hb6.mono b5.size)
    go_wp2_with fail
    go_ret
    exact ⟨rfl, b6⟩
  subst nz
  have CR := HN.out rfl
  clear HN
  go_wp2_with fail
  refine (CR _).mono ?_
  rintro r w6 ⟨rfl, hb6⟩
  have G6 := G5.below hb6 G5.lt
  have b6 := b5.trans (hb6.mono b5.size)
  clear CR G5 b5 hb6
  have c6 := G6.cell
  have l6 := G6.lt
  go_wp2_with fail
  refine (lives _).mono ?_
  rintro r w7 ⟨rfl, hb7⟩
  have b7' := b6.alloc b6.size (.cells n.cells 34)
  have b7 := b7'.trans (hb7.mono b7'.size)
  go_wp2_with fail
  go_ret
  exact ⟨rfl, b7⟩
set_option maxRecDepth 100000 in
theorem lifted (os : Os) (started : os.Started) (H : Type) (enc : TypeId × Value → H) :
    ReturnsInHanded {} Try.checked os 5 .any (Rows.dgramBackSpec.pre6 enc Try.prog Try.f5 Rows.dgramBackRow.domain false) (Rows.dgramBackSpec.post enc Try.prog Try.f5 false true false false) := by
  refine returnsInHanded_of_change_sized (C := Try.checked) own started (by kernel_rfl) Try.func5
    (ChangeSpec.witness6 (enc := enc) (C := Try.checked) false ⟨#[], #[.agg #[.int .i64 0, .int .i64 0, .string ByteArray.empty], .agg #[.int .i64 0, .int .i64 0, .int .u8 0, .int .u8 0, .int .u8 0, .int .u8 0, .string ByteArray.empty], .int .u32 0, .int .u32 0], []⟩ 8 (by kernel_rfl) (by kernel_rfl) (by kernel_rfl) (by kernel_rfl)) ?_
  intro W base args ds gs before hval0 hW hcnd hsz0 _
  have hval : ∀ (j : Nat) t v, Try.f5.params[j]? = some t → args[j]? = some v → Value.okWide Try.prog W .any base t v := hval0
  have hsz : (DataW.weightsEach Try.prog (Try.f5.params.toList ++ Rows.dgramBackSpec.plain.varTypes Try.prog) (ds ++ gs)).all (· ≤ reachBytes) = true := hsz0
  have hW' := hW
  obtain ⟨p, q, hA0, hV, rfl, hfz, hnd⟩ := hW
  have hA : DataW.TrodAll enc Try.prog W 0 (fun _ => true) true Try.f5.params.toList args.toList ds p := hA0
  rw [Try.params5] at hA hval hsz
  obtain ⟨v0, vs0, d0, ds0, p0, q0, hargs, rfl, rfl, h0, r0⟩ := trodAll_cons hA
  obtain ⟨v1, vs1, d1, ds1, p1, q1, rfl, rfl, rfl, h1, r1⟩ := trodAll_cons r0
  obtain ⟨v2, vs2, d2, ds2, p2, q2, rfl, rfl, rfl, h2, r2⟩ := trodAll_cons r1
  obtain ⟨v3, vs3, d3, ds3, p3, q3, rfl, rfl, rfl, h3, r3⟩ := trodAll_cons r2
  obtain ⟨rfl, rfl, rfl⟩ := trodAll_nil r3
  obtain rfl : args = #[v0, v1, v2, v3] := by cases args; simp_all
  obtain ⟨rfl, rfl⟩ := trodVars_none hV
  have k0 := h0
  have lt0 : ∀ x ∈ p0, x.block < W.heap.size := by obtain ⟨m, hm⟩ := k0; exact DataW.trod_lt m _ _ _ hm
  have k1 := h1
  have lt1 : ∀ x ∈ p1, x.block < W.heap.size := by obtain ⟨m, hm⟩ := k1; exact DataW.trod_lt m _ _ _ hm
  have k2 := h2
  have lt2 : ∀ x ∈ p2, x.block < W.heap.size := by obtain ⟨m, hm⟩ := k2; exact DataW.trod_lt m _ _ _ hm
  have k3 := h3
  have lt3 : ∀ x ∈ p3, x.block < W.heap.size := by obtain ⟨m, hm⟩ := k3; exact DataW.trod_lt m _ _ _ hm
  obtain ⟨P, rfl, hws⟩ := open_letter (hval 0 23 v0 rfl rfl) h0
  have wsz := hws reachBytes (weighed hsz (j := 0) (t := 23) rfl rfl)
  obtain ⟨M, rfl, hwn⟩ := open_note (hval 1 34 v1 rfl rfl) h1
  have wnz := hwn reachBytes (weighed hsz (j := 1) (t := 34) rfl rfl)
  obtain ⟨a2, rfl, rfl, rfl, w2⟩ := open_int Try.underlying24 (hval 2 24 v2 rfl rfl) h2
  obtain ⟨a3, rfl, rfl, rfl, w3⟩ := open_int Try.underlying24 (hval 3 24 v3 rfl rfl) h3
  have x2 := bounds_u32 w2
  have x3 := bounds_u32 w3
  simp only [reachBytes] at wsz wnz
  clear hA0 hval0 hsz0 hsz
  refine (walk P M a2 a3 (by omega) (by omega) ⟨x2.1, x2.2⟩ ⟨x3.1, x3.2⟩ W).mono fun e W' ⟨he, bel⟩ => ?_
  subst he
  exact ⟨_, rfl, _, _, _, [], _, [], hW', trodAll_mk1 (shut_bool Try.underlying4 _), (trodAll_cons_mk (Below.trod laidOut (by kernel_rfl) (of_decide_eq_true (by kernel_rfl)) k0 bel lt0) (trodAll_cons_mk (Below.trod laidOut (by kernel_rfl) (of_decide_eq_true (by kernel_rfl)) k1 bel lt1) (trodAll_cons_mk (Below.trod laidOut (by kernel_rfl) (of_decide_eq_true (by kernel_rfl)) k2 bel lt2) (trodAll_cons_mk (Below.trod laidOut (by kernel_rfl) (of_decide_eq_true (by kernel_rfl)) k3 bel lt3) trodAll_mk0)))), rfl, bel.frame _, fun h => by cases h⟩

theorem over : Rows.dgramBackRow.holds Try.pinned (OpenSpec.ofChange Rows.dgramBackSpec) :=
  OpenClaim.holds_of_wide 5 Try.f5 rfl rfl rfl rfl rfl rfl rfl ⟨rfl, rfl, rfl, rfl, rfl⟩ rfl rfl rfl rfl rfl (by kernel_rfl) Try.func5 (by kernel_rfl)
    (of_decide_eq_true (by kernel_rfl)) (by unfold Func.isWrapper; first | (rw [if_pos (by decide +kernel)]; kernel_rfl) | (rw [if_neg (by decide +kernel)]; exact ⟨rfl, rfl⟩))
    (fun os started H enc _ => lifted os started H enc)

theorem proved : Rows.DgramBackSaid :=
  over
end Go.Proofs.Ytohonfpmaafnaaa.dgramBack
