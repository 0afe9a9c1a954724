/- For every address m and every text s (together of bulk at most 1048576) the law EthMacs returns true: eth.Many, Show and Parse answer what the document says. Its row lists two tables of the library's, which the given tie ties. -/
import Derived.Test.YtolhmmnaohadcaaDoorEthMacsIn
import Derived.Test.YtolhmmnaohadcaaDoorArgsMac
import Derived.Test.YtolhmmnaohadcaaDoorCards
import Derived.Test.YtolhmmnaohadcaaDoorTie
import Derived.WalkKit
import Derived.ProofKit
import Derived.OpenShut
import Derived.ShutString
import Derived.ChangeOld
import Derived.Below
import Derived.Shelf.Vars
import Derived.Deep.DeepHandedRow
import Derived.Lib.LaidTab
namespace Go.Proofs.YtolhmmnaohadcaaDoor.ethMacs
open Go.ChangeShapes Go.WideShapes Go.ChangeAt Go.RowKit
open Go.ChangeMaps (open_string shut_string)
open Go.Proofs.YtolhmmnaohadcaaDoor.EM Go.Proofs.YtolhmmnaohadcaaDoor.EH Go.Proofs.YtolhmmnaohadcaaDoor.ethb Go.Proofs.YtolhmmnaohadcaaDoor.ethp Go.Proofs.YtolhmmnaohadcaaDoor.ethsp Go.Proofs.YtolhmmnaohadcaaDoor.ethtm Go.Proofs.YtolhmmnaohadcaaDoor.ethmx Go.Proofs.YtolhmmnaohadcaaDoor.ethl Go.Proofs.YtolhmmnaohadcaaDoor.argsm

theorem own : ownKnob Tryd.prog.godebug = none := by kernel_rfl
theorem laidOut : laidOutB Tryd.prog = true := by kernel_rfl
theorem some_int {W : World} (h : W.ShapedOpen Tryd.prog) : ∃ m, W.cell? ⟨0, 0, none⟩ = some (.int .i64 m) :=
  cell_of_shapedOpen_int (zero := #[.int .i64 0]) (t := 3) h (of_decide_eq_true (by kernel_rfl)) (by kernel_rfl) rfl (by kernel_rfl) (by kernel_rfl) Tryd.underlying3
theorem byte_wf (x : UInt8) : (Lit.int .u8 (x.toNat : Int)).wf = true := by
  have := x.toNat_lt
  simp [Lit.wf, IntKind.min, IntKind.max, IntKind.signed, IntKind.bits]; omega
theorem num_wf (x : Int) (h0 : 0 ≤ x) (h1 : x ≤ 255) : (Lit.int .u8 x).wf = true := by
  simp [Lit.wf, IntKind.min, IntKind.max, IntKind.signed, IntKind.bits]; omega
/-- eth.Parse and custref.TextMac answer the same -/
theorem both (s : ByteArray) (hs : s.size < 4294967281) (w : World) (hm : ∃ m, w.cell? ⟨0, 0, none⟩ = some (.int .i64 m)) :
    ∃ (p0 p1 p2 p3 p4 p5 e : Int), (∀ u, Hid (Calls Tryd.prog 4 #[.string s] u fun r w' => r = .returned (.tuple #[.agg #[.int .u8 p0, .int .u8 p1, .int .u8 p2, .int .u8 p3, .int .u8 p4, .int .u8 p5], .int .i64 e]) ∧ Below u.heap.size u w')) ∧
      (∀ u, Below w.heap.size w u → Hid (Calls Tryd.prog 5 #[.string s] u fun r w' => r = .returned (.tuple #[.agg #[.int .u8 p0, .int .u8 p1, .int .u8 p2, .int .u8 p3, .int .u8 p4, .int .u8 p5], .int .i64 e]) ∧ Below u.heap.size u w')) ∧
      ∀ u, (Op.equalIn 10000 23 (.agg #[.int .u8 p0, .int .u8 p1, .int .u8 p2, .int .u8 p3, .int .u8 p4, .int .u8 p5]) (.agg #[.int .u8 p0, .int .u8 p1, .int .u8 p2, .int .u8 p3, .int .u8 p4, .int .u8 p5])).run Tryd.prog u = .ok true u := by
  obtain ⟨m, hm⟩ := hm
  have h0 : 0 < w.heap.size := World.block_lt_of_cell? _ _ hm
  obtain ⟨Q, hQ, CS⟩ := split_any s hs
  have hcell : ∀ u, Below w.heap.size w u → u.cell? ⟨0, 0, none⟩ = some (.int .i64 m) := fun u hb => (hb.cell (p := ⟨0, 0, none⟩) h0).trans hm
  have T6 : Q.length = 6 → ∀ u, Below w.heap.size w u → Calls Tryd.prog 5 #[.string s] u fun e w' =>
      (tok (sp s.data.toList) ∧ e = .returned (.tuple #[.agg (pt (sp s.data.toList) 6), .int .i64 0]) ∨ ¬ tok (sp s.data.toList) ∧ e = .returned (.tuple #[.agg (pt (sp s.data.toList) 0), .int .i64 10])) ∧ Below u.heap.size u w' := by
    intro hn u hb
    refine textMac_six s u Q hQ hn (fun x hx => ?_) (Nat.lt_of_lt_of_le h0 hb.size)
    have := CS m x (hx.trans (hcell u hb))
    rw [hn] at this; exact this
  by_cases ht : tok (sp s.data.toList)
  · obtain ⟨g1, g2, g3⟩ := of_tok s ht
    have hn : Q.length = 6 := by rw [← List.length_map (f := fun x : ByteArray => x.data.toList), hQ]; exact ht.1
    have vb := fun j (hj : j < 6) => vD_bd s j (g2 j hj)
    have e6 : pa s 6 = #[.int .u8 (vD s 0), .int .u8 (vD s 1), .int .u8 (vD s 2), .int .u8 (vD s 3), .int .u8 (vD s 4), .int .u8 (vD s 5)] := by simp [pa, List.range_succ]
    refine ⟨vD s 0, vD s 1, vD s 2, vD s 3, vD s 4, vD s 5, 0, fun u => ?_, fun u hb => ?_, fun u => ?_⟩
    · refine (parse_17 s u (by simp; omega)).mono ?_
      rintro r w' ⟨g | g, hb⟩
      · exact ⟨by rw [g.2, e6], hb⟩
      · exact absurd g2 g.1
    · refine (T6 hn u hb).mono ?_
      rintro r w' ⟨g | g, hb'⟩
      · exact ⟨by rw [g.2, g3, e6], hb'⟩
      · exact absurd ht g.1
    · exact mac_eq _ _ _ _ _ _ (num_wf _ (vb 0 (by omega)).1 (vb 0 (by omega)).2) (num_wf _ (vb 1 (by omega)).1 (vb 1 (by omega)).2) (num_wf _ (vb 2 (by omega)).1 (vb 2 (by omega)).2) (num_wf _ (vb 3 (by omega)).1 (vb 3 (by omega)).2) (num_wf _ (vb 4 (by omega)).1 (vb 4 (by omega)).2) (num_wf _ (vb 5 (by omega)).1 (vb 5 (by omega)).2) 9998 u
  · refine ⟨0, 0, 0, 0, 0, 0, 10, fun u => ?_, fun u hb => ?_, fun u => mac_eq _ _ _ _ _ _ (by decide) (by decide) (by decide) (by decide) (by decide) (by decide) 9998 u⟩
    · by_cases h : s.size = 17
      · refine (parse_17 s u (by simp; omega)).mono ?_
        rintro r w' ⟨g | g, hb⟩
        · exact absurd (tok_of s h g.1) ht
        · exact ⟨by rw [g.2, pa_zero], hb⟩
      · exact parse_long s u (by simp; omega)
    · by_cases hn : Q.length = 6
      · refine (T6 hn u hb).mono ?_
        rintro r w' ⟨g | g, hb'⟩
        · exact absurd g.1 ht
        · exact ⟨by rw [g.2, pt_zero], hb'⟩
      · exact textMac_other s u Q (by simp; omega) (fun x hx => CS m x (hx.trans (hcell u hb))) (Nat.lt_of_lt_of_le h0 hb.size)
theorem walk (m0 m1 m2 m3 m4 m5 : UInt8) (s : ByteArray) (hs : s.size < 4294967281) (w : World) (hm : ∃ m, w.cell? ⟨0, 0, none⟩ = some (.int .i64 m)) :
    Calls Tryd.prog 3 #[.agg #[.int .u8 (m0.toNat : Int), .int .u8 (m1.toNat : Int), .int .u8 (m2.toNat : Int), .int .u8 (m3.toNat : Int), .int .u8 (m4.toNat : Int), .int .u8 (m5.toNat : Int)], .string s] w fun e w' => e = .returned (.bool true) ∧ Below w.heap.size w w' := by
  obtain ⟨p0, p1, p2, p3, p4, p5, e, CP, CT, Z⟩ := both s hs w hm
  exact core m0 m1 m2 m3 m4 m5 s _ p0 p1 p2 p3 p4 p5 e _ w CP CT (fun u => ethmt.many_any m0 m1 m2 m3 m4 m5 u) (fun u => eths.show_any m0 m1 m2 m3 m4 m5 u) (fun u => ethmt.macText_any m0 m1 m2 m3 m4 m5 u) rfl Z

/-- what the walk gives, where the arguments are not too great -/
theorem contract (H : Type) (enc : TypeId × Value → H) (W : World) (base : Nat) (args : Array Value) (ds gs : List (DataW H)) (before : List MemPlace)
    (hval : ∀ (j : Nat) t v, Tryd.f3.params[j]? = some t → args[j]? = some v → Value.okWide Tryd.prog W .any base t v)
    (hW : DataW.Whole enc Tryd.prog Tryd.f3.params.toList Rows.ethMacsSpec.vars false W args.toList ds gs before) (hk : Rows.uptoSmall H (ds ++ gs) = true) (hsh : W.ShapedOpen Tryd.prog) :
    Calls Tryd.prog 3 args W fun e W' => ∃ v, e = .returned v ∧ Rows.ethMacsSpec.post enc Tryd.prog Tryd.f3 false true false false W args v W' := by
  have hW' := hW
  obtain ⟨p, q, hA0, hV, rfl, hfz, hnd⟩ := hW
  have hA : DataW.TrodAll enc Tryd.prog W 0 (fun _ => true) true Tryd.f3.params.toList args.toList ds p := hA0
  rw [Tryd.params3] at hA hval
  obtain ⟨v0, vs0, d0, ds0, p0, q0, hargs, rfl, rfl, h0, r0⟩ := trodAll_cons hA
  obtain ⟨v1, vs1, d1, ds1, p1, q1, rfl, rfl, rfl, h1, r1⟩ := trodAll_cons r0
  obtain ⟨rfl, rfl, rfl⟩ := trodAll_nil r1
  obtain rfl : args = #[v0, v1] := by cases args; simp_all
  obtain ⟨rfl, rfl⟩ := trodVars_none hV
  have k0 := h0
  have lt0 : ∀ x ∈ p0, x.block < W.heap.size := by obtain ⟨m, hm⟩ := k0; exact DataW.trod_lt m _ _ _ hm
  have k1 := h1
  have lt1 : ∀ x ∈ p1, x.block < W.heap.size := by obtain ⟨m, hm⟩ := k1; exact DataW.trod_lt m _ _ _ hm
  obtain ⟨m0, m1, m2, m3, m4, m5, rfl⟩ := open_mac (hval 0 23 v0 rfl rfl) h0
  obtain ⟨a1, rfl, rfl, rfl, w1⟩ := open_string Tryd.underlying9 (hval 1 9 v1 rfl rfl) h1
  have hs : a1.size < 4294967281 := by
    have h := of_decide_eq_true hk
    simp only [List.append_nil, Rows.uptoBulkAll, Rows.uptoBulk] at h
    have e : a1.data.toList.length = a1.size := by simp
    omega
  clear hA0
  refine (walk m0 m1 m2 m3 m4 m5 a1 hs W (some_int hsh)).mono fun e W' ⟨he, bel⟩ => ?_
  subst he
  exact ⟨_, rfl, _, _, _, [], _, [], hW', trodAll_mk1 (shut_bool Tryd.underlying4 _), (trodAll_cons_mk (Below.trod laidOut (by kernel_rfl) (of_decide_eq_true (by kernel_rfl)) k0 bel lt0) (trodAll_cons_mk (Below.trod laidOut (by kernel_rfl) (of_decide_eq_true (by kernel_rfl)) k1 bel lt1) trodAll_mk0)), rfl, bel.frame _, fun h => by cases h⟩

/-- a world for the witness: both tables hold what is listed -/
def lay (cs : Array Value) : Obj → Obj
  | .cells _ t frozen => .cells cs t frozen
  | o => o
noncomputable def laidWorld (os : Os) : World :=
  { World.holding Tryd.prog os ⟨#[], #[], []⟩ with heap := ((World.holding Tryd.prog os ⟨#[], #[], []⟩).heap.modify 1 (lay (Go.Pinned.utf8FirstZ.map fun (z : Nat) => Value.int .u8 (z : Int)).toArray)).modify 2 (lay #[.int .u8 128, .int .u8 191, .int .u8 160, .int .u8 191, .int .u8 128, .int .u8 159, .int .u8 144, .int .u8 191, .int .u8 128, .int .u8 143, .int .u8 0, .int .u8 0, .int .u8 0, .int .u8 0, .int .u8 0, .int .u8 0, .int .u8 0, .int .u8 0, .int .u8 0, .int .u8 0, .int .u8 0, .int .u8 0, .int .u8 0, .int .u8 0, .int .u8 0, .int .u8 0, .int .u8 0, .int .u8 0, .int .u8 0, .int .u8 0, .int .u8 0, .int .u8 0]) }
theorem laid_met (os : Os) : laidMet Tryd.prog Rows.ethMacsUptoRow.laid ((laidWorld os).forCall (fun _ _ => 0) ⟨#[], #[.agg #[.int .u8 0, .int .u8 0, .int .u8 0, .int .u8 0, .int .u8 0, .int .u8 0], .string ByteArray.empty], []⟩).memory :=
  laidMet_of_run' 8 (by kernel_rfl) (by kernel_rfl)
theorem reads (os : Os) {H : Type} (enc : TypeId × Value → H) : ∃ places, DataW.whole enc Tryd.prog ((laidWorld os).forCall (fun _ _ => 0) ⟨#[], #[.agg #[.int .u8 0, .int .u8 0, .int .u8 0, .int .u8 0, .int .u8 0, .int .u8 0], .string ByteArray.empty], []⟩).memory Tryd.f3.params.toList Rows.ethMacsSpec.vars false #[Value.agg #[.int .u8 0, .int .u8 0, .int .u8 0, .int .u8 0, .int .u8 0, .int .u8 0], Value.string ByteArray.empty].toList 8 =
    some ([.agg [.lit (.int .u8 0), .lit (.int .u8 0), .lit (.int .u8 0), .lit (.int .u8 0), .lit (.int .u8 0), .lit (.int .u8 0)], .lit (.string [])], [], places) :=
  ⟨[], by kernel_rfl⟩

set_option maxRecDepth 100000 in
theorem liftedUpto (os : Os) (started : os.Started) (H : Type) (enc : TypeId × Value → H) (F : Stop.Interp) :
    ReturnsInHanded {} Tryd.checked os 3 .any ((Rows.OpenSpec.upto Rows.ethMacsSpec).preRow enc Tryd.prog Tryd.f3 Rows.ethMacsUptoRow.domain false Rows.ethMacsUptoRow.laid) (((Rows.OpenSpec.upto Rows.ethMacsSpec).at F).post enc Tryd.prog Tryd.f3 false true false false) := by
  obtain ⟨places, hx⟩ := reads os enc
  refine returnsInHanded_of_row (C := Tryd.checked) (s := Rows.OpenSpec.upto Rows.ethMacsSpec) own started (by kernel_rfl) Tryd.func3
    (witness_row_at (enc := enc) (C := Tryd.checked) false (laidWorld os) #[.agg #[.int .u8 0, .int .u8 0, .int .u8 0, .int .u8 0, .int .u8 0, .int .u8 0], .string ByteArray.empty] rfl (by kernel_rfl) (by kernel_rfl) (by kernel_rfl)
      (OpenSpec.preRow_of_cond 8 hx (by kernel_rfl) (fun k hk => by cases hk; kernel_rfl) (by kernel_rfl) (laid_met os))) ?_
  intro W base args ds gs before hval hW _ hcond _ _ hsh _
  exact contract H enc W base args ds gs before hval hW (hcond _ rfl) hsh
theorem saidUpto : Rows.EthMacsUptoSaid :=
  OpenClaim.holds_of_cond 3 Tryd.f3 rfl rfl rfl rfl rfl rfl rfl ⟨rfl, rfl, rfl, rfl, rfl⟩ rfl rfl rfl rfl rfl (by kernel_rfl) Tryd.func3 (by kernel_rfl)
    (of_decide_eq_true (by kernel_rfl)) (by unfold Func.isWrapper; first | (rw [if_pos (by decide +kernel)]; kernel_rfl) | (rw [if_neg (by decide +kernel)]; exact ⟨rfl, rfl⟩))
    (fun os started H enc _ F => by rw [OpenClaim.pre_eq_preRow]; exact liftedUpto os started H enc F)
theorem plain (f : FuncId) (fn : Func) (hf : Tryd.pinned.checked.prog.funcNamed "customshouse/custlaw.EthMacs" = some f) (hfn : Tryd.pinned.checked.prog.funcs[f]? = some fn) :
    false = Tryd.pinned.checked.prog.looks [] ∧ ∀ (j : Nat) t, fn.params[j]? = some t → Tryd.pinned.checked.prog.wantsStandIn t = false := by
  obtain rfl : f = 3 := Option.some.inj ((show Tryd.prog.funcNamed "customshouse/custlaw.EthMacs" = some 3 by kernel_rfl).symm.trans hf) |>.symm
  obtain rfl : fn = Tryd.f3 := (Option.some.inj (Tryd.func3.symm.trans hfn)).symm
  refine ⟨by kernel_rfl, fun j t ht => ?_⟩
  rw [Tryd.params3] at ht
  have ht' : t = 23 ∨ t = 9 := by simpa using Array.mem_of_getElem? ht
  rcases ht' with rfl | rfl
  · exact (show Tryd.prog.wantsStandIn 23 = false by kernel_rfl)
  · exact (show Tryd.prog.wantsStandIn 9 = false by kernel_rfl)
theorem proved : Rows.EthMacsUptoCardSaid :=
  Claim7.holds_tied_plain_at .later [] _ _ _ _ saidUpto (fun _ h => by cases h) (by kernel_rfl) (fun _ h => by cases h) ethMacsUpto_row_tie rfl ⟨rfl, rfl⟩ (by kernel_rfl) rfl plain (by kernel_rfl)
end Go.Proofs.YtolhmmnaohadcaaDoor.ethMacs
