/- slices.Equal of rows of nodes; slices.Clone of nodes; custref.SameTrie. -/
import Derived.Test.YtiddpkppfpdfhaaPfSmall
import Derived.Test.YtiddpkppfpdfhaaShelfPf
namespace Go.Proofs.Ytiddpkppfpdfhaa.pf
open Go.ChangeShapes Go.WideShapes Go.ChangeAt Go.RowKit Go.BigFrame
open Go.Proofs.Ytiddpkppfpdfhaa Go.Proofs.Ytiddpkppfpdfhaa.pm Go.Proofs.Ytiddpkppfpdfhaa.boxes Go.Proofs.Ytiddpkppfpdfhaa.rwr
open Go.Proofs.Ytiddpkppfpdfhaa.rws (Knd Own)

def ndb (x y : Nd) : Bool := decide (x.a = y.a ∧ x.b = y.b) && x.s == y.s && x.v == y.v
theorem ndb_eq (x y : Nd) : ndb x y = true ↔ x = y := by
  obtain ⟨a, b, s, v⟩ := x
  obtain ⟨a', b', s', v'⟩ := y
  simp [ndb, and_assoc]
instance : DecidableEq Nd := fun x y => if h : ndb x y = true then isTrue ((ndb_eq x y).1 h) else isFalse fun e => h ((ndb_eq x y).2 e)
instance : Inhabited Nd := ⟨z0⟩
set_option maxHeartbeats 2000000 in
set_option maxRecDepth 100000 in
theorem neqNd : NeqAt Try.prog 57 (fun x : Nd => .agg (Nd.cells x).toList.toArray) ndb := by
  refine ⟨fun x y w => ?_, GuardAt.agg _ (by kernel_rfl)⟩
  have hS : Try.prog.underlying 57 = some (.struct (Try.prog.fieldsOf 57)) := by kernel_rfl
  have hp : Try.prog.stoodInHeld 57 = false := by kernel_rfl
  have u0 := Try.underlying3
  have a0 := Try.isAgg3
  have z0 := Try.sizeOf3
  have u1 := Try.underlying4
  have a1 := Try.isAgg4
  have z1 := Try.sizeOf4
  have a2 := Try.isAgg55
  have z2 := Try.sizeOf55
  obtain ⟨xa, xb, xs, xv⟩ := x
  obtain ⟨ya, yb, ys, yv⟩ := y
  have pe := fun w => pair_eq xa xb ya yb 9997 w
  simp only [ndb]
  rw [run_neq_struct, show (10000 : Nat) = 9999 + 1 from rfl, run_equalIn_agg w 9999 57 _ _ hS hp]
  simp only [Program.fieldsOf, Try.underlying57]
  clear hS hp
  have pe : ∀ w, (Op.equalIn 9999 55 (.agg #[.int .i64 xa, .int .i64 xb]) (.agg #[.int .i64 ya, .int .i64 yb])).run Try.prog w = .ok (decide (xa = ya ∧ xb = yb)) w := pe
  generalize decide (xa = ya ∧ xb = yb) = r at *
  go_simp
  cases r
  · simp
  · go_simp
    repeat' split
    all_goals simp_all
theorem allEq_nd : ∀ (l m : List Nd), Lib.allEq ndb l m = decide (l = m)
  | [], [] => rfl
  | [], _ :: _ => rfl
  | _ :: _, [] => rfl
  | x :: l, y :: m => by
    show (ndb x y && Lib.allEq ndb l m) = _
    rw [allEq_nd l m, Bool.eq_iff_iff]
    simp only [Bool.and_eq_true, decide_eq_true_eq, ndb_eq, List.cons.injEq]
theorem equal_none (a1 a2 : Option Addr) (c1 c2 : Nat) (w : World) : Calls Try.prog 26 #[.slice a1 0 c1, .slice a2 0 c2] w fun e w' => e = .returned (.bool true) ∧ Below w.heap.size w w' := by
  go_enter Try.func26, Try.ntmps26
  go_wp2
  go_loopg [13] 0 (fun g s13 wr => s13 = .int .i64 0 ∧ wr = w)
  case atStart => exact ⟨rfl, rfl⟩
  case round =>
    obtain ⟨rfl, rfl⟩ := hrel
    go_wp2
    go_ret
    exact ⟨rfl, Below.refl _ _⟩
theorem equal_len (a1 a2 : Option Addr) (n1 n2 c1 c2 : Nat) (w : World) (h : n1 ≠ n2) : Calls Try.prog 26 #[.slice a1 n1 c1, .slice a2 n2 c2] w fun e w' => e = .returned (.bool false) ∧ Below w.heap.size w w' := by
  go_enter Try.func26, Try.ntmps26
  go_wp2_with fail
  go_ret
  exact ⟨rfl, Below.refl _ _⟩
theorem equal_any (w : World) (v1 v2 : Value) (l m : List Nd) (h1 : Rd DK w v1 l) (h2 : Rd DK w v2 m) :
    Calls Try.prog 26 #[v1, v2] w fun e w' => e = .returned (.bool (decide (l = m))) ∧ Below w.heap.size w w' := by
  obtain ⟨sa1, sc1, rfl, hm1, hf1, hc1⟩ := h1
  obtain ⟨sa2, sc2, rfl, hm2, hf2, hc2⟩ := h2
  by_cases hl : l.length = m.length
  · by_cases h0 : 0 < l.length
    · obtain ⟨b1, o1, rfl, hb1, hx1⟩ := hc1 h0
      obtain ⟨b2, o2, rfl, hb2, hx2⟩ := hc2 (by omega)
      have hb : l.length ≤ 9223372036854775807 := by unfold maxLen at hm1; omega
      have hb' : m.length ≤ 9223372036854775807 := by omega
      refine (AnyQ.slices_Equal Try.eqNd 4 Try.isAgg57 Try.sizeOf57 (fun p : Nd => (Nd.cells p).toList) (fun _ => rfl) ndb neqNd b1 o1 l.length sc1 b2 o2 m.length sc2 l m w (Nat.le_refl _) (Nat.le_refl _) hb hb' (rd_cells (K := DK) hx1) (rd_cells (K := DK) hx2)).mono ?_
      rintro e w' ⟨rfl, q, rfl⟩
      refine ⟨?_, ?_⟩
      · rw [List.take_length, List.take_length, allEq_nd]
      · exact ⟨rfl, rfl, rfl, Nat.le_refl _, fun _ _ => rfl⟩
    · have e : l = [] := List.eq_nil_of_length_eq_zero (by omega)
      have e2 : m = [] := List.eq_nil_of_length_eq_zero (by omega)
      subst e; subst e2
      exact equal_none _ _ _ _ w
  · have : decide (l = m) = false := decide_eq_false fun e => hl (by rw [e])
    rw [this]
    exact equal_len _ _ _ _ _ _ w hl
set_option maxRecDepth 20000 in
theorem same_any (v1 v2 : Value) (l m : List Nd) (w : World) (h1 : Rd DK w v1 l) (h2 : Rd DK w v2 m) :
    Calls Try.prog 15 #[.agg (TC v1), .agg (TC v2)] w fun e w' => e = .returned (.bool (decide (l = m))) ∧ Below w.heap.size w w' := by
  have b0 := ((Below.refl w.heap.size w).alloc (Nat.le_refl _) (.cells (TC v1) 24)).alloc (by simp) (.cells (TC v2) 24)
  have C := equal_any _ v1 v2 l m (h1.below b0) (h2.below b0)
  obtain ⟨sa1, sc1, rfl⟩ := h1.form
  obtain ⟨sa2, sc2, rfl⟩ := h2.form
  clear h1 h2
  generalize decide (l = m) = r at *
  generalize l.length = n1 at *
  generalize m.length = n2 at *
  go_enter Try.func15, Try.ntmps15
  go_wp2_with fail
  refine C.mono ?_
  rintro e w1 ⟨rfl, b1⟩
  have b2 := b0.trans (b1.mono b0.size)
  clear C b0 b1
  go_wp2_with fail
  go_ret
  exact ⟨rfl, b2⟩
set_option maxRecDepth 20000 in
theorem clone_any (v : Value) (ps : List Nd) (w : World) (h : Rd DK w v ps) (hb : ps.length * 32 ≤ 140737488355328) :
    Calls Try.prog 25 #[v] w fun e w' => ∃ v', e = .returned v' ∧ Own DK w' w.heap.size v' ps ∧ Below w.heap.size w w' := by
  have hm : ps.length ≤ maxLen := by unfold maxLen; omega
  obtain ⟨sa, sc, rfl, hm', hf, hc⟩ := h
  cases sa with
  | none =>
    have e0 := hf.nil rfl
    have e1 := hf.le
    have el : ps = [] := List.eq_nil_of_length_eq_zero (by omega)
    subst el
    refine (AnyE.slices_Clone_nil Try.cloneNd 0 sc w).mono ?_
    rintro e w' ⟨rfl, rfl⟩
    exact ⟨_, rfl, Own.nil _ _ _, Below.refl _ _⟩
  | some a =>
    have b1 := (Below.refl w.heap.size w).alloc (Nat.le_refl _) (.cells #[] 57)
    have hr : Rd DK (w.alloc (.cells #[] 57)) (.slice (some a) ps.length sc) ps := Rd.below ⟨_, _, rfl, hm', hf, hc⟩ b1
    have ow : Own DK (w.alloc (.cells #[] 57)) w.heap.size (.slice (some ⟨w.heap.size, 0, none⟩) 0 0) [] := ⟨rfl, Or.inr ⟨w.heap.size, 0, #[], rfl, Nat.le_refl _, Blk.new _ _ _, Nat.le_refl _, Nat.zero_le _, rfl, rfl⟩⟩
    clear hc
    have q : ∀ (w : World) (a : Option Addr) (n c n' c' : Nat), (binOp .eql 22 (.slice a n c) (.slice none n' c')).run Try.prog w = .ok (.bool a.isNone) w := fun w a n c n' c' => Lib.run_eql_slice_nil w _ _ a n c n' c' Try.underlying22
    go_enter Try.func25, Try.ntmps25
    go_wp2_with (at_builtin; refine app_rd DK _ rfl _ _ rfl w.heap.size _ [] rfl ow (.slice (some a) ps.length sc) ps rfl hr (by simpa using hm) (by show ([].length + ps.length) * 32 ≤ _; simpa using hb) (by simp) ?_)
    intro v4 W4 O4 c4 _
    go_wp2_with fail
    go_ret
    exact ⟨_, rfl, O4, b1.trans c4⟩
end Go.Proofs.Ytiddpkppfpdfhaa.pf
