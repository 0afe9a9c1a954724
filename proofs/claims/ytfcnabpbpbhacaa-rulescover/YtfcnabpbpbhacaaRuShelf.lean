/- The library's functions at rows of rules: slices.Equal, Clone, IndexFunc, ContainsFunc; the closures of rules.Decide and Slim. -/
import Derived.Test.YtfcnabpbpbhacaaRuSmall
import Derived.Test.YtfcnabpbpbhacaaShelfRu
import Derived.Laws.StructEq
namespace Go.Proofs.Ytfcnabpbpbhacaa.ru
open Go.ChangeShapes Go.WideShapes Go.ChangeAt Go.RowKit Go.BigFrame
open Go.Proofs.Ytfcnabpbpbhacaa Go.Proofs.Ytfcnabpbpbhacaa.pm Go.Proofs.Ytfcnabpbpbhacaa.pf Go.Proofs.Ytfcnabpbpbhacaa.boxes Go.Proofs.Ytfcnabpbpbhacaa.rwr
open Go.Proofs.Ytfcnabpbpbhacaa.rws (Knd Own)

theorem nets_eq (a c : Nat) (b d : Int) (w : World) : (Op.equalIn 9999 32 (.agg #[.int .u32 (a : Int), .int .i64 b]) (.agg #[.int .u32 (c : Int), .int .i64 d])).run Try.prog w = .ok (((a : Int) == (c : Int)) && b == d) w := by
  have hS : Try.prog.underlying 32 = some (.struct (Try.prog.fieldsOf 32)) := by kernel_rfl
  have hp : Try.prog.stoodInHeld 32 = false := by kernel_rfl
  have u0 := Try.underlying3
  have a0 := Try.isAgg3
  have z0 := Try.sizeOf3
  have u1 := Try.underlying23
  have a1 := Try.isAgg23
  have z1 := Try.sizeOf23
  rw [show (9999 : Nat) = 9998 + 1 from rfl, run_equalIn_agg w 9998 32 _ _ hS hp]
  simp only [Program.fieldsOf, Try.underlying32]
  clear hS hp
  go_simp
  repeat' split
  all_goals simp_all
def rub (x y : Ru) : Bool := (((x.fa : Int) == (y.fa : Int)) && x.fl == y.fl) && (((x.ta : Int) == (y.ta : Int)) && x.tl == y.tl) && x.pr == y.pr && x.a == y.a && x.b == y.b && x.c == y.c && x.d == y.d && x.ps == y.ps
theorem rub_eq (x y : Ru) : rub x y = true ↔ x = y := by
  obtain ⟨a, b, c, d, e, f, g, h, i, j⟩ := x
  obtain ⟨a', b', c', d', e', f', g', h', i', j'⟩ := y
  simp only [rub, Bool.and_eq_true, beq_iff_eq, Ru.mk.injEq, and_assoc, Int.natCast_inj]
set_option maxHeartbeats 4000000 in
set_option maxRecDepth 100000 in
theorem neqRu : NeqAt Try.prog 34 (fun x : Ru => .agg (Ru.cells x).toList.toArray) rub := by
  refine ⟨fun x y w => ?_, GuardAt.agg _ (by kernel_rfl)⟩
  have hS : Try.prog.underlying 34 = some (.struct (Try.prog.fieldsOf 34)) := by kernel_rfl
  have hp : Try.prog.stoodInHeld 34 = false := by kernel_rfl
  have u0 := Try.underlying3
  have a0 := Try.isAgg3
  have z0 := Try.sizeOf3
  have u1 := Try.underlying4
  have a1 := Try.isAgg4
  have z1 := Try.sizeOf4
  have a2 := Try.isAgg32
  have z2 := Try.sizeOf32
  obtain ⟨fa, fl, ta, tl, pr, a, b, c, d, ps⟩ := x
  obtain ⟨ga, gl, ua, ul, qr, e, f, g, h, qs⟩ := y
  have p1 := fun w => nets_eq fa ga fl gl w
  have p2 := fun w => nets_eq ta ua tl ul w
  simp only [rub]
  rw [run_neq_struct, show (10000 : Nat) = 9999 + 1 from rfl, run_equalIn_agg w 9999 34 _ _ hS hp]
  simp only [Program.fieldsOf, Try.underlying34]
  clear hS hp
  generalize (((fa : Int) == (ga : Int)) && fl == gl) = r1 at *
  generalize (((ta : Int) == (ua : Int)) && tl == ul) = r2 at *
  go_simp
  cases r1
  · simp
  · cases r2
    · simp
    · repeat' split
      all_goals simp_all
theorem rub_self (l : List Ru) : Lib.allEq rub l l = true := by
  induction l with
  | nil => rfl
  | cons x r ih => simp only [Lib.allEq, ih, (rub_eq x x).2 rfl, Bool.and_self]
theorem allEq_len : ∀ (l m : List Ru), l.length ≠ m.length → Lib.allEq rub l m = false
  | [], [], h => absurd rfl h
  | [], _ :: _, _ => rfl
  | _ :: _, [], _ => rfl
  | x :: l, y :: m, h => by
    show (rub x y && Lib.allEq rub l m) = _
    rw [allEq_len l m (by simpa using h), Bool.and_false]
theorem bang {α : Type} [Inhabited α] {l : List α} {j : Nat} (hj : j < l.length) : l[j]! = l[j] := by
  rw [List.getElem!_eq_getElem?_getD, List.getElem?_eq_getElem hj]; rfl
theorem equalU_none (a1 a2 : Option Addr) (c1 c2 : Nat) (w : World) : Calls Try.prog 15 #[.slice a1 0 c1, .slice a2 0 c2] w fun e w' => e = .returned (.bool true) ∧ Below w.heap.size w w' := by
  go_enter Try.func15, Try.ntmps15
  go_wp2
  go_loopg [13] 0 (fun g s13 wr => s13 = .int .i64 0 ∧ wr = w)
  case atStart => exact ⟨rfl, rfl⟩
  case round =>
    obtain ⟨rfl, rfl⟩ := hrel
    go_wp2
    go_ret
    exact ⟨rfl, Below.refl _ _⟩
theorem equalU_len (a1 a2 : Option Addr) (n1 n2 c1 c2 : Nat) (w : World) (h : n1 ≠ n2) : Calls Try.prog 15 #[.slice a1 n1 c1, .slice a2 n2 c2] w fun e w' => e = .returned (.bool false) ∧ Below w.heap.size w w' := by
  go_enter Try.func15, Try.ntmps15
  go_wp2_with fail
  go_ret
  exact ⟨rfl, Below.refl _ _⟩
theorem equalU_any (w : World) (v1 v2 : Value) (l m : List Ru) (h1 : Rd UK w v1 l) (h2 : Rd UK w v2 m) :
    Calls Try.prog 15 #[v1, v2] w fun e w' => e = .returned (.bool (Lib.allEq rub l m)) ∧ Below w.heap.size w w' := by
  haveI : Inhabited Ru := ⟨ru0⟩
  obtain ⟨sa1, sc1, rfl, hm1, hf1, hc1⟩ := h1
  obtain ⟨sa2, sc2, rfl, hm2, hf2, hc2⟩ := h2
  by_cases hl : l.length = m.length
  · by_cases h0 : 0 < l.length
    · obtain ⟨b1, o1, rfl, hb1, hx1⟩ := hc1 h0
      obtain ⟨b2, o2, rfl, hb2, hx2⟩ := hc2 (by omega)
      have hb : l.length ≤ 9223372036854775807 := by unfold maxLen at hm1; omega
      have hb' : m.length ≤ 9223372036854775807 := by omega
      refine (AnyQ.slices_Equal Try.eqRu 10 Try.isAgg34 Try.sizeOf34 (fun p : Ru => (Ru.cells p).toList) (fun _ => rfl) rub neqRu b1 o1 l.length sc1 b2 o2 m.length sc2 l m w (Nat.le_refl _) (Nat.le_refl _) hb hb' (rd_cells (K := UK) hx1) (rd_cells (K := UK) hx2)).mono ?_
      rintro e w' ⟨rfl, q, rfl⟩
      refine ⟨?_, ?_⟩
      · rw [List.take_length, List.take_length]
      · exact ⟨rfl, rfl, rfl, Nat.le_refl _, fun _ _ => rfl⟩
    · have e : l = [] := List.eq_nil_of_length_eq_zero (by omega)
      have e2 : m = [] := List.eq_nil_of_length_eq_zero (by omega)
      subst e; subst e2
      exact equalU_none _ _ _ _ w
  · rw [allEq_len l m hl]
    exact equalU_len _ _ _ _ _ _ w hl
set_option maxRecDepth 20000 in
theorem clone_any (v : Value) (ps : List Ru) (w : World) (h : Rd UK w v ps) (hb : ps.length * 80 ≤ 140737488355328) :
    Calls Try.prog 17 #[v] w fun e w' => ∃ v', e = .returned v' ∧ Own UK w' w.heap.size v' ps ∧ Below w.heap.size w w' := by
  have hm : ps.length ≤ maxLen := by unfold maxLen; omega
  obtain ⟨sa, sc, rfl, hm', hf, hc⟩ := h
  cases sa with
  | none =>
    have e0 := hf.nil rfl
    have e1 := hf.le
    have el : ps = [] := List.eq_nil_of_length_eq_zero (by omega)
    subst el
    refine (AnyE.slices_Clone_nil Try.cloneRu 0 sc w).mono ?_
    rintro e w' ⟨rfl, rfl⟩
    exact ⟨_, rfl, Own.nil _ _ _, Below.refl _ _⟩
  | some a =>
    have b1 := (Below.refl w.heap.size w).alloc (Nat.le_refl _) (.cells #[] 34)
    have hr : Rd UK (w.alloc (.cells #[] 34)) (.slice (some a) ps.length sc) ps := Rd.below ⟨_, _, rfl, hm', hf, hc⟩ b1
    have ow : Own UK (w.alloc (.cells #[] 34)) w.heap.size (.slice (some ⟨w.heap.size, 0, none⟩) 0 0) [] := ⟨rfl, Or.inr ⟨w.heap.size, 0, #[], rfl, Nat.le_refl _, Blk.new _ _ _, Nat.le_refl _, Nat.zero_le _, rfl, rfl⟩⟩
    clear hc
    have q : ∀ (w : World) (a : Option Addr) (n c n' c' : Nat), (binOp .eql 22 (.slice a n c) (.slice none n' c')).run Try.prog w = .ok (.bool a.isNone) w := fun w a n c n' c' => Lib.run_eql_slice_nil w _ _ a n c n' c' Try.underlying22
    go_enter Try.func17, Try.ntmps17
    go_wp2_with (at_builtin; refine app_rd UK _ rfl _ _ rfl w.heap.size _ [] rfl ow (.slice (some a) ps.length sc) ps rfl hr (by simpa using hm) (by show ([].length + ps.length) * 80 ≤ _; simpa using hb) (by simp) ?_)
    intro v4 W4 O4 c4 _
    go_wp2_with fail
    go_ret
    exact ⟨_, rfl, O4, b1.trans c4⟩
theorem idx_none (sa : Option Addr) (sc : Nat) (f : Value) (w : World) : Calls Try.prog 20 #[.slice sa 0 sc, f] w fun e w' => e = .returned (.int .i64 (-1)) ∧ Below w.heap.size w w' := by
  go_enter Try.func20, Try.ntmps20
  go_wp2
  go_loopg [8] 0 (fun g s13 wr => s13 = .int .i64 0 ∧ wr = w)
  case atStart => exact ⟨rfl, rfl⟩
  case round =>
    obtain ⟨rfl, rfl⟩ := hrel
    go_wp2
    go_ret
    exact ⟨rfl, Below.refl _ _⟩
theorem any_none (sa : Option Addr) (sc : Nat) (f : Value) (w : World) : Calls Try.prog 29 #[.slice sa 0 sc, f] w fun e w' => e = .returned (.bool false) ∧ Below w.heap.size w w' := by
  go_enter Try.func29, Try.ntmps29
  go_wp2_with fail
  refine (idx_none sa sc f _).mono ?_
  rintro e w' ⟨rfl, hb⟩
  go_wp2_with fail
  go_ret
  exact ⟨rfl, hb⟩
set_option maxRecDepth 20000 in
theorem predD (f : Fw) (B : Nat) (w : World) (F : Blk w B (Fw.cells f) 25) (hf : fitsF f) :
    ∀ (W : World) (x : Ru), fits x → Below w.heap.size w W → Calls Try.prog 21 #[.agg (Ru.cells x), .pointer (some ⟨B, 0, none⟩)] W fun e w' => e = .returned (.bool (mts f x)) ∧ Below w.heap.size w w' := fun W x hx hb => by
  have F1 := F.below hb F.lt
  have b1 := hb.alloc hb.size (.cells (Ru.cells x) 34)
  have b2 := (Below.refl W.heap.size W).alloc (Nat.le_refl _) (.cells (Ru.cells x) 34)
  have F2 := F1.alloc (.cells (Ru.cells x) 34)
  have G2 := Blk.new W (Ru.cells x) 34
  have hB : B < W.heap.size := F1.lt
  have CM := fun W => meets_any x f W hx hf
  obtain ⟨fa, fl, ta, tl, pr, a, b, c, d, ps⟩ := x
  obtain ⟨f1, f2, f3, f4, f5⟩ := f
  dsimp only [Ru.cells, Fw.cells] at *
  generalize mts _ _ = r at *
  go_enter Try.func21, Try.ntmps21
  go_upto_region 1 with fail
  generalize hW : W.alloc (Obj.cells (XC fa fl ta tl pr a b c d ps) 34) = V at *
  clear hW
  have cF := F2.cell
  have cG := G2.cell
  go_wp2_with fail
  refine (CM _).mono ?_
  rintro e w1 ⟨rfl, z⟩
  go_wp2_with fail
  go_ret
  exact ⟨rfl, b1.trans (z.mono b1.size)⟩
set_option maxRecDepth 20000 in
theorem predS (r : Ru) (B : Nat) (w : World) (F : Blk w B (Ru.cells r) 34) (hr : fits r) :
    ∀ (W : World) (x : Ru), fits x → Below w.heap.size w W → Calls Try.prog 30 #[.agg (Ru.cells x), .pointer (some ⟨B, 0, none⟩)] W fun e w' => e = .returned (.bool (cov x r)) ∧ Below w.heap.size w w' := fun W x hx hb => by
  have F1 := F.below hb F.lt
  have b1 := hb.alloc hb.size (.cells (Ru.cells x) 34)
  have b2 := (Below.refl W.heap.size W).alloc (Nat.le_refl _) (.cells (Ru.cells x) 34)
  have F2 := F1.alloc (.cells (Ru.cells x) 34)
  have G2 := Blk.new W (Ru.cells x) 34
  have hB : B < W.heap.size := F1.lt
  have CM := fun W => covers_any x r W hx hr
  obtain ⟨fa, fl, ta, tl, pr, a, b, c, d, ps⟩ := x
  obtain ⟨ga, gl, ua, ul, qr, e, f, g, h, qs⟩ := r
  dsimp only [Ru.cells] at *
  generalize cov _ _ = r at *
  go_enter Try.func30, Try.ntmps30
  go_upto_region 1 with fail
  generalize hW : W.alloc (Obj.cells (XC fa fl ta tl pr a b c d ps) 34) = V at *
  clear hW
  have cF := F2.cell
  have cG := G2.cell
  go_wp2_with fail
  refine (CM _).mono ?_
  rintro e w1 ⟨rfl, z⟩
  go_wp2_with fail
  go_ret
  exact ⟨rfl, b1.trans (z.mono b1.size)⟩
/-- a rule, but one that fits -/
def nm (x : Ru) : Ru := if x.fa < 4294967296 ∧ x.ta < 4294967296 then x else ru0
theorem nm_fits (x : Ru) : fits (nm x) := by
  unfold nm fits
  by_cases h : x.fa < 4294967296 ∧ x.ta < 4294967296
  · rw [if_pos h]; exact h
  · rw [if_neg h]; exact ⟨by decide, by decide⟩
theorem nm_eq {x : Ru} (h : fits x) : nm x = x := if_pos h
theorem nm_cells {w : World} {b off : Nat} {l : List Ru} (hl : ∀ x ∈ l, fits x) (h : ∀ j x, l[j]? = some x → ∀ i, i < UK.k → w.cell? ⟨b, off + j * UK.k + i, none⟩ = (UK.enc x)[i]?) (j : Nat) (hj : j < l.length) (i : Nat) (v : Value) (hv : ((Ru.cells (nm l[j])).toList)[i]? = some v) : w.cell? ⟨b, off + j * UK.k + i, none⟩ = some v := by
  rw [nm_eq (hl _ (List.getElem_mem hj))] at hv
  have hi : i < UK.k := (List.getElem?_eq_some_iff.1 hv).1
  rw [h j _ (List.getElem?_eq_getElem hj) i hi, ← Array.getElem?_toList]
  exact hv
theorem by_fst (p : Ru → Bool) (x : Ru) : ∀ (X : List Ru) (i : Nat), Lib.idxByFrom (fun _ y : Ru => p y) x X i = match X.findIdx? p with | none => -1 | some k => ((i + k : Nat) : Int)
  | [], _ => rfl
  | y :: l, i => by
    show (if p y = true then (i : Int) else Lib.idxByFrom _ x l (i + 1)) = _
    rw [by_fst p x l (i + 1), List.findIdx?_cons]
    by_cases e : p y = true
    · simp [e]
    · rw [if_neg e, if_neg e]
      cases l.findIdx? p with
      | none => rfl
      | some k => show ((i + 1 + k : Nat) : Int) = ((i + (k + 1) : Nat) : Int); congr 1; omega
theorem findIdx_nm (p : Ru → Bool) : ∀ (l : List Ru), (∀ x ∈ l, fits x) → l.findIdx? (fun x => p (nm x)) = l.findIdx? p
  | [], _ => rfl
  | x :: l, h => by
    rw [List.findIdx?_cons, List.findIdx?_cons, nm_eq (h x (by simp)), findIdx_nm p l fun y hy => h y (by simp [hy])]
theorem any_nm (p : Ru → Bool) (l : List Ru) (h : ∀ x ∈ l, fits x) : l.any (fun x => p (nm x)) = l.any p := by
  rw [Bool.eq_iff_iff, List.any_eq_true, List.any_eq_true]
  constructor
  · rintro ⟨x, hx, e⟩; exact ⟨x, hx, by rwa [nm_eq (h x hx)] at e⟩
  · rintro ⟨x, hx, e⟩; exact ⟨x, hx, by rwa [nm_eq (h x hx)]⟩
theorem index_any (v : Value) (l : List Ru) (f : Fw) (B : Nat) (w : World) (hr : Rd UK w v l) (hl : ∀ x ∈ l, fits x) (F : Blk w B (Fw.cells f) 25) (hf : fitsF f) :
    Calls Try.prog 20 #[v, .func (.func 21) #[] #[.pointer (some ⟨B, 0, none⟩)]] w fun e w' => e = .returned (.int .i64 (fst f l)) ∧ Below w.heap.size w w' := by
  haveI : Inhabited Ru := ⟨ru0⟩
  obtain ⟨sa, sc, rfl, hm, hn, hc⟩ := hr
  by_cases hX : 0 < l.length
  · obtain ⟨b, off, rfl, hlt, hx⟩ := hc hX
    have eg : ∀ args w, (callFunc 21 args).run Try.prog w = .ok (.enter 21 args) w := enters_of Try.func21 (by kernel_rfl) rfl
    refine (AnyQ.slices_IndexFunc Try.idxRu 10 Try.isAgg34 Try.sizeOf34 (fun x : Ru => (Ru.cells (nm x)).toList) (fun _ => rfl) (fun x => mts f (nm x)) 21 #[.pointer (some ⟨B, 0, none⟩)] eg b off l.length sc l _ (fun W x hb => predD f B w F hf W (nm x) (nm_fits x) hb) (Nat.le_refl _) (by unfold maxLen at hm; omega) hlt (fun j hj i v hv => nm_cells hl hx j hj i v (by rw [bang hj] at hv; exact hv))).mono ?_
    rintro e w' ⟨rfl, hb⟩
    refine ⟨?_, hb⟩
    rw [List.take_length]
    unfold Lib.idxBy
    rw [by_fst, findIdx_nm _ _ hl]
    unfold fst
    cases l.findIdx? (mts f) with
    | none => rfl
    | some k => show Ending.returned (.int .i64 ((0 + k : Nat) : Int)) = _; rw [Nat.zero_add]
  · have : l = [] := List.eq_nil_of_length_eq_zero (by omega)
    subst this
    exact idx_none sa sc _ _
theorem some_any (v : Value) (l : List Ru) (r : Ru) (B : Nat) (w : World) (hv : Rd UK w v l) (hl : ∀ x ∈ l, fits x) (F : Blk w B (Ru.cells r) 34) (hr : fits r) :
    Calls Try.prog 29 #[v, .func (.func 30) #[] #[.pointer (some ⟨B, 0, none⟩)]] w fun e w' => e = .returned (.bool (l.any fun x => cov x r)) ∧ Below w.heap.size w w' := by
  haveI : Inhabited Ru := ⟨ru0⟩
  obtain ⟨sa, sc, rfl, hm, hn, hc⟩ := hv
  by_cases hX : 0 < l.length
  · obtain ⟨b, off, rfl, hlt, hx⟩ := hc hX
    have eg : ∀ args w, (callFunc 30 args).run Try.prog w = .ok (.enter 30 args) w := enters_of Try.func30 (by kernel_rfl) rfl
    refine (AnyQ.slices_ContainsFunc Try.anyRu 10 Try.isAgg34 Try.sizeOf34 (fun x : Ru => (Ru.cells (nm x)).toList) (fun _ => rfl) (fun x => cov (nm x) r) 30 #[.pointer (some ⟨B, 0, none⟩)] eg b off l.length sc l _ (fun W x hb => predS r B w F hr W (nm x) (nm_fits x) hb) (Nat.le_refl _) (by unfold maxLen at hm; omega) hlt (fun j hj i v hv => nm_cells hl hx j hj i v (by rw [bang hj] at hv; exact hv))).mono ?_
    rintro e w' ⟨rfl, hb⟩
    refine ⟨?_, hb⟩
    rw [List.take_length, any_nm (fun x => cov x r) l hl]
  · have : l = [] := List.eq_nil_of_length_eq_zero (by omega)
    subst this
    exact any_none sa sc _ _
end Go.Proofs.Ytfcnabpbpbhacaa.ru
