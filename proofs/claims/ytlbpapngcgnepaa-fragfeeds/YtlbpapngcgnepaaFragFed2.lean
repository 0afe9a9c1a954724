/- Where custref.Fed finds a heap; slices.SortFunc of parts. -/
import Derived.Test.YtlbpapngcgnepaaJoinD
import Derived.Test.YtlbpapngcgnepaaFragFedMath
import Derived.Shelf.SlSortCmp.WholeK
namespace Go.Proofs.Ytlbpapngcgnepaa.fd2
open Go.ChangeShapes Go.WideShapes Go.ChangeAt Go.RowKit Go.BigFrame
open Go.Proofs.Ytlbpapngcgnepaa Go.Proofs.Ytlbpapngcgnepaa.ipb Go.Proofs.Ytlbpapngcgnepaa.boxes Go.Proofs.Ytlbpapngcgnepaa.frb Go.Proofs.Ytlbpapngcgnepaa.frp Go.Proofs.Ytlbpapngcgnepaa.pl Go.Proofs.Ytlbpapngcgnepaa.frx
open Go.Proofs.Ytlbpapngcgnepaa.rws (Own Knd cs_at cs_length)
open Go.Proofs.Ytlbpapngcgnepaa.frf2 (Sm)

set_option maxRecDepth 20000 in
set_option maxHeartbeats 2000000 in
theorem pred (p : Pk) (B : Nat) (w : World) (F : Blk w B p.cells 24) :
    PredBelow Try.prog 28 #[.pointer (some ⟨B, 0, none⟩)] (fun x : Hv => .agg x.cells.toList.toArray) (fun x => x.h.nm.eq (pnm p)) w := fun W x hb => by
  have F1 := F.below hb F.lt
  have A := Blk.new W x.cells 46
  have b1 := hb.alloc hb.size (.cells x.cells 46)
  have F2 := F1.alloc (.cells x.cells 46)
  have hB : B < W.heap.size := F1.lt
  show Calls Try.prog 28 #[.agg x.cells, .pointer (some ⟨B, 0, none⟩)] W fun e w' => e = .returned (.bool (x.h.nm.eq (pnm p))) ∧ _
  have E : Hid (x.h.nm.eq (pnm p) = (x.h.fr == p.fr && (x.h.to == p.to && (x.h.pr == p.pr && x.h.id == p.id)))) := (rfl : _ = _)
  obtain ⟨r, hr⟩ : ∃ r, r = x.h.nm.eq (pnm p) := ⟨_, rfl⟩
  rw [← hr] at E ⊢
  clear hr
  have cA := A.cell
  have cF := F2.cell
  obtain ⟨⟨h0, h1, h2, h3, h4, h5, h6⟩, sa, sn, sc⟩ := x
  simp only at E
  by_cases e1 : h0 = p.fr
  · by_cases e2 : h1 = p.to
    · by_cases e3 : h2 = p.pr
      · by_cases e4 : h3 = p.id
        · have E1 : Hid (r = true) := by show _ = _; rw [E.out, e1, e2, e3, e4]; simp
          subst e1 e2 e3 e4
          clear E
          go_enter Try.func28, Try.ntmps28
          go_wp2_with fail
          go_ret
          exact ⟨by rw [E1.out]; rfl, b1⟩
        · have E1 : Hid (r = false) := by show _ = _; rw [E.out]; simp [e4]
          have e4' : (h3 == p.id) = false := by simpa using e4
          subst e1 e2 e3
          clear E e4
          go_enter Try.func28, Try.ntmps28
          go_wp2_with fail
          go_ret
          exact ⟨by rw [E1.out]; rfl, b1⟩
      · have E1 : Hid (r = false) := by show _ = _; rw [E.out]; simp [e3]
        have e3' : (h2 == p.pr) = false := by simpa using e3
        subst e1 e2
        clear E e3
        go_enter Try.func28, Try.ntmps28
        go_wp2_with fail
        go_ret
        exact ⟨by rw [E1.out]; rfl, b1⟩
    · have E1 : Hid (r = false) := by show _ = _; rw [E.out]; simp [e2]
      have e2' : (h1 == p.to) = false := by simpa using e2
      subst e1
      clear E e2
      go_enter Try.func28, Try.ntmps28
      go_wp2_with fail
      go_ret
      exact ⟨by rw [E1.out]; rfl, b1⟩
  · have E1 : Hid (r = false) := by show _ = _; rw [E.out]; simp [e1]
    have e1' : (h0 == p.fr) = false := by simpa using e1
    clear E e1
    go_enter Try.func28, Try.ntmps28
    go_wp2_with fail
    go_ret
    exact ⟨by rw [E1.out]; rfl, b1⟩
theorem index_any (v : Value) (X : List Hv) (p : Pk) (B : Nat) (w : World) (hr : Rd HK w v X) (F : Blk w B p.cells 24) :
    Calls Try.prog 27 #[v, .func (.func 28) #[] #[.pointer (some ⟨B, 0, none⟩)]] w fun e w' => e = .returned (.int .i64 (fnd (pnm p) (X.map (·.h)) 0)) ∧ Below w.heap.size w w' := by
  obtain ⟨sa, sc, rfl, hm, hn, hc⟩ := hr
  by_cases hX : 0 < X.length
  · obtain ⟨b, off, rfl, hlt, hx⟩ := hc hX
    have eg : ∀ args w, (callFunc 28 args).run Try.prog w = .ok (.enter 28 args) w := enters_of Try.func28 (by kernel_rfl) rfl
    refine (AnyQ.slices_IndexFunc Try.idxHp 8 Try.isAgg46 Try.sizeOf46 (fun x : Hv => x.cells.toList) (fun _ => rfl) (fun x => x.h.nm.eq (pnm p)) 28 #[.pointer (some ⟨B, 0, none⟩)] eg b off X.length sc X _ (pred p B _ F) (Nat.le_refl _) (by unfold maxLen at hm; omega) hlt (rd_cells (K := HK) hx)).mono ?_
    rintro e w' ⟨rfl, hb⟩
    refine ⟨?_, hb⟩
    rw [List.take_length]
    unfold Lib.idxBy
    rw [fnd_idx]
  · have : X = [] := List.eq_nil_of_length_eq_zero (by omega)
    subst this
    exact idx_none sa sc _ _
/-- a part whose numbers are small -/
abbrev Sp := { q : Pt // Sm q }
instance : Inhabited Sp := ⟨⟨⟨0, ⟨#[]⟩, false⟩, ⟨by decide, by decide, by decide⟩⟩⟩
def enc (x : Sp) : List Value := x.1.cells.toList
def cf (x y : Sp) : Int := x.1.a - y.1.a
theorem alloc1 (u : World) (o : Obj) : u.alloc o = Sort.grow u #[o] := by
  show ({ u with heap := u.heap.push o } : World) = { u with heap := u.heap ++ #[o] }
  rw [Array.push_eq_append]
theorem alloc2 (u : World) (o o' : Obj) : (u.alloc o).alloc o' = Sort.grow (u.drewN 0) #[o, o'] := by
  rw [alloc1, alloc1, Sort.grow_grow]
  rfl
theorem cmp_any (x y : Sp) (W : World) : Calls Try.prog 33 #[.agg x.1.cells, .agg y.1.cells] W fun e w' => e = .returned (.int .i64 (cf x y)) ∧ ∃ q os', w' = Sort.grow (W.drewN q) os' := by
  obtain ⟨⟨a, d, la⟩, ⟨a0, a1, _⟩⟩ := x
  obtain ⟨⟨b, d2, lb⟩, ⟨b0, b1, _⟩⟩ := y
  simp only at a0 a1 b0 b1
  go_enter Try.func33, Try.ntmps33
  go_wp2_with fail
  go_ret
  refine ⟨rfl, 0, #[.cells (Pt.cells ⟨a, d, la⟩) 49, .cells (Pt.cells ⟨b, d2, lb⟩) 49], ?_⟩
  exact alloc2 _ _ _
theorem lt_cf (x y : Sp) : ltOf cf x y = decide (x.1.a - y.1.a < 0) := rfl
theorem cf_swo : Sort.SWO (ltOf cf) := by
  refine ⟨fun x => ?_, fun x y z h1 h2 => ?_, fun x y z h1 h2 => ?_⟩
  · rw [lt_cf]; simp
  · rw [lt_cf] at *; simp only [decide_eq_true_eq] at *; omega
  · rw [lt_cf] at *; simp only [decide_eq_false_iff_not] at *; omega
end Go.Proofs.Ytlbpapngcgnepaa.fd2
