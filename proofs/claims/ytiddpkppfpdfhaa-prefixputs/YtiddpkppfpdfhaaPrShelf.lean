/- The library's functions at rows of texts: sorted, each once, looked for. -/
import Derived.Test.YtiddpkppfpdfhaaPrMath
import Derived.Test.YtiddpkppfpdfhaaRwsAt
import Derived.Test.YtiddpkppfpdfhaaShelf
import Derived.Test.YtiddpkppfpdfhaaShelfPf
import Derived.Shelf.Lays2
namespace Go.Proofs
open Go.Shelf
def Try.bsS_ren : Go.Shelf.Ren := ⟨fun | 26 => 52 | 33 => 59 | 34 => 60 | 38 => 72 | n => n, fun | 24 => 80 | 40 => 90 | 9 => 9 | 4 => 4 | 3 => 3 | 0 => 0 | n => n, fun | n => n⟩
theorem Try.bsS : Go.Proofs.Lays2.n26 Try.prog Try.bsS_ren := {
  mixed := by kernel_rfl
  f26 := Try.func52.trans (congrArg some (by kernel_rfl))
  f33 := Try.func59.trans (congrArg some (by kernel_rfl))
  f34 := Try.func60.trans (congrArg some (by kernel_rfl))
  f38 := Try.func72.trans (congrArg some (by kernel_rfl))
  t0 := Try.underlying0
  a0 := Try.isAgg0
  z0 := Try.sizeOf0
  v0 := Try.zeroValue0
  t3 := Try.underlying3
  a3 := Try.isAgg3
  z3 := Try.sizeOf3
  v3 := Try.zeroValue3
  t4 := Try.underlying4
  a4 := Try.isAgg4
  z4 := Try.sizeOf4
  v4 := Try.zeroValue4
  t9 := Try.underlying9
  a9 := Try.isAgg9
  z9 := Try.sizeOf9
  v9 := Try.zeroValue9
  t24 := Try.underlying80
  a24 := Try.isAgg80
  z24 := Try.sizeOf80
  v24 := Try.zeroValue80
  t40 := Try.underlying90
  a40 := Try.isAgg90
  z40 := Try.sizeOf90
  v40 := Try.zeroValue90 }
end Go.Proofs
namespace Go.Proofs.Ytiddpkppfpdfhaa.pf
open Go.ChangeShapes Go.WideShapes Go.ChangeAt Go.RowKit
open Go.Proofs.Ytiddpkppfpdfhaa Go.Proofs.Ytiddpkppfpdfhaa.pm Go.Proofs.Ytiddpkppfpdfhaa.boxes Go.Proofs.Ytiddpkppfpdfhaa.rwr Go.Proofs.Ytiddpkppfpdfhaa.rwat
open Go.Proofs.Ytiddpkppfpdfhaa.rws (Knd Own cs_length cs_at)

theorem put_cellsS (d : Array (List UInt8)) (cur : Array Value) (t : Nat) (ht : t < d.size) (hc : t < cur.size) : (Sort.putCells encStr 0 d cur)[t]? = some (encStr d[t]!) := by
  unfold Sort.putCells
  rw [Array.getElem?_mapIdx, Array.getElem?_eq_getElem hc]
  simp [ht]
/-- a row of texts, other texts put in their places -/
theorem own_row {w : World} {B g cap : Nat} {ps : List Pth} (h : Own SK w B (.slice (some ⟨g, 0, none⟩) ps.length cap) ps) (d : List (List UInt8)) (hd : d.length = ps.length) (qs : List Pth) (hm : qs.length ≤ ps.length) (hq : d.take qs.length = qs.map enl) (n : Nat) (os : Array Obj) :
    Own SK (Sort.grow (Sort.putRow encStr (Sort.ahead w n) g 0 d.toArray) os) B (.slice (some ⟨g, 0, none⟩) qs.length cap) qs ∧ w.grownBy (Sort.grow (Sort.putRow encStr (Sort.ahead w n) g 0 d.toArray) os) (some g) := by
  rcases h.2 with ⟨e, _⟩ | ⟨g', cap', cur, e, hB, hg, hnc, hmx, hcs, htake⟩
  · simp at e
  simp only [Value.slice.injEq, Option.some.injEq, Addr.mk.injEq, and_true, true_and] at e
  obtain ⟨rfl, rfl⟩ := e
  have hgl : g < w.heap.size := (Array.getElem?_eq_some_iff.1 hg).1
  have hcs1 : cur.size = cap := by rw [hcs]; exact Nat.mul_one _
  have hgn : (Sort.grow (Sort.putRow encStr (Sort.ahead w n) g 0 d.toArray) os).heap[g]? = some (.cells (Sort.putCells encStr 0 d.toArray cur) SK.e (0, 0)) := by
    show ((Sort.mapBlock (Sort.ahead w n) g (Sort.putCells encStr 0 d.toArray)).heap ++ os)[g]? = _
    have hz2 : g < (Sort.mapBlock (Sort.ahead w n) g (Sort.putCells encStr 0 d.toArray)).heap.size := by
      show g < (w.heap.modify g _).size
      simpa using hgl
    rw [Array.getElem?_append_left hz2]
    show (w.heap.modify g (Sort.onCells (Sort.putCells encStr 0 d.toArray)))[g]? = _
    rw [Array.getElem?_modify, if_pos rfl, hg]
    rfl
  refine ⟨⟨by rw [cs_length], .inr ⟨g, cap, _, rfl, hB, hgn, by omega, hmx, ?_, ?_⟩⟩, rfl, rfl, rfl, ?_, fun k hk hne => ?_⟩
  · simp [Sort.putCells]; exact hcs
  · have hl : (SK.cs qs).length = qs.length * 1 := cs_length SK qs
    have hk1 : qs.length * SK.k = qs.length := Nat.mul_one _
    apply List.ext_getElem?
    intro t
    rw [hk1]
    by_cases ht : t < qs.length
    · rw [List.getElem?_take_of_lt ht, Array.getElem?_toList, put_cellsS _ _ t (by simp; omega) (by omega)]
      have e1 := cs_at SK qs t qs[t] (List.getElem?_eq_getElem ht) 0 (by decide)
      have e2 : t * SK.k + 0 = t := Nat.mul_one _
      rw [e2] at e1
      rw [e1]
      have e3 : d[t]? = some (enl qs[t]) := by
        have := congrArg (fun z => z[t]?) hq
        simp only [List.getElem?_take_of_lt ht, List.getElem?_map, List.getElem?_eq_getElem ht, Option.map_some] at this
        exact this
      have e4 : d.toArray[t]! = enl qs[t] := by
        have hdt : t < d.length := by omega
        rw [List.getElem?_eq_getElem hdt] at e3
        rw [getElem!_pos _ t (by simpa using hdt)]
        simpa using e3
      rw [e4]
      rfl
    · rw [List.getElem?_eq_none (by rw [List.length_take]; omega), List.getElem?_eq_none (by omega)]
  · show w.heap.size ≤ ((w.heap.modify g _) ++ os).size
    simp
  · show ((w.heap.modify g (Sort.onCells (Sort.putCells encStr 0 d.toArray))) ++ os)[k]? = _
    rw [Array.getElem?_append_left (by simpa using hk), Array.getElem?_modify, if_neg]
    intro e
    exact hne (by rw [← e])
theorem own_holds {w : World} {B g cap n : Nat} {ps : List Pth} (h : Own SK w B (.slice (some ⟨g, 0, none⟩) n cap) ps) : Sort.Holds encStr w g 0 (ps.map enl).toArray := by
  intro j hj
  have hj' : j < ps.length := by simpa using hj
  obtain ⟨c, hc⟩ := own_kind h g rfl
  have hb : Blk w g c SK.e := hc
  refine ⟨?_, hb.free _⟩
  have e := Own.cell h (j := j) (List.getElem?_eq_getElem hj') (i := 0) (by decide)
  have e2 : j * SK.k + 0 = 0 + j := by show j * 1 + 0 = 0 + j; omega
  rw [e2] at e
  rw [e]
  have e4 : (ps.map enl).toArray[j]! = enl ps[j] := by rw [getElem!_pos _ j hj]; simp
  rw [e4]
  rfl
theorem enl_all : ∀ l : List (List UInt8), (∀ x ∈ l, ∃ p, enl p = x) → ∃ ps : List Pth, l = ps.map enl := by
  intro l
  induction l with
  | nil => intro _; exact ⟨[], rfl⟩
  | cons a l ih =>
    intro h
    obtain ⟨p, rfl⟩ := h a (by simp)
    obtain ⟨ps, rfl⟩ := ih fun y hy => h y (by simp [hy])
    exact ⟨p :: ps, rfl⟩
theorem sort_any (v : Value) (ps : List Pth) (w : World) (B : Nat) (h : Own SK w B v ps) (hl : ps.length ≤ 1000000) :
    Calls Try.prog 50 #[v] w fun e w' => e = .returned (.tuple #[]) ∧ ∃ qs, Own SK w' B v qs ∧ qs.length = ps.length ∧ qs.map enl = (ps.map enl).mergeSort (fun x y => decide (x ≤ y)) ∧ Only v v w w' := by
  have hno : ∀ (a : Option Addr) (c : Nat), v = .slice a 0 c → ps = [] → Calls Try.prog 50 #[v] w fun e w' => e = .returned (.tuple #[]) ∧ ∃ qs, Own SK w' B v qs ∧ qs.length = ps.length ∧ qs.map enl = (ps.map enl).mergeSort (fun x y => decide (x ≤ y)) ∧ Only v v w w' := by
    rintro a c rfl rfl
    refine (Try.slices_Sort_string_none a c w).mono ?_
    rintro e w' ⟨rfl, rfl⟩
    exact ⟨rfl, [], h, rfl, by simp, Only.refl _ _⟩
  rcases h.forms with ⟨rfl, e0⟩ | ⟨g, cap, rfl, hB, hg, hn, hm⟩
  · exact hno none 0 rfl e0
  · by_cases h0 : ps.length = 0
    · exact hno _ cap (by rw [h0]) (List.eq_nil_of_length_eq_zero h0)
    · have hH := own_holds h
      have C := Try.slices_Sort_string g 0 cap (ps.map enl) w hH hg (by simp; omega)
      rw [List.length_map] at C
      refine C.mono ?_
      rintro e w' ⟨rfl, n, os, rfl⟩
      obtain ⟨qs, hqs⟩ := enl_all ((ps.map enl).mergeSort fun x y => decide (x ≤ y)) fun x hx => by
        obtain ⟨p, _, e⟩ := List.mem_map.1 ((List.mergeSort_perm _ _).mem_iff.1 hx)
        exact ⟨p, e⟩
      have hql : qs.length = ps.length := by
        have := congrArg List.length hqs
        simpa using this.symm
      have hR := own_row h ((ps.map enl).mergeSort fun x y => decide (x ≤ y)) (by simp) qs (by omega) (by rw [hqs]; exact List.take_of_length_le (by simp)) n os
      rw [hql] at hR
      exact ⟨rfl, qs, hR.1, hql, hqs.symm, hR.2, fun g' hg' => Or.inl hg'⟩
theorem compact_any (v : Value) (ps : List Pth) (w : World) (B : Nat) (h : Own SK w B v ps) (hl : ps.length ≤ 1000000) :
    Calls Try.prog 51 #[v] w fun e w' => ∃ v' qs, e = .returned v' ∧ Own SK w' B v' qs ∧ qs.map enl = Lib.compact (ps.map enl) ∧ Only v v' w w' := by
  have hno : ∀ (a : Option Addr) (c : Nat), v = .slice a 0 c → ps = [] → Calls Try.prog 51 #[v] w fun e w' => ∃ v' qs, e = .returned v' ∧ Own SK w' B v' qs ∧ qs.map enl = Lib.compact (ps.map enl) ∧ Only v v' w w' := by
    rintro a c rfl rfl
    refine (Try.slices_Compact_string_empty a c w).mono ?_
    rintro e w' ⟨rfl, rfl⟩
    exact ⟨_, [], rfl, h, by simp [Lib.compact, Lib.compactUpTo], Only.refl _ _⟩
  rcases h.forms with ⟨rfl, e0⟩ | ⟨g, cap, rfl, hB, hg, hn, hm⟩
  · exact hno none 0 rfl e0
  · by_cases h0 : ps.length = 0
    · exact hno _ cap (by rw [h0]) (List.eq_nil_of_length_eq_zero h0)
    · have hH := own_holds h
      have C := Try.slices_Compact_string g 0 cap (ps.map enl) w hH (by simp; omega) (by simp; omega)
      rw [List.length_map] at C
      refine C.mono ?_
      rintro e w' ⟨rfl, n, rfl⟩
      have hcl : (Lib.compact (ps.map enl)).length ≤ ps.length := by have := Lib.compact_length_le (ps.map enl); simpa using this
      obtain ⟨qs, hqs⟩ := enl_all (Lib.compact (ps.map enl)) fun x hx => by
        have hxm : x ∈ ps.map enl := by
          unfold Lib.compact Lib.compactUpTo at hx
          obtain ⟨i, hi, rfl⟩ := List.mem_map.1 hx
          have hi' : i < (ps.map enl).length := List.mem_range.1 (List.mem_filter.1 hi).1
          rw [getElem!_pos _ i (by simpa using hi')]
          simp
          exact ⟨_, List.getElem_mem (by simpa using hi'), rfl⟩
        obtain ⟨p, _, e⟩ := List.mem_map.1 hxm
        exact ⟨p, e⟩
      have hql : (Lib.compact (ps.map enl)).length = qs.length := by rw [hqs, List.length_map]
      have hR := own_row h (Lib.compact (ps.map enl) ++ List.replicate (ps.length - (Lib.compact (ps.map enl)).length) []) (by simp; omega) qs (by omega) (by rw [← hql, List.take_left, hqs]) n #[]
      rw [Sort.grow_empty] at hR
      rw [hql] at hR ⊢
      exact ⟨_, qs, rfl, hR.1, hqs.symm, hR.2, fun g' hg' => Or.inl hg'⟩
theorem search_any (v : Value) (ps : List Pth) (q : Pth) (w : World) (h : Rd SK w v ps) (hl : ps.length ≤ 1000000) :
    Calls Try.prog 52 #[v, .string (en q)] w fun e w' => e = .returned (.tuple #[.int .i64 (bsI ps q : Int), .bool (decide (bsI ps q < ps.length ∧ Sx ps q (bsI ps q) = en q))]) ∧ Below w.heap.size w w' := by
  obtain ⟨sa, sc, rfl, hm, hf, hc⟩ := h
  by_cases h0 : 0 < ps.length
  · obtain ⟨b, off, rfl, hb, hx⟩ := hc h0
    refine (Any2.slices_BinarySearch_string Try.bsS b off ps.length sc (Sx ps q) (en q) w (by omega) fun j hj => ?_).mono ?_
    · have e := hx j ps[j] (List.getElem?_eq_getElem hj) 0 (by decide)
      have e2 : off + j * SK.k + 0 = off + j := by show off + j * 1 + 0 = off + j; omega
      rw [e2] at e
      rw [e]
      unfold Sx
      rw [List.getD_eq_getElem?_getD, List.getElem?_eq_getElem hj]
      rfl
    · rintro e w' ⟨rfl, n, rfl⟩
      exact ⟨rfl, rfl, rfl, rfl, Nat.le_refl _, fun _ _ => rfl⟩
  · have e : ps = [] := List.eq_nil_of_length_eq_zero (by omega)
    subst e
    refine (Any2.slices_BinarySearch_string_empty Try.bsS sa sc (en q) w).mono ?_
    rintro e w' ⟨rfl, rfl⟩
    refine ⟨?_, Below.refl _ _⟩
    simp [bsI, Lib.bsGo]
end Go.Proofs.Ytiddpkppfpdfhaa.pf
