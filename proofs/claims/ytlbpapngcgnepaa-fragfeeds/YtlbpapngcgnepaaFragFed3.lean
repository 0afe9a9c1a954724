/- slices.SortFunc of a row of parts of the call's own: the same parts, in order. -/
import Derived.Test.YtlbpapngcgnepaaFragFed2
namespace Go.Proofs.Ytlbpapngcgnepaa.fd3
open Go.ChangeShapes Go.WideShapes Go.ChangeAt Go.RowKit Go.BigFrame
open Go.Proofs.Ytlbpapngcgnepaa Go.Proofs.Ytlbpapngcgnepaa.ipb Go.Proofs.Ytlbpapngcgnepaa.boxes Go.Proofs.Ytlbpapngcgnepaa.frb Go.Proofs.Ytlbpapngcgnepaa.frp Go.Proofs.Ytlbpapngcgnepaa.pl Go.Proofs.Ytlbpapngcgnepaa.frx Go.Proofs.Ytlbpapngcgnepaa.fd2
open Go.Proofs.Ytlbpapngcgnepaa.rws (Own Knd cs_at cs_length)
open Go.Proofs.Ytlbpapngcgnepaa.frf2 (Sm)
open Go.Sort (flatK get_flatK HoldsK size_flatK)

theorem cs_get (l : List Pt) (t : Nat) (ht : t < l.length * 3) : (TK.cs l)[t]? = ((l[t / 3]'(by omega)).cells)[t % 3]? := by
  have ht3 : t / 3 < l.length := by omega
  have h := cs_at TK l (t / 3) (l[t / 3]'ht3) (List.getElem?_eq_getElem ht3) (t % 3) (by show t % 3 < 3; omega)
  have e : t / 3 * TK.k + t % 3 = t := by show t / 3 * 3 + t % 3 = t; omega
  rw [e] at h
  exact h
theorem flat_get (d : Array Sp) (t : Nat) (ht : t < d.size * 3) : some ((flatK enc 3 d)[t]!) = ((d[t / 3]'(by omega)).1.cells)[t % 3]? := by
  rw [get_flatK enc 3 d t ht, getElem!_pos d (t / 3) (by omega)]
  have hl : (enc (d[t / 3]'(by omega))).length = 3 := rfl
  rw [getElem!_pos _ (t % 3) (by omega)]
  unfold enc
  rw [← Array.getElem?_toList, List.getElem?_eq_getElem (by show t % 3 < 3; omega)]
/-- parts, as small ones -/
def toSp (l : List Pt) (hs : ∀ o ∈ l, Sm o) : Array Sp := (l.attach.map fun x => (⟨x.1, hs x.1 x.2⟩ : Sp)).toArray
theorem toSp_size (l : List Pt) (hs : ∀ o ∈ l, Sm o) : (toSp l hs).size = l.length := by simp [toSp]
theorem toSp_list (l : List Pt) (hs : ∀ o ∈ l, Sm o) : (toSp l hs).toList.map (·.1) = l := by
  simp [toSp, Function.comp_def]
theorem toSp_get (l : List Pt) (hs : ∀ o ∈ l, Sm o) (j : Nat) (hj : j < l.length) : ((toSp l hs)[j]'(by rw [toSp_size]; exact hj)).1 = l[j] := by
  simp [toSp]
theorem put_cells (F cur : Array Value) (t : Nat) (ht : t < F.size) (hc : F.size ≤ cur.size) : (Sort.putCells id 0 F cur)[t]? = some F[t]! := by
  unfold Sort.putCells
  rw [Array.getElem?_mapIdx, Array.getElem?_eq_getElem (by omega)]
  simp [ht]
set_option maxHeartbeats 1000000 in
theorem sort_any (v : Value) (l : List Pt) (B : Nat) (w : World) (h : Own TK w B v l) (hs : ∀ o ∈ l, Sm o) (h0 : 0 < l.length) (hz : l.length ≤ 1000) :
    Calls Try.prog 32 #[v, .func (.func 33) #[] #[]] w fun e w' => e = .returned (.tuple #[]) ∧ ∃ l', l'.Perm l ∧ l'.Pairwise (fun a b => a.a ≤ b.a) ∧ Own TK w' B v l' ∧ w.grownBy w' v.ownBlock := by
  have hl1 := h.1
  rcases h.2 with ⟨_, e0⟩ | ⟨g, cap, cur, rfl, hB, hg, hnc, hm, hcs, htake⟩
  · omega
  have hgl : g < w.heap.size := (Array.getElem?_eq_some_iff.1 hg).1
  have hcs' : cur.size = cap * 3 := hcs
  have hgb : Blk w g cur TK.e := hg
  have dz := toSp_size l hs
  have hcur : ∀ (t : Nat) (ht : t < l.length * 3), cur[t]? = ((l[t / 3]'(by clear hl1; omega)).cells)[t % 3]? := fun t ht => by
    rw [← cs_get l t ht, ← htake, List.getElem?_take, if_pos (show t < l.length * TK.k from ht), Array.getElem?_toList]
  have hH : HoldsK enc 3 w g 0 (toSp l hs) := by
    intro j hj
    rw [size_flatK, dz] at hj
    rw [Nat.zero_add]
    refine ⟨?_, hgb.free j⟩
    rw [hgb.cell, hcur j hj, id, flat_get _ j (by rw [dz]; exact hj), toSp_get l hs (j / 3) (by omega)]
  have eg : ∀ args w, (callFunc 33 args).run Try.prog w = .ok (.enter 33 args) w := enters_of Try.func33 (by kernel_rfl) rfl
  have C := AnyQ.slices_SortFunc Try.sortPt 3 Try.isAgg49 Try.sizeOf49 enc (fun _ => rfl) (fun x v hv => Array.all_eq_true'.1 (pt_one x.1) v (by simpa [enc] using hv)) cf cf_swo 33 #[] g 0 cap (toSp l hs) w eg (fun m os dk _ x y => cmp_any x y _) hH hgl (by rw [dz]; omega)
  rw [dz] at C
  refine C.mono ?_
  rintro e w' ⟨rfl, d', n, os, ⟨p1, _, p2⟩, hs', rfl⟩
  have dz' : d'.size = l.length := by rw [p1, dz]
  have pm : d'.toList.Perm (toSp l hs).toList := by
    have a1 : d'.extract 0 l.length = d' := by rw [← dz']; simp
    have a2 : (toSp l hs).extract 0 l.length = toSp l hs := by rw [← dz]; simp
    rw [a1, a2] at p2
    exact p2
  have hl' : (d'.toList.map (·.1)).length = l.length := by simp [dz']
  have hget : ∀ (j : Nat) (hj : j < d'.size), (d'.toList.map (·.1))[j]'(by simpa using hj) = (d'[j]).1 := fun j hj => by simp
  refine ⟨rfl, d'.toList.map (·.1), ?_, ?_, ?_, ?_⟩
  · have := pm.map (·.1)
    rwa [toSp_list] at this
  · rw [List.pairwise_iff_getElem]
    intro i j hi hj hij
    have hi' : i < d'.size := by omega
    have hj' : j < d'.size := by omega
    rw [hget i hi', hget j hj']
    have := hs' i j (Nat.zero_le _) hij (by omega)
    rw [getElem!_pos d' j hj', getElem!_pos d' i hi', lt_cf] at this
    simp only [decide_eq_false_iff_not] at this
    omega
  · have hgn : (sortWorldK enc 3 w g 0 n d' os).heap[g]? = some (.cells (Sort.putCells id 0 (flatK enc 3 d') cur) TK.e (0, 0)) := by
      show ((Sort.mapBlock (Sort.ahead w n) g (Sort.putCells id 0 (flatK enc 3 d'))).heap ++ os)[g]? = _
      have hz2 : g < (Sort.mapBlock (Sort.ahead w n) g (Sort.putCells id 0 (flatK enc 3 d'))).heap.size := by
        show g < (w.heap.modify g _).size
        simpa using hgl
      rw [Array.getElem?_append_left hz2]
      show (w.heap.modify g (Sort.onCells (Sort.putCells id 0 (flatK enc 3 d'))))[g]? = _
      rw [Array.getElem?_modify, if_pos rfl, hg]
      rfl
    refine ⟨by rw [cs_length], .inr ⟨g, cap, _, by rw [hl'], hB, hgn, by rw [hl']; exact hnc, hm, ?_, ?_⟩⟩
    · simp [Sort.putCells]; exact hcs
    · apply List.ext_getElem?
      intro t
      have fz : (flatK enc 3 d').size = l.length * 3 := by rw [size_flatK, dz']
      by_cases ht : t < l.length * 3
      · have ht2 : t < (d'.toList.map (·.1)).length * TK.k := by rw [hl']; exact ht
        rw [List.getElem?_take, if_pos ht2, Array.getElem?_toList, put_cells _ _ t (by omega) (by rw [fz, hcs']; exact Nat.mul_le_mul_right 3 hnc), flat_get d' t (by rw [dz']; exact ht)]
        rw [cs_get (d'.toList.map (·.1)) t (by rw [hl']; exact ht), hget (t / 3) (by omega)]
      · have hk : (d'.toList.map (·.1)).length * TK.k = l.length * 3 := by rw [hl']; rfl
        have ha : ((Sort.putCells id 0 (flatK enc 3 d') cur).toList.take ((d'.toList.map (·.1)).length * TK.k)).length ≤ t := by rw [List.length_take]; omega
        have hb : (TK.cs (d'.toList.map (·.1))).length ≤ t := by rw [cs_length]; omega
        rw [List.getElem?_eq_none ha, List.getElem?_eq_none hb]
  · refine ⟨rfl, rfl, rfl, ?_, fun k hk hne => ?_⟩
    · show w.heap.size ≤ ((w.heap.modify g _) ++ os).size
      simp
    · show ((w.heap.modify g (Sort.onCells (Sort.putCells id 0 (flatK enc 3 d')))) ++ os)[k]? = _
      rw [Array.getElem?_append_left (by simpa using hk), Array.getElem?_modify, if_neg]
      intro e
      exact hne (by rw [← e]; rfl)
end Go.Proofs.Ytlbpapngcgnepaa.fd3
