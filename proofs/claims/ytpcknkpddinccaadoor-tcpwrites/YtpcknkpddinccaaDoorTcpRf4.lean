/- What slices.ContainsFunc answers to custref.SegmentText's question; where a segment can't be written: what custref.SegmentText answers. -/
import Derived.Test.YtpcknkpddinccaaDoorTcpRf1
import Derived.Test.YtpcknkpddinccaaDoorTcpWr3
import Derived.Test.YtpcknkpddinccaaDoorShelfOp
namespace Go.Proofs.YtpcknkpddinccaaDoor.tcf4
open Go.ChangeShapes Go.WideShapes Go.ChangeAt Go.RowKit Go.BigFrame
open Go.Proofs.YtpcknkpddinccaaDoor Go.Proofs.YtpcknkpddinccaaDoor.EM Go.Proofs.YtpcknkpddinccaaDoor.ethb Go.Proofs.YtpcknkpddinccaaDoor.SM Go.Proofs.YtpcknkpddinccaaDoor.ipb Go.Proofs.YtpcknkpddinccaaDoor.boxes Go.Proofs.YtpcknkpddinccaaDoor.wds Go.Proofs.YtpcknkpddinccaaDoor.tcb Go.Proofs.YtpcknkpddinccaaDoor.tct Go.Proofs.YtpcknkpddinccaaDoor.rwr Go.Proofs.YtpcknkpddinccaaDoor.tcm Go.Proofs.YtpcknkpddinccaaDoor.tcf1
open Go.Proofs.YtpcknkpddinccaaDoor.rws (Knd Own)
open Go.Proofs.YtpcknkpddinccaaDoor.refb (between_any)
open Go.Proofs.YtpcknkpddinccaaDoor.dgi (Ad)
open Go.Proofs.YtpcknkpddinccaaDoor.ipb (ret_text)
open Go.Proofs.YtpcknkpddinccaaDoor.ipm (bytes_ext ext_list size_list)

theorem bad_pred (w : World) : PredBelow Tryd.prog 28 #[] (fun x : Opt => .agg x.cells.toList.toArray) (fun x => !ook x) w := fun W x hb => by
  have b1 := hb.alloc hb.size (.cells x.cells 40)
  have F1 := Blk.new W x.cells 40
  show Calls Tryd.prog 28 #[.agg x.cells] W fun e w' => e = .returned (.bool (!ook x)) ∧ _
  have C := fun u => optionText_any x u
  generalize ook x = B at *
  generalize ott x = T at *
  obtain ⟨ki, d⟩ := x
  go_enter Tryd.func28, Tryd.ntmps28
  go_wp2_with (refine blk_load _ rfl 40 _ rfl W.heap.size rfl _ _ F1 _ Tryd.underlying40 rfl 2 op_info rfl ?_)
  refine (C _).mono ?_
  rintro e w1 ⟨rfl, l1⟩
  have b2 := b1.trans (l1.mono b1.size)
  go_wp2_with fail
  go_ret
  exact ⟨rfl, b2⟩
theorem idx_none' (sa : Option Addr) (sc : Nat) (f : Value) (w : World) : Calls Tryd.prog 47 #[.slice sa 0 sc, f] w fun e w' => e = .returned (.int .i64 (-1)) ∧ Below w.heap.size w w' := by
  go_enter Tryd.func47, Tryd.ntmps47
  go_wp2
  go_loopg [8] 0 (fun g s13 wr => s13 = .int .i64 0 ∧ wr = w)
  case atStart => exact ⟨rfl, rfl⟩
  case round =>
    obtain ⟨rfl, rfl⟩ := hrel
    go_wp2
    go_ret
    exact ⟨rfl, Below.refl _ _⟩
theorem any_none (sa : Option Addr) (sc : Nat) (f : Value) (w : World) : Calls Tryd.prog 27 #[.slice sa 0 sc, f] w fun e w' => e = .returned (.bool false) ∧ Below w.heap.size w w' := by
  go_enter Tryd.func27, Tryd.ntmps27
  go_wp2_with fail
  refine (idx_none' sa sc f _).mono ?_
  rintro e w' ⟨rfl, hb⟩
  go_wp2_with fail
  go_ret
  exact ⟨rfl, hb⟩
theorem none_bad (v : Value) (os : List Opt) (w : World) (hr : Rd OK w v os) (hk : ∀ o ∈ os, ook o = true) :
    Calls Tryd.prog 27 #[v, .func (.func 28) #[] #[]] w fun e w' => e = .returned (.bool false) ∧ Below w.heap.size w w' := by
  obtain ⟨sa, sc, rfl, hm, hn, hc⟩ := hr
  by_cases hX : 0 < os.length
  · obtain ⟨b, off, rfl, hlt, hx⟩ := hc hX
    have eg : ∀ args w, (callFunc 28 args).run Tryd.prog w = .ok (.enter 28 args) w := enters_of Tryd.func28 (by kernel_rfl) rfl
    refine (AnyQ.slices_ContainsFunc Tryd.anyOp 2 Tryd.isAgg40 Tryd.sizeOf40 (fun x : Opt => x.cells.toList) (fun _ => rfl) (fun x => !ook x) 28 #[] eg b off os.length sc os _ (bad_pred _) (Nat.le_refl _) (by unfold maxLen at hm; omega) hlt (rd_cells (K := OK) hx)).mono ?_
    rintro e w' ⟨rfl, hb⟩
    refine ⟨?_, hb⟩
    rw [List.take_length]
    have : os.any (fun x => !ook x) = false := by
      rw [List.any_eq_false]
      intro x hx
      rw [hk x hx]; simp
    rw [this]
  · have : os = [] := List.eq_nil_of_length_eq_zero (by omega)
    subst this
    exact any_none sa sc _ w
/-- so far as the loop has come: all its bytes, or too many -/
def Sofar (os : List Opt) (k : Nat) (x : ByteArray) : Prop := x.data.toList = otx (os.take k) ∨ (40 < x.size ∧ 40 < oln os)
theorem sofar_part (os : List Opt) (k : Nat) : (otx (os.take k)).length ≤ oln os := by
  have : otx os = otx (os.take k) ++ otx (os.drop k) := by rw [← otx_app, List.take_append_drop]
  unfold oln; rw [this, List.length_append]; omega
theorem sofar_add (os : List Opt) (k : Nat) (x : ByteArray) (o : Opt) (ho : os[k]? = some o) (hk : ook o = true) (h : Sofar os k x) (hx : x.size ≤ 40) : Sofar os (k + 1) (x ++ ott o) := by
  rcases h with h | ⟨h, _⟩
  · left
    rw [otx_take os k o ho, ← h]
    unfold ott
    rw [if_pos hk]
    simp
  · omega
theorem sofar_stay (os : List Opt) (k : Nat) (x : ByteArray) (h : Sofar os k x) (hx : 40 < x.size) : Sofar os (k + 1) x := by
  right
  refine ⟨hx, ?_⟩
  rcases h with h | ⟨_, h⟩
  · have := sofar_part os k
    rw [← h, size_list] at this
    omega
  · exact h
theorem sofar_end (os : List Opt) (x : ByteArray) (h : Sofar os os.length x) : (40 < x.size ↔ 40 < oln os) ∧ (x.size ≤ 40 → x.data.toList = otx os) := by
  rcases h with h | ⟨h1, h2⟩
  · rw [List.take_length] at h
    have : x.size = oln os := by rw [← size_list, h]; rfl
    exact ⟨by rw [this], fun _ => h⟩
  · exact ⟨by constructor <;> intro _ <;> assumption, fun hh => by omega⟩
end Go.Proofs.YtpcknkpddinccaaDoor.tcf4
