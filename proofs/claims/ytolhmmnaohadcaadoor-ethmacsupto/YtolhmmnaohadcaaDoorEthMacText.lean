/- What eth.Many and custref.MacText answer. -/
import Derived.Test.YtolhmmnaohadcaaDoorEthShow
import Derived.Test.YtolhmmnaohadcaaDoorEthBackMath
import Derived.Test.YtolhmmnaohadcaaDoorShelf
namespace Go.Proofs.YtolhmmnaohadcaaDoor.ethmt
open Go.ChangeShapes Go.WideShapes Go.ChangeAt Go.RowKit
open Go.Proofs.YtolhmmnaohadcaaDoor.EM Go.Proofs.YtolhmmnaohadcaaDoor.EH Go.Proofs.YtolhmmnaohadcaaDoor.ethb Go.Proofs.YtolhmmnaohadcaaDoor.boxes Go.Proofs.YtolhmmnaohadcaaDoor.eths Go.Proofs.YtolhmmnaohadcaaDoor.ethc

/-- the slice v, its row among the blocks from B on, holds the texts l -/
def OwnS (w : World) (B : Nat) (v : Value) (l : List ByteArray) : Prop := w.ownsRow B 9 1 v l.length (l.map Value.string)
theorem strinfo : (Tryd.prog.info? 9).map (fun i => (i.zero, i.size, i.bytes)) = some (some (.string ByteArray.empty), 1, 16) := by kernel_rfl
theorem str_one (l : List ByteArray) : ∀ u ∈ l.map Value.string, u.oneCell' = true := by
  intro u hu
  obtain ⟨b, _, rfl⟩ := List.mem_map.1 hu
  rfl
theorem OwnS.alloc {w : World} {B : Nat} {v : Value} {l : List ByteArray} (h : OwnS w B v l) (o : Obj) : OwnS (w.alloc o) B v l := World.ownsRow.alloc h o
theorem OwnS.drew {w : World} {B : Nat} {v : Value} {l : List ByteArray} (h : OwnS w B v l) : OwnS w.drew B v l := h
/-- one text more, inside a region that draws its order -/
theorem step_appStr {ops : Array Oper} {o : Oper} {a : Act} {w : World} {K : Act → World → Prop} {Q : Exit → Act → World → Prop} {E : Prop}
    (hg : o.guard = none) (s x : Operand) (hop : o.op = Op.call { callee := Callee.builtin Builtin.append, args := #[s, x], argTypes := #[32, 32] })
    (B : Nat) (v : Value) (l : List ByteArray) (hs : a.eval s = v) (hown : OwnS w B v l) (b : Nat) (c : Nat) (new : ByteArray) (hx : a.eval x = .slice (some ⟨b, 0, none⟩) 1 c)
    (hc : w.cell? ⟨b, 0, none⟩ = some (.string new)) (b1 : l.length ≤ 1048576) (b4 : B ≤ w.heap.size)
    (hK : ∀ v' w', OwnS w' B v' (l ++ [new]) → Below B w w' → K (a.put o.dst v') w') :
    if Region.wanted o (yielded ops a.tmps) = true then Oper.wp Tryd.prog o a w K Q else E := by
  obtain ⟨i0, hi, hz0, hz1, hz2⟩ := info_parts strinfo
  have hw : Region.wanted o (yielded ops a.tmps) = true := by simp [Region.wanted, hg]
  rw [if_pos hw]
  obtain ⟨v', w', hrun, h1, h2, _⟩ := run_append_own (P := Tryd.prog) w B 32 o.type 9 i0 (.string ByteArray.empty) 1 16 Tryd.underlying32 hi hz0 hz1 hz2 rfl (by decide) v l.length (l.map Value.string) hown ⟨b, 0, none⟩ 1 c [.string new] (by simp)
    (fun j u hj => by
      match j, hj with
      | 0, hj => simp at hj; subst hj; simpa [Addr.add] using hc) (by intro u hu; simp at hu; subst hu; rfl) (by unfold maxLen; omega) (by omega) b4
  unfold Oper.wp
  simp [execOp, hop, resolve, invoke, builtin, hs, hx, hrun, Result.andThen]
  refine hK v' w' ?_ ?_
  · unfold OwnS
    rw [List.map_append, List.length_append]
    exact h1
  · exact (Below.refl _ _).grown h2 b4 (fun k hk => (hown.lt k hk).1)
theorem OwnS.form {w : World} {B : Nat} {v : Value} {l : List ByteArray} (h : OwnS w B v l) (hl : 0 < l.length) :
    ∃ g cap, v = .slice (some ⟨g, 0, none⟩) l.length cap ∧ g < w.heap.size ∧ l.length ≤ cap ∧ ∀ j x, l[j]? = some x → w.cell? ⟨g, 0 + j, none⟩ = some (.string x) := by
  rcases h.2 with ⟨rfl, hn⟩ | ⟨g, cap, cur, rfl, hB, hg, hnc, _, hcs, htake⟩
  · omega
  · refine ⟨g, cap, rfl, (World.ownsRow.lt h g rfl).2, hnc, fun j x hj => ?_⟩
    have := World.ownsRow.cells h (g := g) rfl j (.string x) (by simp [hj])
    have e : (⟨g, 0, none⟩ : Addr).add j = ⟨g, 0 + j, none⟩ := by unfold Addr.add; split <;> simp_all
    rwa [e] at this

theorem many_any (m0 m1 m2 m3 m4 m5 : UInt8) (w : World) :
    Calls Tryd.prog 6 #[.agg #[.int .u8 (m0.toNat : Int), .int .u8 (m1.toNat : Int), .int .u8 (m2.toNat : Int), .int .u8 (m3.toNat : Int), .int .u8 (m4.toNat : Int), .int .u8 (m5.toNat : Int)]] w fun e w' =>
      e = .returned (.bool ((m0.toNat : Int) % 2 == 1)) ∧ Below w.heap.size w w' := by
  have hb : bits .and .u8 (m0.toNat : Int) 1 = (m0.toNat : Int) % 2 := by
    have := m0.toNat_lt
    rw [u8_and _ _ (by omega) (by omega) (by omega) (by omega)]
    have e : ((m0.toNat : Int).toNat &&& (1 : Int).toNat) = m0.toNat % 2 := by
      rw [Int.toNat_natCast]
      exact nat_mask1 m0.toNat
    rw [e]; omega
  go_enter Tryd.func6, Tryd.ntmps6
  go_wp2
  go_ret
  exact ⟨rfl, (Below.refl _ _).alloc (Nat.le_refl _) _⟩

theorem cut_all : ∀ n : Fin 16, (dgs.extract n.val (n.val + 1)).data.toList = [dig n.val] := by decide +kernel
theorem cut_one (n : Nat) (h : n < 16) : dgs.extract n (n + 1) = ⟨#[dig n]⟩ := bytes_ext (cut_all ⟨n, h⟩)
theorem digit_cut (n : Nat) (h : n < 16) (u : World) : (Instr.slice 9 (.string dgs) (some (.int .u8 (n : Int))) (some (.int .u8 ((n : Int) + 1))) none).run Tryd.prog u = .ok (.string ⟨#[dig n]⟩) u := by
  rw [run_slice_string u 9 dgs .u8 .u8 _ _ Tryd.underlying9 (by omega) (by omega) (by show (n : Int) + 1 ≤ (16 : Nat); omega)]
  have e : ((n : Int) + 1).toNat = n + 1 := by omega
  rw [Int.toNat_natCast, e, cut_one n h]
/-- an address' byte as it is shown -/
def tw (m : UInt8) : ByteArray := ⟨(two m).toArray⟩
theorem tw_cat (m : UInt8) : (⟨#[dig (m.toNat / 16)]⟩ : ByteArray) ++ ⟨#[dig (m.toNat % 16)]⟩ = tw m := bytes_ext (by simp [tw, two])
set_option maxHeartbeats 1000000 in
theorem macText_any (m0 m1 m2 m3 m4 m5 : UInt8) (w : World) :
    Calls Tryd.prog 8 #[.agg #[.int .u8 (m0.toNat : Int), .int .u8 (m1.toNat : Int), .int .u8 (m2.toNat : Int), .int .u8 (m3.toNat : Int), .int .u8 (m4.toNat : Int), .int .u8 (m5.toNat : Int)]] w fun e w' => e = .returned (.string ⟨(shl m0 m1 m2 m3 m4 m5).toArray⟩) ∧ Below w.heap.size w w' := by
  have i0 : ∀ u, (Instr.index 23 (.agg #[.int .u8 (m0.toNat : Int), .int .u8 (m1.toNat : Int), .int .u8 (m2.toNat : Int), .int .u8 (m3.toNat : Int), .int .u8 (m4.toNat : Int), .int .u8 (m5.toNat : Int)]) (.int .i64 0)).run Tryd.prog u = .ok (.int .u8 (m0.toNat : Int)) u := fun _ => by kernel_rfl
  have i1 : ∀ u, (Instr.index 23 (.agg #[.int .u8 (m0.toNat : Int), .int .u8 (m1.toNat : Int), .int .u8 (m2.toNat : Int), .int .u8 (m3.toNat : Int), .int .u8 (m4.toNat : Int), .int .u8 (m5.toNat : Int)]) (.int .i64 1)).run Tryd.prog u = .ok (.int .u8 (m1.toNat : Int)) u := fun _ => by kernel_rfl
  have i2 : ∀ u, (Instr.index 23 (.agg #[.int .u8 (m0.toNat : Int), .int .u8 (m1.toNat : Int), .int .u8 (m2.toNat : Int), .int .u8 (m3.toNat : Int), .int .u8 (m4.toNat : Int), .int .u8 (m5.toNat : Int)]) (.int .i64 2)).run Tryd.prog u = .ok (.int .u8 (m2.toNat : Int)) u := fun _ => by kernel_rfl
  have i3 : ∀ u, (Instr.index 23 (.agg #[.int .u8 (m0.toNat : Int), .int .u8 (m1.toNat : Int), .int .u8 (m2.toNat : Int), .int .u8 (m3.toNat : Int), .int .u8 (m4.toNat : Int), .int .u8 (m5.toNat : Int)]) (.int .i64 3)).run Tryd.prog u = .ok (.int .u8 (m3.toNat : Int)) u := fun _ => by kernel_rfl
  have i4 : ∀ u, (Instr.index 23 (.agg #[.int .u8 (m0.toNat : Int), .int .u8 (m1.toNat : Int), .int .u8 (m2.toNat : Int), .int .u8 (m3.toNat : Int), .int .u8 (m4.toNat : Int), .int .u8 (m5.toNat : Int)]) (.int .i64 4)).run Tryd.prog u = .ok (.int .u8 (m4.toNat : Int)) u := fun _ => by kernel_rfl
  have i5 : ∀ u, (Instr.index 23 (.agg #[.int .u8 (m0.toNat : Int), .int .u8 (m1.toNat : Int), .int .u8 (m2.toNat : Int), .int .u8 (m3.toNat : Int), .int .u8 (m4.toNat : Int), .int .u8 (m5.toNat : Int)]) (.int .i64 5)).run Tryd.prog u = .ok (.int .u8 (m5.toNat : Int)) u := fun _ => by kernel_rfl
  have ix : ∀ (k : Nat), k < 6 → ∀ u, (Instr.index 23 (.agg #[.int .u8 (m0.toNat : Int), .int .u8 (m1.toNat : Int), .int .u8 (m2.toNat : Int), .int .u8 (m3.toNat : Int), .int .u8 (m4.toNat : Int), .int .u8 (m5.toNat : Int)]) (.int .i64 (k : Int))).run Tryd.prog u = .ok (.int .u8 (([m0, m1, m2, m3, m4, m5].getD k 0).toNat : Int)) u := by
    intro k hk u
    have hk6 : k = 0 ∨ k = 1 ∨ k = 2 ∨ k = 3 ∨ k = 4 ∨ k = 5 := by omega
    rcases hk6 with rfl | rfl | rfl | rfl | rfl | rfl
    · exact i0 u
    · exact i1 u
    · exact i2 u
    · exact i3 u
    · exact i4 u
    · exact i5 u
  clear i0 i1 i2 i3 i4 i5
  obtain ⟨l, hl⟩ : ∃ l, l = [m0, m1, m2, m3, m4, m5] := ⟨_, rfl⟩
  rw [← hl] at ix
  have HL : Hid (l = [m0, m1, m2, m3, m4, m5]) := hl
  have H6 : Hid (l.length = 6) := by show _ = _; rw [hl]; rfl
  clear hl
  go_enter Tryd.func8, Tryd.ntmps8
  go_wp2_with fail
  go_loopw [3, 7] (fun b i wr => ∃ k : Nat, k ≤ 6 ∧ i = .int .i64 k ∧ OwnS wr (w.heap.size + 1) b ((l.take k).map tw) ∧ Below w.heap.size w wr ∧ w.heap.size + 1 ≤ wr.heap.size) (fun _ i _ => 6 - (intOf i).toNat)
  case atStart => exact ⟨0, by omega, rfl, World.ownsRow_nil _ _ _ _, (Below.refl _ _).alloc (Nat.le_refl _) _, by simp⟩
  case round =>
    obtain ⟨k, hk, rfl, own, bel, z⟩ := hrel
    by_cases hlt : k < 6
    · have iy := ix k hlt
      obtain ⟨m, hm⟩ : ∃ m, m = l.getD k 0 := ⟨_, rfl⟩
      rw [← hm] at iy
      have HK : Hid ((l.take (k + 1)).map tw = (l.take k).map tw ++ [tw m]) := by
        show _ = _
        have hkl : k < l.length := by rw [H6.out]; exact hlt
        rw [List.take_succ_eq_append_getElem hkl, List.map_append, hm, List.getD_eq_getElem?_getD, List.getElem?_eq_getElem hkl]
        rfl
      have hlen : ((l.take k).map tw).length ≤ 6 := by simp; omega
      obtain ⟨g, hg⟩ : ∃ g, g = (l.take k).map tw := ⟨_, rfl⟩
      rw [← hg] at own hlen HK
      clear ix hm hg
      have m8 := m.toNat_lt
      have x0 : ∀ u, (Instr.slice 9 (.string dgs) (some (.int .u8 ((m.toNat : Int) / 16))) (some (.int .u8 ((m.toNat : Int) / 16 + 1))) none).run Tryd.prog u = .ok (.string ⟨#[dig (m.toNat / 16)]⟩) u := fun u => digit_cut (m.toNat / 16) (by omega) u
      have x1 : ∀ u, (Instr.slice 9 (.string dgs) (some (.int .u8 ((m.toNat : Int) % 16))) (some (.int .u8 ((m.toNat : Int) % 16 + 1))) none).run Tryd.prog u = .ok (.string ⟨#[dig (m.toNat % 16)]⟩) u := fun u => digit_cut (m.toNat % 16) (by omega) u
      have x2 : IntKind.u8.wrap ((m.toNat : Int) / 16 + 1) = (m.toNat : Int) / 16 + 1 := by rw [IntKind.wrap_u8']; omega
      have x3 : IntKind.u8.wrap ((m.toNat : Int) % 16 + 1) = (m.toNat : Int) % 16 + 1 := by rw [IntKind.wrap_u8']; omega
      have x6 : IntKind.u8.wrap ((m.toNat : Int) / 16) = (m.toNat : Int) / 16 := by rw [IntKind.wrap_u8']; omega
      have x7 : (m.toNat : Int).tmod 16 = (m.toNat : Int) % 16 := Int.tmod_eq_emod_of_nonneg (by omega)
      have x8 : (m.toNat : Int) / 16 + 1 ≤ 16 := by omega
      have x9 : (m.toNat : Int) % 16 + 1 ≤ 16 := by omega
      have x4 := tw_cat m
      have x5 : (0 : Int) ≤ m.toNat := by omega
      clear m8
      go_wp2_with fail
      go_region_law (refine step_appStr rfl (.tmp 10) (.tmp 24) rfl (w.heap.size + 1) u3 g (by simp [Act.eval]) (OwnS.drew (own.alloc _)) wr.heap.size 1 (tw m) (by simp [Act.eval]) ((Blk.drew (Blk.new _ _ _)).cell 0) (by omega) (by simp; omega) ?_; intro b1 w1 o1 l1)
      all_goals
        have L1 := (Below.drew (bel.alloc (by omega) _)).trans (l1.mono (by omega))
        have z1 := l1.size
        simp at z1
        clear l1
        go_wp2_with fail
        go_roundw
        case rel => exact ⟨k + 1, by omega, by go_num, by rw [HK.out]; exact o1, L1, by omega⟩
        case measure => simp [intOf]; omega
    · have e : k = 6 := by omega
      rw [e, List.take_of_length_le (by rw [H6.out]; omega), HL.out] at own
      obtain ⟨g, cp, hv, hg1, hg2, hg3⟩ := own.form (by simp)
      simp at hv
      subst hv
      have hj : Lib.join ([m0, m1, m2, m3, m4, m5].map tw |>.map (·.data.toList)) [58] = shl m0 m1 m2 m3 m4 m5 := by
        simp [Lib.join, List.intercalate, tw, shl]
      have J := Tryd.strings_Join g 0 cp ([m0, m1, m2, m3, m4, m5].map tw) ⟨#[58]⟩ wr hg3 hg1 (by simp) hg2 (by show (Lib.join _ [58]).length ≤ _; rw [hj]; simp [shl, two])
      have J' : Hid (Calls Tryd.prog 11 #[.slice (some ⟨g, 0, none⟩) 6 cp, .string ⟨#[58]⟩] wr fun e w' => e = .returned (.string ⟨(shl m0 m1 m2 m3 m4 m5).toArray⟩) ∧ Below wr.heap.size wr w') := by
        show Calls _ _ _ _ _
        rw [← hj]; exact J
      clear J hj hg3 ix own
      go_wp2_with fail
      refine J'.out.mono ?_
      rintro r w2 ⟨rfl, hb⟩
      go_wp2_with fail
      go_ret
      exact ⟨rfl, bel.trans (hb.mono bel.size)⟩
end Go.Proofs.YtolhmmnaohadcaaDoor.ethmt
