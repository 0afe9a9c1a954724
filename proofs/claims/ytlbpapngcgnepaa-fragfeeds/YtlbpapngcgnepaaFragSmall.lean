/- What the small functions of package frag answer: end, rightData, rightPart, follows, nameOfHeap, nameOfPacket, find. -/
import Derived.Test.YtlbpapngcgnepaaJoinA
import Derived.Test.YtlbpapngcgnepaaFragSplit
import Derived.Test.YtlbpapngcgnepaaShelf
import Derived.Laws.StructEq
namespace Go.Proofs.Ytlbpapngcgnepaa.frx
open Go.ChangeShapes Go.WideShapes Go.ChangeAt Go.RowKit Go.BigFrame
open Go.Proofs.Ytlbpapngcgnepaa Go.Proofs.Ytlbpapngcgnepaa.ipb Go.Proofs.Ytlbpapngcgnepaa.boxes Go.Proofs.Ytlbpapngcgnepaa.ipr Go.Proofs.Ytlbpapngcgnepaa.frb Go.Proofs.Ytlbpapngcgnepaa.frs Go.Proofs.Ytlbpapngcgnepaa.frp
open Go.Proofs.Ytlbpapngcgnepaa.rws (Own Knd)

theorem end_any (q : Pt) (w : World) (h0 : 0 ≤ q.a) (h1 : q.a ≤ 1000000) (h2 : q.d.size ≤ 1000000) :
    Calls Try.prog 70 #[.agg q.cells] w fun e w' => e = .returned (.int .i64 q.e) ∧ Below w.heap.size w w' := by
  unfold Pt.e
  go_enter Try.func70, Try.ntmps70
  go_wp2
  go_ret
  exact ⟨rfl, (Below.refl _ _).alloc (Nat.le_refl _) _⟩
theorem ret_b {x y : Bool} (h : x = y) : Ending.returned (.bool x) = .returned (.bool y) := by rw [h]
theorem data_any (d : ByteArray) (la : Bool) (w : World) (h : d.size ≤ 9223372036854775807) :
    Calls Try.prog 25 #[.string d, .bool la] w fun e w' => e = .returned (.bool (dok d la)) ∧ w' = w := by
  unfold dok
  by_cases h0 : d.size = 0
  · have hd : d = ⟨#[]⟩ := ipm.bytes_ext (by
      have : d.data.toList.length = 0 := by simpa using h0
      simpa using List.eq_nil_of_length_eq_zero this)
    subst hd
    go_enter Try.func25, Try.ntmps25
    go_wp2
    go_ret
    exact ⟨rfl, rfl⟩
  · have hd : (d.toList == ([] : List UInt8)) = false := by
      rw [ByteArray.toList_eq]
      cases hl : d.data.toList with
      | nil =>
        have : d.data.toList.length = 0 := by rw [hl]; rfl
        exact absurd (by simpa using this) h0
      | cons x r => rfl
    have hx : ((d.size : Int)).tmod 8 = ((d.size % 8 : Nat) : Int) := by rw [Int.tmod_eq_emod_of_nonneg (by omega)]; omega
    rw [decide_eq_true h0]
    cases la
    · by_cases h8 : d.size % 8 = 0
      · rw [h8] at hx ⊢
        go_enter Try.func25, Try.ntmps25
        go_wp2
        go_ret
        exact ⟨rfl, rfl⟩
      · have hx8 : ¬ ((d.size % 8 : Nat) : Int) = 0 := by omega
        rw [decide_eq_false h8]
        generalize d.size % 8 = m at hx hx8
        go_enter Try.func25, Try.ntmps25
        go_wp2
        go_ret
        exact ⟨ret_b (by simpa using hx8), rfl⟩
    · go_enter Try.func25, Try.ntmps25
      go_wp2
      go_ret
      exact ⟨rfl, rfl⟩
set_option maxHeartbeats 1000000 in
theorem part_any (q : Pt) (w : World) (hd : q.d.size ≤ 9223372036854775807) :
    Calls Try.prog 63 #[.agg q.cells] w fun e w' => e = .returned (.bool q.ok) ∧ Below w.heap.size w w' := by
  have CF := fun u => far_any q.a q.d u hd
  have CD := fun u => data_any q.d q.la u hd
  have b0 := (Below.refl w.heap.size w).alloc (Nat.le_refl _) (.cells q.cells 49)
  unfold Pt.ok Pt.e
  generalize hdk : dok q.d q.la = D at CD
  by_cases h0 : 0 ≤ q.a
  · rw [decide_eq_true h0]
    have hx : q.a.tmod 8 = q.a % 8 := Int.tmod_eq_emod_of_nonneg h0
    by_cases h8 : q.a % 8 = 0
    · rw [decide_eq_true h8]
      rw [h8] at hx
      by_cases hf : 65515 < q.a + q.d.size
      · rw [decide_eq_true hf] at CF
        rw [decide_eq_false (show ¬ q.a + (q.d.size : Int) ≤ 65515 by omega)]
        go_enter Try.func63, Try.ntmps63
        go_wp2_with (go_at_call 20; refine (CF _).mono ?_; rintro r w1 ⟨rfl, rfl⟩)
        go_ret
        exact ⟨rfl, b0⟩
      · rw [decide_eq_false hf] at CF
        rw [decide_eq_true (show q.a + (q.d.size : Int) ≤ 65515 by omega)]
        go_enter Try.func63, Try.ntmps63
        go_wp2_with (first | (go_at_call 20; refine (CF _).mono ?_; rintro r w1 ⟨rfl, rfl⟩) | (go_at_call 25; refine (CD _).mono ?_; rintro r w1 ⟨rfl, rfl⟩))
        go_ret
        exact ⟨rfl, b0⟩
    · rw [decide_eq_false h8]
      have hx8 : ¬ q.a.tmod 8 = 0 := by rw [hx]; exact h8
      clear hx
      go_enter Try.func63, Try.ntmps63
      go_wp2_with fail
      go_ret
      exact ⟨rfl, b0⟩
  · rw [decide_eq_false h0]
    go_enter Try.func63, Try.ntmps63
    go_wp2_with fail
    go_ret
    exact ⟨rfl, b0⟩
set_option maxHeartbeats 1000000 in
theorem foll_any (b q : Pt) (w : World) (h0 : 0 ≤ b.a) (h1 : b.a ≤ 1000000) (h2 : b.d.size ≤ 1000000) :
    Calls Try.prog 64 #[.agg b.cells, .agg q.cells] w fun e w' => e = .returned (.bool (fol b q)) ∧ Below w.heap.size w w' := by
  have CE := fun u => end_any b u h0 h1 h2
  unfold fol
  have A := Blk.new w b.cells 49
  have b0 := (Below.refl w.heap.size w).alloc (Nat.le_refl _) (.cells b.cells 49)
  have A1 := A.alloc (.cells q.cells 49)
  have B1 := Blk.newAt (w.alloc (.cells b.cells 49)) q.cells 49 (b := w.heap.size + 1) (by simp)
  have b1 := b0.alloc b0.size (.cells q.cells 49)
  generalize b.e = E at CE
  go_enter Try.func64, Try.ntmps64
  go_upto_region 1 with fail
  generalize ((w.alloc (.cells b.cells 49)).alloc (.cells q.cells 49)) = V at *
  have nn := ab.ne V
  have ca := ab.cells A1
  have cb := ab.cells B1
  obtain ⟨ba, bd, bl⟩ := b
  obtain ⟨qa, qd, ql⟩ := q
  simp only at *
  cases bl
  · by_cases hle : E ≤ qa
    · have hd : decide (E ≤ qa) = true := decide_eq_true hle
      refine ab.region (by kernel_rfl) (by kernel_rfl) ?_
      repeat (go_big_quiet_step ((go_at_call 70; exact ab.call (CE _))))
      refine wpQuiet_nil ?_
      intro _ hx
      obtain ⟨x, rfl⟩ := hx
      go_wp2_with fail
      go_ret
      refine ⟨ret_b (by simp), b1.trans (Below.mono x.h b1.size)⟩
    · have hd : decide (E ≤ qa) = false := decide_eq_false hle
      refine ab.region (by kernel_rfl) (by kernel_rfl) ?_
      repeat (go_big_quiet_step ((go_at_call 70; exact ab.call (CE _))))
      refine wpQuiet_nil ?_
      intro _ hx
      obtain ⟨x, rfl⟩ := hx
      go_wp2_with fail
      go_ret
      refine ⟨ret_b (by simp), b1.trans (Below.mono x.h b1.size)⟩
  · refine ab.region (by kernel_rfl) (by kernel_rfl) ?_
    repeat (go_big_quiet_step ((go_at_call 70; exact ab.call (CE _))))
    refine wpQuiet_nil ?_
    intro _ hx
    obtain ⟨x, rfl⟩ := hx
    go_wp2_with fail
    go_ret
    refine ⟨ret_b (by simp), b1.trans (Below.mono x.h b1.size)⟩
/-- the four of a heap -/
structure Nm where
  fr : Int
  tt : Int
  pr : Int
  id : Int
abbrev Nm.cells (n : Nm) : Array Value := #[.int .u32 n.fr, .int .u32 n.tt, .int .i64 n.pr, .int .i64 n.id]
def _root_.Go.Proofs.Ytlbpapngcgnepaa.frp.Hd.nm (h : Hd) : Nm := ⟨h.fr, h.to, h.pr, h.id⟩
def pnm (p : Pk) : Nm := ⟨p.fr, p.to, p.pr, p.id⟩
def Nm.eq (a b : Nm) : Bool := a.fr == b.fr && (a.tt == b.tt && (a.pr == b.pr && a.id == b.id))
theorem nm_one (n : Nm) : n.cells.all (·.oneCell') = true := by simp [Value.oneCell']
theorem nameH_any (x : Hv) (w : World) : Calls Try.prog 35 #[.agg x.cells] w fun e w' => e = .returned (.agg x.h.nm.cells) ∧ Below w.heap.size w w' := by
  have b0 := (Below.refl w.heap.size w).alloc (Nat.le_refl _) (.cells x.cells 46)
  go_enter Try.func35, Try.ntmps35
  go_wp2_with fail
  refine blk_ret1 rfl rfl (w.heap.size + 1) _ _ rfl (Blk.newAt _ _ _ (by simp)) _ Try.underlying63 rfl 4 nm_info rfl ?_
  exact ⟨rfl, b0.alloc b0.size _⟩
theorem nameP_any (p : Pk) (w : World) : Calls Try.prog 69 #[.agg p.cells] w fun e w' => e = .returned (.agg (pnm p).cells) ∧ Below w.heap.size w w' := by
  have b0 := (Below.refl w.heap.size w).alloc (Nat.le_refl _) (.cells p.cells 24)
  go_enter Try.func69, Try.ntmps69
  go_wp2_with fail
  refine blk_ret1 rfl rfl (w.heap.size + 1) _ _ rfl (Blk.newAt _ _ _ (by simp)) _ Try.underlying63 rfl 4 nm_info rfl ?_
  exact ⟨rfl, b0.alloc b0.size _⟩
/-- names are compared -/
theorem nm_eql (x y : Nm) (w : World) : (binOp .eql 63 (.agg x.cells) (.agg y.cells)).run Try.prog w = .ok (.bool (x.eq y)) w := by
  have hS : Try.prog.underlying 63 = some (.struct (Try.prog.fieldsOf 63)) := by kernel_rfl
  have hp : Try.prog.stoodInHeld 63 = false := by kernel_rfl
  have u0 := Try.underlying3
  have u2 := Try.underlying22
  have a0 := Try.isAgg3
  have a2 := Try.isAgg22
  have z0 := Try.sizeOf3
  have z2 := Try.sizeOf22
  obtain ⟨a0, a1, a2, a3⟩ := x
  obtain ⟨b0, b1, b2, b3⟩ := y
  simp only [Nm.eq]
  rw [run_eql_struct, show (10000 : Nat) = 9999 + 1 from rfl, run_equalIn_agg w 9999 63 _ _ hS hp]
  simp only [Program.fieldsOf, Try.underlying63]
  go_simp
  repeat' split
  all_goals simp_all
theorem nm_guard (op : BinOp) (a b : Operand) (x y : Nm) (w : World) : (eqGuard op 63 a b (.agg x.cells) (.agg y.cells)).run Try.prog w = .ok () w := run_eqGuard_agg w op 63 a b _ _ (by kernel_rfl)
/-- the closure of find -/
theorem pred (n : Nm) (B : Nat) (w : World) (F : Blk w B n.cells 63) :
    PredBelow Try.prog 62 #[.pointer (some ⟨B, 0, none⟩)] (fun x : Hv => .agg x.cells.toList.toArray) (fun x => x.h.nm.eq n) w := fun W x hb => by
  have F1 := F.below hb F.lt
  have CN := fun u => nameH_any x u
  have E := fun u => nm_eql x.h.nm n u
  have G := fun op a b u => nm_guard op a b x.h.nm n u
  have A := Blk.new W x.cells 46
  have b1 := hb.alloc hb.size (.cells x.cells 46)
  have F2 := F1.alloc (.cells x.cells 46)
  have hB : B < W.heap.size := F1.lt
  show Calls Try.prog 62 #[.agg x.cells, .pointer (some ⟨B, 0, none⟩)] W _
  obtain ⟨r, hr⟩ : ∃ r, Hid (x.h.nm.eq n = r) := ⟨_, rfl⟩
  rw [hr.out] at E
  show Calls Try.prog 62 #[.agg x.cells, .pointer (some ⟨B, 0, none⟩)] W fun e w' => e = .returned (.bool (x.h.nm.eq n)) ∧ _
  rw [hr.out]
  clear hr
  generalize x.h.nm = m at CN E G
  go_enter Try.func62, Try.ntmps62
  go_upto_region 1 with fail
  generalize W.alloc (.cells x.cells 46) = V at *
  have nn := ab.ne V
  have ca := ab.cells A
  have cb := ab.cells F2
  obtain ⟨⟨h0, h1, h2, h3, h4, h5, h6⟩, sa, sn, sc⟩ := x
  obtain ⟨n0, n1, n2, n3⟩ := n
  obtain ⟨m0, m1, m2, m3⟩ := m
  refine ab.region (by kernel_rfl) (by kernel_rfl) ?_
  repeat (go_big_quiet_step ((go_at_call 35; exact ab.call (CN _))))
  refine wpQuiet_nil ?_
  intro _ hx
  obtain ⟨x, rfl⟩ := hx
  go_wp2_with fail
  go_ret
  exact ⟨rfl, b1.trans (Below.mono x.h b1.size)⟩
/-- where the first heap of these four is -/
def fnd (n : Nm) : List Hd → Nat → Int
  | [], _ => -1
  | y :: r, i => if y.nm.eq n = true then (i : Int) else fnd n r (i + 1)
instance : Inhabited Hv := ⟨⟨⟨0, 0, 0, 0, 0, 0, ⟨#[]⟩⟩, none, 0, 0⟩⟩
theorem fnd_idx (n : Nm) (x : Hv) : ∀ (X : List Hv) (i : Nat), Lib.idxByFrom (fun _ y : Hv => y.h.nm.eq n) x X i = fnd n (X.map (·.h)) i
  | [], _ => rfl
  | y :: r, i => by
    show (if y.h.nm.eq n = true then (i : Int) else Lib.idxByFrom _ x r (i + 1)) = if y.h.nm.eq n = true then (i : Int) else fnd n (r.map (·.h)) (i + 1)
    rw [fnd_idx n x r (i + 1)]
theorem idx_none (sa : Option Addr) (sc : Nat) (f : Value) (w : World) : Calls Try.prog 27 #[.slice sa 0 sc, f] w fun e w' => e = .returned (.int .i64 (-1)) ∧ Below w.heap.size w w' := by
  go_enter Try.func27, Try.ntmps27
  go_wp2
  go_loopg [8] 0 (fun g s13 wr => s13 = .int .i64 0 ∧ wr = w)
  case atStart => exact ⟨rfl, rfl⟩
  case round =>
    obtain ⟨rfl, rfl⟩ := hrel
    go_wp2
    go_ret
    exact ⟨rfl, Below.refl _ _⟩
theorem find_any (v : Value) (X : List Hv) (n : Nm) (w : World) (hr : Rd HK w v X) :
    Calls Try.prog 34 #[v, .agg n.cells] w fun e w' => e = .returned (.int .i64 (fnd n (X.map (·.h)) 0)) ∧ Below w.heap.size w w' := by
  have F := Blk.new w n.cells 63
  have b0 := (Below.refl w.heap.size w).alloc (Nat.le_refl _) (.cells n.cells 63)
  have r1 := hr.below b0
  obtain ⟨sa, sc, rfl, hm, hn, hc⟩ := r1
  have CI : Calls Try.prog 27 #[.slice sa X.length sc, .func (.func 62) #[] #[.pointer (some ⟨w.heap.size, 0, none⟩)]] (w.alloc (.cells n.cells 63)) fun e w' => e = .returned (.int .i64 (fnd n (X.map (·.h)) 0)) ∧ Below (w.alloc (.cells n.cells 63)).heap.size (w.alloc (.cells n.cells 63)) w' := by
    by_cases hX : 0 < X.length
    · obtain ⟨b, off, rfl, hlt, hx⟩ := hc hX
      have eg : ∀ args w, (callFunc 62 args).run Try.prog w = .ok (.enter 62 args) w := enters_of Try.func62 (by kernel_rfl) rfl
      refine (AnyQ.slices_IndexFunc Try.idxHp 8 Try.isAgg46 Try.sizeOf46 (fun x : Hv => x.cells.toList) (fun _ => rfl) (fun x => x.h.nm.eq n) 62 #[.pointer (some ⟨w.heap.size, 0, none⟩)] eg b off X.length sc X _ (pred n _ _ F) (Nat.le_refl _) (by unfold maxLen at hm; omega) hlt (rd_cells (K := HK) hx)).mono ?_
      rintro e w' ⟨rfl, hb⟩
      refine ⟨?_, hb⟩
      rw [List.take_length]
      unfold Lib.idxBy
      rw [fnd_idx]
    · have : X = [] := List.eq_nil_of_length_eq_zero (by omega)
      subst this
      exact idx_none sa sc _ _
  clear hc
  generalize fnd n (X.map (·.h)) 0 = r at CI
  go_enter Try.func34, Try.ntmps34
  go_wp2_with fail
  refine CI.mono ?_
  rintro e w' ⟨rfl, hb⟩
  go_wp2_with fail
  go_ret
  exact ⟨rfl, b0.trans (hb.mono b0.size)⟩
end Go.Proofs.Ytlbpapngcgnepaa.frx
