/- What custref.FreePorts lists; the library's Index, Contains and IndexFunc of ints. -/
import Derived.Test.YtajhdpkiafaebaaDoorPtBase
import Derived.Test.YtajhdpkiafaebaaDoorPtList
namespace Go.Proofs.YtajhdpkiafaebaaDoor.ptr
open Go.ChangeShapes Go.WideShapes Go.ChangeAt Go.RowKit Go.BigFrame
open Go.Proofs.YtajhdpkiafaebaaDoor Go.Proofs.YtajhdpkiafaebaaDoor.pm Go.Proofs.YtajhdpkiafaebaaDoor.pp Go.Proofs.YtajhdpkiafaebaaDoor.pl Go.Proofs.YtajhdpkiafaebaaDoor.pt Go.Proofs.YtajhdpkiafaebaaDoor.boxes Go.Proofs.YtajhdpkiafaebaaDoor.rwr
open Go.Proofs.YtajhdpkiafaebaaDoor.rws (Knd Own)

theorem tb_mod (t i : Nat) : t.testBit i = decide (t / 2 ^ i % 2 = 1) := Nat.testBit_eq_decide_div_mod_eq
theorem half (t i : Nat) : t / 2 ^ i / 2 = t / 2 ^ (i + 1) := by rw [Nat.div_div_eq_div_mul, Nat.pow_succ]
/-- a row of ints: its cells -/
theorem num_cells {w : World} {sa : Option Addr} {n sc : Nat} {l : List Int} (h : Rd NK w (.slice sa n sc) l) (hn : 0 < l.length) : ∃ b off, sa = some ⟨b, off, none⟩ ∧ b < w.heap.size ∧ ∀ (j : Nat) x, l[j]? = some x → w.cell? ⟨b, off + j, none⟩ = some (.int .i64 x) := by
  obtain ⟨sa', sc', e, _, _, hc⟩ := h
  simp only [Value.slice.injEq] at e
  obtain ⟨rfl, e2, _⟩ := e
  obtain ⟨b, off, rfl, hb, hx⟩ := hc hn
  refine ⟨b, off, rfl, hb, fun j x hj => ?_⟩
  have := hx j x hj 0 (by decide)
  simpa [NK] using this
set_option maxHeartbeats 2000000 in
theorem free_any (b : Int) (t : Nat) (ht : t < 18446744073709551616) (h0 : 64 ≤ b) (h1 : b ≤ 65472) (w : World) :
    Calls Tryd.prog 12 #[.agg (PC b t)] w fun e w' => ∃ v, e = .returned v ∧ Own NK w' w.heap.size v (FL b t 64) ∧ Below w.heap.size w w' := by
  have F0 := Blk.new w (PC b t) 24
  have d0 := (Below.refl w.heap.size w).alloc (Nat.le_refl _) (.cells (PC b t) 24)
  have c0 := F0.cell
  have HLe : Hid (∀ n, (FL b t n).length ≤ n) := fun n => FL_le b t n
  go_enter Tryd.func12, Tryd.ntmps12
  go_wp2_with fail
  go_loopw [3, 4, 8] (fun s3 s4 s8 wr => ∃ (i : Nat) (v3 : Value), s8 = .int .i64 (i : Int) ∧ s3 = v3 ∧ i ≤ 64 ∧ s4 = .int .u64 ((t / 2 ^ i : Nat) : Int) ∧ Own NK wr (w.heap.size + 1) v3 (FL b t i) ∧ Blk wr w.heap.size (PC b t) 24 ∧ Below w.heap.size w wr) (fun _ _ s _ => 64 - (intOf s).toNat)
  case atStart => exact ⟨0, _, rfl, rfl, by omega, by simp, by rw [FL_zero]; exact Own.nil _ _ _, F0, d0⟩
  case round =>
    obtain ⟨i, v3, rfl, rfl, hi, rfl, O, F1, bel⟩ := hrel
    by_cases hlt : i < 64
    · have hlt' : (i : Int) < 64 := by omega
      have hh : ((t / 2 ^ i : Nat) : Int) / 2 = ((t / 2 ^ (i + 1) : Nat) : Int) := by rw [← half]; omega
      obtain ⟨T1, hT1⟩ : ∃ q, q = t / 2 ^ (i + 1) := ⟨_, rfl⟩
      have hT2 : IntKind.u64.wrap (T1 : Int) = (T1 : Int) := by
        rw [IntKind.wrap_u64]
        have := Nat.div_le_self t (2 ^ (i + 1))
        omega
      rw [← hT1] at hh
      have HT1 : Hid (T1 = t / 2 ^ (i + 1)) := hT1
      clear hT1 ht
      have hx := F1.lt
      have c1 := F1.cell
      cases hb : t.testBit i
      · have HF : Hid (FL b t (i + 1) = FL b t i ++ [b + (i : Int)]) := FL_free hb
        rw [tb_mod] at hb
        have hm : ((((t / 2 ^ i : Nat) : Int) % 2) == 0) = true := by
          have := of_decide_eq_false hb
          rw [beq_iff_eq]; omega
        have hl := HLe.out i
        obtain ⟨n, hn⟩ : ∃ n, (FL b t i).length = n := ⟨_, rfl⟩
        obtain ⟨sa, sc, e⟩ := (Own.rd O).form
        rw [hn] at hl e
        subst e
        have hw : IntKind.i64.wrap (b + (i : Int)) = b + (i : Int) := by rw [IntKind.wrap_i64]; omega
        generalize t / 2 ^ i = T0 at *
        generalize FL b t i = gl at *
        have O2 := O.alloc (.cells #[.int .i64 (b + (i : Int))] 3)
        have L2 := Blk.new wr #[.int .i64 (b + (i : Int))] 3
        have b2 := bel.alloc bel.size (.cells #[.int .i64 (b + (i : Int))] 3)
        have F2 := F1.alloc (.cells #[.int .i64 (b + (i : Int))] 3)
        have q1 : gl.length + 1 ≤ maxLen := by unfold maxLen; omega
        have q2 : (gl.length + 1) * NK.by_ ≤ 140737488355328 := by show (gl.length + 1) * 8 ≤ _; omega
        have q3 : w.heap.size + 1 ≤ (wr.alloc (.cells #[.int .i64 (b + (i : Int))] 3)).heap.size := by simp; omega
        have HN : Hid (gl.length = n) := hn
        clear hn hl O hb
        go_wp2_with (at_builtin; refine rws.app_one NK _ rfl _ _ rfl (w.heap.size + 1) _ gl rfl O2 wr.heap.size 1 (b + (i : Int)) 3 rfl L2 q1 q2 q3 ?_; intro v5 w5 o5 l5 _)
        obtain ⟨ga5, gc5, e5⟩ := (Own.rd o5).form
        have F5 := F2.below l5 (by omega)
        have b5 := b2.trans (l5.mono (by omega))
        have HO : Hid (Own NK w5 (w.heap.size + 1) v5 (FL b t (i + 1))) := by rw [HF.out]; exact o5
        clear o5 HF O2 L2 q1 q2 b2 F2 l5
        obtain ⟨k5, hk5⟩ : ∃ q, q = (gl ++ [b + (i : Int)]).length := ⟨_, rfl⟩
        rw [← hk5] at e5
        subst e5
        clear hk5
        go_wp2_with fail
        go_roundw
        case rel => exact ⟨i + 1, _, by go_num, rfl, by omega, by rw [HT1.out], HO.out, F5, b5⟩
        case measure => simp [intOf]; omega
      · have HF : Hid (FL b t (i + 1) = FL b t i) := FL_let hb
        rw [tb_mod] at hb
        have hm : ((((t / 2 ^ i : Nat) : Int) % 2) == 0) = false := by
          have := of_decide_eq_true hb
          rw [beq_eq_false_iff_ne]; omega
        have HO0 := O
        rw [← HF.out] at HO0
        have HO : Hid _ := HO0
        clear HO0
        obtain ⟨sa, sc, e⟩ := (Own.rd O).form
        obtain ⟨n, hn⟩ : ∃ n, (FL b t i).length = n := ⟨_, rfl⟩
        rw [hn] at e
        subst e
        clear hn O HF hb
        generalize t / 2 ^ i = T0 at *
        go_wp2_with fail
        go_roundw
        case rel => exact ⟨i + 1, _, by go_num, rfl, by omega, by rw [HT1.out], HO.out, F1, bel⟩
        case measure => simp [intOf]; omega
    · have hlt' : ¬ (i : Int) < 64 := by omega
      have e : i = 64 := by omega
      have HO0 := O.mono (B' := w.heap.size) (by omega)
      rw [e] at HO0
      have HO : Hid _ := HO0
      clear HO0
      obtain ⟨sa, sc, e2⟩ := (Own.rd O).form
      obtain ⟨n, hn⟩ : ∃ n, (FL b t i).length = n := ⟨_, rfl⟩
      rw [hn] at e2
      subst e2
      clear hn O e
      go_wp2_with fail
      go_ret
      exact ⟨_, rfl, HO.out, bel⟩
set_option maxHeartbeats 1000000 in
theorem index_any (v : Value) (l : List Int) (x : Int) (w : World) (h : Rd NK w v l) (hm : l.length ≤ 1000) :
    Calls Tryd.prog 24 #[v, .int .i64 x] w fun e w' => ∃ k : Int, e = .returned (.int .i64 k) ∧ (0 ≤ k ↔ x ∈ l) ∧ Below w.heap.size w w' := by
  obtain ⟨sa, sc, rfl⟩ := h.form
  have HX : Hid (0 < l.length → ∃ b off, sa = some ⟨b, off, none⟩ ∧ b < w.heap.size ∧ ∀ (j : Nat) x, l[j]? = some x → w.cell? ⟨b, off + j, none⟩ = some (.int .i64 x)) := fun hp => num_cells h hp
  have HG : Hid (∀ i, i < l.length → ∃ x, l[i]? = some x) := fun i hi => ⟨_, List.getElem?_eq_getElem hi⟩
  have HM : Hid (∀ i, l[i]? = some x → x ∈ l) := fun i hi => List.mem_of_getElem? hi
  have HN : Hid ((∀ i, i < l.length → l[i]? ≠ some x) → ¬ x ∈ l) := fun h hx => by
    obtain ⟨i, hi, e⟩ := List.getElem_of_mem hx
    exact h i hi (by rw [List.getElem?_eq_getElem hi, e])
  clear h
  generalize l.length = m at *
  go_enter Tryd.func24, Tryd.ntmps24
  go_wp2_with fail
  go_loopw [8] (fun s8 wr => ∃ i : Nat, s8 = .int .i64 (i : Int) ∧ i ≤ m ∧ Hid (∀ j, j < i → l[j]? ≠ some x) ∧ Below w.heap.size w wr) (fun s _ => m - (intOf s).toNat)
  case atStart => exact ⟨0, rfl, Nat.zero_le _, fun j hj => absurd hj (by omega), Below.refl _ _⟩
  case round =>
    obtain ⟨i, rfl, hi, HJ, bel⟩ := hrel
    by_cases hlt : i < m
    · have hlt' : (i : Int) < (m : Int) := by omega
      obtain ⟨y, hy⟩ := HG.out i hlt
      obtain ⟨b1, o1, rfl, hb1, hx1⟩ := HX.out (by omega)
      have c1 := (bel.cell (p := ⟨b1, o1 + i, none⟩) hb1).trans (hx1 i y hy)
      by_cases e : x = y
      · have HE : Hid (x ∈ l) := HM.out i (by rw [e]; exact hy)
        have hd : (x == y) = true := by simpa using e
        clear HX HG HM HN HJ hx1 hy e
        go_wp2_with fail
        go_ret
        exact ⟨_, rfl, ⟨fun _ => HE.out, fun _ => by omega⟩, bel⟩
      · have HJ2 : Hid (∀ j, j < i + 1 → l[j]? ≠ some x) := fun j hj => by
          by_cases e2 : j = i
          · rw [e2, hy]; exact fun e3 => e (Option.some.inj e3).symm
          · exact HJ.out j (by omega)
        have hd : (x == y) = false := by simpa using e
        clear HX HG HM HN HJ hx1 hy e
        go_wp2_with fail
        go_roundw
        case rel => exact ⟨i + 1, by go_num, by omega, HJ2, bel⟩
        case measure => simp [intOf]; omega
    · have hlt' : ¬ (i : Int) < (m : Int) := by omega
      have HE : Hid (¬ x ∈ l) := HN.out fun j hj => HJ.out j (by omega)
      clear HX HG HM HN HJ
      go_wp2_with fail
      go_ret
      exact ⟨_, rfl, ⟨fun h => absurd h (by decide), fun h => absurd h HE.out⟩, bel⟩
theorem contains_any (v : Value) (l : List Int) (x : Int) (w : World) (h : Rd NK w v l) (hm : l.length ≤ 1000) :
    Calls Tryd.prog 22 #[v, .int .i64 x] w fun e w' => e = .returned (.bool (decide (x ∈ l))) ∧ Below w.heap.size w w' := by
  have C := index_any v l x w h hm
  obtain ⟨sa, sc, rfl⟩ := h.form
  clear h
  generalize l.length = m at *
  go_enter Tryd.func22, Tryd.ntmps22
  go_wp2_with fail
  refine C.mono ?_
  rintro e w1 ⟨k, rfl, hk, b1⟩
  have HK : Hid (0 ≤ k ↔ x ∈ l) := hk
  clear hk C
  go_wp2_with fail
  go_ret
  exact ⟨ret_bool (by rw [Bool.eq_iff_iff, decide_eq_true_eq, decide_eq_true_eq]; exact HK.out), b1⟩
/-- of want's kind -/
def kd (w x : Int) : Bool := x.tmod 2 == w.tmod 2
theorem kind_any (wv x : Int) (B : Nat) (t : TypeId) (w : World) (F : Blk w B #[.int .i64 wv] t) :
    Calls Tryd.prog 21 #[.int .i64 x, .pointer (some ⟨B, 0, none⟩)] w fun e w' => e = .returned (.bool (kd wv x)) ∧ w' = w := by
  have c := F.cell
  unfold kd
  go_enter Tryd.func21, Tryd.ntmps21
  go_wp2_with fail
  go_ret
  exact ⟨rfl, rfl⟩
set_option maxHeartbeats 1000000 in
theorem indexf_any (v : Value) (l : List Int) (wv : Int) (B : Nat) (t : TypeId) (w : World) (h : Rd NK w v l) (hm : l.length ≤ 1000) (F : Blk w B #[.int .i64 wv] t) :
    Calls Tryd.prog 20 #[v, .func (.func 21) #[] #[.pointer (some ⟨B, 0, none⟩)]] w fun e w' => ∃ k : Int, e = .returned (.int .i64 k) ∧ At l (kd wv) k ∧ Below w.heap.size w w' := by
  obtain ⟨sa, sc, rfl⟩ := h.form
  have HX : Hid (0 < l.length → ∃ b off, sa = some ⟨b, off, none⟩ ∧ b < w.heap.size ∧ ∀ (j : Nat) x, l[j]? = some x → w.cell? ⟨b, off + j, none⟩ = some (.int .i64 x)) := fun hp => num_cells h hp
  have HG : Hid (∀ i, i < l.length → ∃ x, l[i]? = some x) := fun i hi => ⟨_, List.getElem?_eq_getElem hi⟩
  have HY : Hid (∀ (i : Nat) y, l[i]? = some y → kd wv y = true → (∀ (j : Nat) x, j < i → l[j]? = some x → kd wv x = false) → At l (kd wv) (i : Int)) := fun i y hy hk hj => ⟨fun h => by omega, fun _ => ⟨i, y, rfl, hy, hk, hj⟩⟩
  have HN : Hid ((∀ (j : Nat) x, j < l.length → l[j]? = some x → kd wv x = false) → At l (kd wv) (-1)) := fun h => ⟨fun _ x hx => by
    obtain ⟨i, hi, e⟩ := List.getElem_of_mem hx
    exact h i x hi (by rw [List.getElem?_eq_getElem hi, e]), fun h => by omega⟩
  have CK := fun x u (hu : Below w.heap.size w u) => kind_any wv x B t u (F.below hu F.lt)
  clear h
  generalize l.length = m at *
  generalize kd wv = p at *
  go_enter Tryd.func20, Tryd.ntmps20
  go_wp2_with fail
  go_loopw [8] (fun s8 wr => ∃ i : Nat, s8 = .int .i64 (i : Int) ∧ i ≤ m ∧ Hid (∀ (j : Nat) x, j < i → l[j]? = some x → p x = false) ∧ Below w.heap.size w wr) (fun s _ => m - (intOf s).toNat)
  case atStart => exact ⟨0, rfl, Nat.zero_le _, fun j _ hj => absurd hj (by omega), Below.refl _ _⟩
  case round =>
    obtain ⟨i, rfl, hi, HJ, bel⟩ := hrel
    by_cases hlt : i < m
    · have hlt' : (i : Int) < (m : Int) := by omega
      obtain ⟨y, hy⟩ := HG.out i hlt
      obtain ⟨b1, o1, rfl, hb1, hx1⟩ := HX.out (by omega)
      have c1 := (bel.cell (p := ⟨b1, o1 + i, none⟩) hb1).trans (hx1 i y hy)
      have CK1 := CK y wr bel
      have HY1 : Hid (p y = true → At l p (i : Int)) := fun h => HY.out i y hy h HJ.out
      have HJ1 : Hid (p y = false → ∀ (j : Nat) x, j < i + 1 → l[j]? = some x → p x = false) := fun h j x hj hx => by
        by_cases e2 : j = i
        · subst e2; rw [hy] at hx; cases hx; exact h
        · exact HJ.out j x (by omega) hx
      clear HX HG HY HN HJ hx1 hy CK
      generalize p y = py at *
      go_wp2_with fail
      refine CK1.mono ?_
      rintro e w1 ⟨rfl, rfl⟩
      cases py
      · go_wp2_with fail
        go_roundw
        case rel => exact ⟨i + 1, by go_num, by omega, fun j x hj hx => HJ1.out (by simp) j x hj hx, bel⟩
        case measure => simp [intOf]; omega
      · go_wp2_with fail
        go_ret
        exact ⟨_, rfl, HY1.out (by simp), bel⟩
    · have hlt' : ¬ (i : Int) < (m : Int) := by omega
      have HE : Hid (At l p (-1)) := HN.out fun j x hj hx => HJ.out j x (by omega) hx
      clear HX HG HY HN HJ CK
      go_wp2_with fail
      go_ret
      exact ⟨_, rfl, HE.out, bel⟩
end Go.Proofs.YtajhdpkiafaebaaDoor.ptr
