/- What custref.Bytes, Word and Between answer, and that they change nothing that was there. -/
import Derived.Test.YtfaebenhjilkgaaEthBase
import Derived.Test.YtfaebenhjilkgaaBuf
namespace Go.Proofs.Ytfaebenhjilkgaa.refb
open Go.ChangeShapes Go.WideShapes Go.ChangeAt Go.RowKit
open Go.Proofs.Ytfaebenhjilkgaa.EM Go.Proofs.Ytfaebenhjilkgaa.ethb Go.Proofs.Ytfaebenhjilkgaa.buf

/-- a number's lowest byte -/
def b8 (x : Int) : UInt8 := UInt8.ofNat (x % 256).toNat
theorem b8_at (x : Int) : ((b8 x).toNat : Int) = x % 256 := by unfold b8; rw [UInt8.toNat_ofNat']; omega
/-- block b holds the bytes l, and they may be written -/
def Row (w : World) (b : Nat) (l : List UInt8) : Prop :=
  ∀ j (hj : j < l.length), w.cell? ⟨b, j, none⟩ = some (.int .u8 (l[j].toNat : Int)) ∧ w.frozen? ⟨b, j, none⟩ = false
theorem Row.put {w : World} {b : Nat} {l : List UInt8} (h : Row w b l) (i : Nat) (hi : i < l.length) (x : UInt8) :
    Row (w.setCell ⟨b, i, none⟩ (.int .u8 (x.toNat : Int))) b (l.set i x) := by
  intro j hj
  have hj' : j < l.length := by simpa using hj
  refine ⟨?_, by rw [World.frozen?_setCell]; exact (h j hj').2⟩
  by_cases e : j = i
  · subst e
    rw [World.cell?_setCell_same _ _ _ (h j hj').1]
    simp
  · have hne : (⟨b, i, none⟩ : Addr) ≠ ⟨b, j, none⟩ := by
      intro hh; injection hh with _ h2 _; omega
    rw [World.cell?_setCell_other (h := hne), (h j hj').1, List.getElem_set_ne (by omega)]
theorem make_row {ops : Array Oper} {rest : List Oper} {o : Oper} {a : Act} {Q : Exit → Act → World → Prop} (w : World)
    (hg : o.guard = none) (x c : Operand) (hop : o.op = Op.makeSlice 62 x c) (kl kc : IntKind) (L C : Int) (n : Nat)
    (hl : a.eval x = .int kl L) (hc : a.eval c = .int kc C) (hL : L = (n : Int)) (hC : C = (n : Int)) (b2 : n ≤ 140737488355328)
    (hK : ∀ w', Row w' w.heap.size (List.replicate n 0) → Below w.heap.size w w' → w.heap.size < w'.heap.size → wpList Try.prog ops Q rest (a.put o.dst (.slice (some ⟨w.heap.size, 0, none⟩) n n)) w') : wpList Try.prog ops Q (o :: rest) a w := by
  obtain ⟨i0, hi, hz0, hz1, hz2⟩ := info_parts u8info
  refine wpList_make_full w hg x c 62 hop w.heap.size 5 i0 (.int .u8 0) 1 Try.underlying62 hi hz0 hz1 kl kc L C n hl hc hL hC (by rw [hz2]; omega) (by unfold maxLen; omega) (Nat.le_refl _) ?_
  intro w' h1 h2
  rcases h1.2 with ⟨hv, _⟩ | ⟨g, cap, cur, hv, _, hgc, _, _, hcs, htake⟩
  · exact absurd hv (by simp)
  · injection hv with hv1 _ _
    injection hv1 with hv1
    injection hv1 with hv1 _ _
    subst hv1
    refine hK w' ?_ ((Below.refl _ _).grown h2 (Nat.le_refl _) (by simp)) ?_
    · intro j hj
      have hj' : j < n := by simpa using hj
      have hx : cur[j]? = some (.int .u8 0) := by
        have hlen : (madeCells (Value.cells (.int .u8 0)) (n * 1)).toList[j]? = some (.int .u8 0) := by
          simp [madeCells, Value.cells, hj', Nat.mod_one]
        rw [← htake, List.getElem?_take] at hlen
        split at hlen
        · simpa using hlen
        · cases hlen
      refine ⟨?_, ?_⟩
      · simp [World.cell?, hgc, hx]
      · simp [World.frozen?, hgc]
    · by_cases hh : w.heap.size < w'.heap.size
      · exact hh
      · rw [Array.getElem?_eq_none (by omega)] at hgc
        cases hgc

theorem put_step (xs : List Int) (k : Nat) (h : k < xs.length) :
    ((xs.take k).map b8 ++ List.replicate (xs.length - k) 0).set k (b8 (xs.getD k 0)) = (xs.take (k + 1)).map b8 ++ List.replicate (xs.length - (k + 1)) 0 := by
  have e : xs.length - k = (xs.length - (k + 1)) + 1 := by omega
  rw [e, List.replicate_succ, List.take_succ_eq_append_getElem h, List.getD_eq_getElem?_getD, List.getElem?_eq_getElem h]
  have hl : ((xs.take k).map b8).length = k := by simp; omega
  rw [List.set_append_right _ _ (by omega), hl]
  simp only [List.map_append, List.map_cons, List.map_nil, Nat.sub_self, List.set_cons_zero, List.append_assoc, List.cons_append, List.nil_append, Option.getD_some]

set_option maxHeartbeats 400000 in
theorem bytes_any (w : World) (g off cap : Nat) (xs : List Int) (hg : g < w.heap.size) (hn : xs.length ≤ 70368744177664)
    (hc : ∀ j, j < xs.length → w.cell? ⟨g, off + j, none⟩ = some (.int .i64 (xs.getD j 0))) :
    Calls Try.prog 24 #[.slice (some ⟨g, off, none⟩) xs.length cap] w fun e w' => e = .returned (.string ⟨(xs.map b8).toArray⟩) ∧ Below w.heap.size w w' := by
  obtain ⟨n, N⟩ : ∃ n, n = xs.length := ⟨_, rfl⟩
  rw [← N] at hn hc ⊢
  have HN : Hid (n = xs.length) := N
  clear N
  go_enter Try.func24, Try.ntmps24
  go_wp2_with (at_make; refine make_row _ rfl _ _ rfl _ _ _ _ n rfl rfl (by simp) (by simp) (by omega) ?_)
  intro w1 r1 l1 z1
  go_wp2_with fail
  go_loopw [11] (fun i wr => ∃ k : Nat, k ≤ n ∧ i = .int .i64 k ∧ Row wr w.heap.size ((xs.take k).map b8 ++ List.replicate (xs.length - k) 0) ∧ Below w.heap.size w wr ∧ w.heap.size < wr.heap.size) (fun i _ => n - (intOf i).toNat)
  case atStart => exact ⟨0, Nat.zero_le _, rfl, by rw [← HN.out]; simpa using r1, l1, z1⟩
  case round =>
    obtain ⟨k, hk, rfl, row, bel, lt⟩ := hrel
    clear r1 l1 z1
    by_cases hlt : k < n
    · have hN := HN.out
      have src : wr.cell? ⟨g, off + k, none⟩ = some (.int .i64 (xs.getD k 0)) := (bel.cell (p := ⟨g, off + k, none⟩) hg).trans (hc k hlt)
      have hlen : k < ((xs.take k).map b8 ++ List.replicate (xs.length - k) 0).length := by simp; omega
      obtain ⟨dc, df⟩ := row k hlen
      obtain ⟨x, X⟩ : ∃ x, x = xs.getD k 0 := ⟨_, rfl⟩
      obtain ⟨y, Y⟩ : ∃ y : Value, y = .int .u8 ((((xs.take k).map b8 ++ List.replicate (xs.length - k) 0)[k].toNat : Nat) : Int) := ⟨_, rfl⟩
      rw [← X] at src
      rw [← Y] at dc
      have P := row.put k hlen (b8 x)
      rw [b8_at, X, put_step xs k (by omega), ← X] at P
      have HP : Hid (Row (wr.setCell ⟨w.heap.size, k, none⟩ (.int .u8 (x % 256))) w.heap.size ((xs.take (k + 1)).map b8 ++ List.replicate (xs.length - (k + 1)) 0)) := P
      have Hrow : Hid (Row wr w.heap.size ((xs.take k).map b8 ++ List.replicate (xs.length - k) 0)) := row
      clear P row hlen X Y hN
      go_wp2_with fail
      go_roundw
      case rel => exact ⟨k + 1, by omega, by go_num, HP.out, bel.setCell (by simp) _, by simpa using lt⟩
      case measure => simp [intOf]; omega
    · have hN := HN.out
      have e : k = n := by omega
      have hrow : Row wr w.heap.size (xs.map b8) := by
        have r := row
        rw [e, hN, Nat.sub_self, List.take_length] at r
        simpa using r
      have hs : (convert 62 9 (.slice (some ⟨w.heap.size, 0, none⟩) n n)).run Try.prog wr = .ok (.string ⟨(xs.map b8).toArray⟩) wr := by
        have := run_convert_bytes_back (P := Try.prog) wr 62 9 5 ⟨w.heap.size, 0, none⟩ n (xs.map b8) Try.underlying62 Try.underlying5 Try.underlying9
          (fun j hj => by
            have e : (⟨w.heap.size, 0, none⟩ : Addr).add j = ⟨w.heap.size, j, none⟩ := by unfold Addr.add; split <;> simp_all
            rw [e]; exact (hrow j hj).1)
        rw [List.length_map, ← hN] at this; exact this
      clear row hrow hN e
      go_wp2_with fail
      go_ret
      exact ⟨rfl, bel⟩

theorem word_ref (n : Int) (w : World) (h0 : 0 ≤ n) (h1 : n ≤ 65535) :
    Calls Try.prog 23 #[.int .i64 n] w fun e w' => e = .returned (.string ⟨#[hi8 n, lo8 n]⟩) ∧ Below w.heap.size w w' := by
  have e0 : b8 (n / 256) = hi8 n := by unfold b8 hi8; congr 2; omega
  have e1 : b8 (n % 256) = lo8 n := by unfold b8 lo8; congr 2; omega
  have HE : Hid ([n / 256, n % 256].map b8 = [hi8 n, lo8 n]) := by show _ = _; simp [e0, e1]
  clear e0 e1
  go_enter Try.func23, Try.ntmps23
  go_wp2_with fail
  refine (bytes_any _ w.heap.size 0 2 [n / 256, n % 256] (by simp) (by simp) ?_).mono ?_
  · intro j hj
    match j, hj with
    | 0, _ | 1, _ => simp
  rintro e w1 ⟨rfl, hb⟩
  rw [HE.out]
  go_wp2_with fail
  go_ret
  exact ⟨rfl, ((Below.refl _ _).alloc (Nat.le_refl _) _).trans (hb.mono (by simp))⟩

theorem between_any (x a b : Int) (w : World) :
    Calls Try.prog 21 #[.int .i64 x, .int .i64 a, .int .i64 b] w fun e w' => e = .returned (.bool (decide (a ≤ x ∧ x ≤ b))) ∧ w' = w := by
  go_enter Try.func21, Try.ntmps21
  go_wp2
  all_goals go_ret
  all_goals exact ⟨by first | (simp_all; done) | (simp_all; omega), rfl⟩
end Go.Proofs.Ytfaebenhjilkgaa.refb
