/- SumWalk, Buf, BufMore, IpIn, joined. -/
import Derived.Test.YtlbpapngcgnepaaRows
import Derived.Test.YtlbpapngcgnepaaJoinA
import Derived.WalkKit
import Derived.ProofKit
import Derived.OpenShut
import Derived.ShutString
import Derived.WalkSpells
import Derived.WalkLawsBesides
import Derived.Deep.QuietTactic
import Derived.BigQuiet
import Derived.OwnWalk
import Derived.Below
import Derived.Lib.AppendStr
import Derived.Laws.IdiomStrings
import Derived.Laws.BytesArg
import Derived.Deep.Draws
import Derived.Deep.RegionLaw
/- What package sum's functions answer, and that they change nothing: contracts of Add, Of, Right, Fix and what they call. -/
namespace Go.Proofs.Ytlbpapngcgnepaa.sumw
open Go.ChangeShapes Go.WideShapes Go.ChangeAt Go.RowKit
open Go.Proofs.Ytlbpapngcgnepaa.SM

theorem ret_int {k : IntKind} {a b : Int} (h : a = b) : Ending.returned (.int k a) = .returned (.int k b) := by rw [h]

theorem less_any (a : Int) (w : World) (h0 : 0 ≤ a) (h1 : a ≤ 65535) :
    Calls Try.prog 66 #[.int .u16 a] w fun e w' => e = .returned (.int .u16 (65535 - a)) ∧ w' = w := by
  go_enter Try.func66, Try.ntmps66
  go_wp2
  go_ret
  exact ⟨rfl, rfl⟩
theorem word_any (a b : Int) (w : World) (h0 : 0 ≤ a) (h1 : a ≤ 255) (h2 : 0 ≤ b) (h3 : b ≤ 255) :
    Calls Try.prog 85 #[.int .u8 a, .int .u8 b] w fun e w' => e = .returned (.int .u16 (256 * a + b)) ∧ w' = w := by
  go_enter Try.func85, Try.ntmps85
  go_wp2
  go_ret
  exact ⟨ret_int (word_or a b h0 h1 h2 h3), rfl⟩
theorem plus_any (a b : Int) (w : World) (h0 : 0 ≤ a) (h1 : a ≤ 65535) (h2 : 0 ≤ b) (h3 : b ≤ 65535) :
    Calls Try.prog 84 #[.int .u16 a, .int .u16 b] w fun e w' => e = .returned (.int .u16 (ea a b)) ∧ w' = w := by
  go_enter Try.func84, Try.ntmps84
  go_wp2
  · go_ret
    exact ⟨ret_int (by unfold ea; rw [if_pos (by omega)]), rfl⟩
  · go_ret
    exact ⟨ret_int (by unfold ea; rw [if_neg (by omega)]), rfl⟩

/-- the world has at most drawn -/
def Qd (w w' : World) : Prop := ∃ m, w' = w.drewN m
theorem Qd.refl (w : World) : Qd w w := ⟨0, rfl⟩
theorem Qd.drewN {w w' : World} (h : Qd w w') (n : Nat) : Qd w (w'.drewN n) := by
  obtain ⟨m, rfl⟩ := h; exact ⟨m + n, by rw [World.drewN_drewN]⟩
theorem Qd.trans {w w' w'' : World} (h : Qd w w') (h' : Qd w' w'') : Qd w w'' := by
  obtain ⟨m, rfl⟩ := h'; exact h.drewN m
theorem Qd.quiet {P : Program} {f : FuncId} {args : Array Value} {w : World} {n : Nat} {v : Value}
    (h : Calls P f args (w.drewN n) fun e w' => e = .returned v ∧ Qd (w.drewN n) w') : Calls P f args (w.drewN n) fun e w'' => e = .returned v ∧ ∃ m, w'' = w.drewN m :=
  Calls.quiet_of h

theorem word_byte (x y : UInt8) (w : World) :
    Calls Try.prog 85 #[.int .u8 (x.toNat : Int), .int .u8 (y.toNat : Int)] w fun e w' => e = .returned (.int .u16 (256 * (x.toNat : Int) + (y.toNat : Int))) ∧ w' = w :=
  word_any _ _ w (byte_bd x).1 (byte_bd x).2 (byte_bd y).1 (byte_bd y).2

set_option maxHeartbeats 400000 in
theorem add_any (n : Int) (s : ByteArray) (w : World) (h0 : 0 ≤ n) (h1 : n ≤ 65535) (hs : s.size ≤ 281474976710656) :
    Calls Try.prog 67 #[.int .u16 n, .string s] w fun e w' => e = .returned (.int .u16 (wsum n s.data.toList)) ∧ Qd w w' := by
  have hl : s.data.toList.length = s.size := by simp
  go_enter Try.func67, Try.ntmps67
  go_wp2_with fail
  go_loopw [0, 6] (fun a i w' => ∃ (k : Nat) (c : Int), k ≤ s.size ∧ k % 2 = 0 ∧ i = .int .i64 k ∧ a = .int .u16 c ∧ 0 ≤ c ∧ c ≤ 65535 ∧ Hid (wsum c (s.data.toList.drop k) = wsum n s.data.toList) ∧ Qd w w') (fun _ i _ => s.size - (intOf i).toNat)
  case atStart => exact ⟨0, n, Nat.zero_le _, rfl, rfl, rfl, h0, h1, (rfl : _ = _), Qd.refl _⟩
  case round =>
    obtain ⟨k, c, hk, hk2, rfl, rfl, hc0, hc1, hw, hq⟩ := hrel
    by_cases hlt : k + 1 < s.size
    · have hlt' : (k : Int) < (s.size : Int) - (s.size : Int) % 2 := by omega
      have hk1 : (k : Int) + 1 < s.size := by omega
      have hkk : (k : Int) < s.size := by omega
      have hk0 : (0 : Int) ≤ (k : Int) + 1 := by omega
      go_wp2_with fail
      go_quiet ((first | (go_at_call 85; exact Calls.quiet_of_same (word_byte _ _ _)) | (go_at_call 84; exact Calls.quiet_of_same (plus_any _ _ _ hc0 hc1 (by have := byte_bd s[k]; have := byte_bd s[k+1]; omega) (by have := byte_bd s[k]; have := byte_bd s[k+1]; omega)))))
      go_wp2_with fail
      go_roundw
      case rel =>
        have hb := byte_bd s[k]
        have hb' := byte_bd s[k + 1]
        have hbd := ea_bd c (256 * (s[k].toNat : Int) + (s[k + 1].toNat : Int)) hc0 hc1 (by omega) (by omega)
        refine ⟨k + 2, _, by omega, by omega, by go_num, rfl, hbd.1, hbd.2, ?_, hq.drewN _⟩
        have hst := wsum_step c s.data.toList k (by omega)
        exact (hst.symm.trans hw.out : _ = _)
      case measure => simp [intOf]; omega
    · have hge : ¬ (k : Int) < (s.size : Int) - (s.size : Int) % 2 := by omega
      by_cases hodd : k = s.size
      · have hno : ¬ (s.size : Int) - (s.size : Int) % 2 < (s.size : Int) := by omega
        go_wp2_with fail
        go_ret
        refine ⟨ret_int ?_, hq⟩
        have := hw.out
        rw [wsum_end c _ k (by omega)] at this
        exact this
      · have hyes : (s.size : Int) - (s.size : Int) % 2 < (s.size : Int) := by omega
        have hk1 : k < s.size := by omega
        have hix : ∀ u, (Instr.index 9 (.string s) (.int .i64 ((s.size : Int) - (s.size : Int) % 2))).run Try.prog u = .ok (.int .u8 (s[k].toNat : Int)) u := fun u => by
          rw [run_index_string u 9 s .i64 _ Try.underlying9, dif_pos ⟨by omega, by omega⟩]
          have e : ((s.size : Int) - (s.size : Int) % 2).toNat = k := by omega
          simp only [e]
        go_wp2_with fail
        refine (word_any _ _ _ (byte_bd _).1 (byte_bd _).2 (by omega) (by omega)).mono ?_
        rintro e w' ⟨rfl, rfl⟩
        go_wp2_with fail
        refine (plus_any _ _ _ hc0 hc1 (by have := byte_bd s[k]; omega) (by have := byte_bd s[k]; omega)).mono ?_
        rintro e w' ⟨rfl, rfl⟩
        go_wp2_with fail
        go_ret
        refine ⟨ret_int ?_, hq⟩
        have := hw.out
        rw [wsum_last c _ k (by omega) (by omega)] at this
        rw [← this]; rfl

theorem of_any (s : ByteArray) (w : World) (hs : s.size ≤ 281474976710656) :
    Calls Try.prog 48 #[.string s] w fun e w' => e = .returned (.int .u16 (65535 - wsum 0 s.data.toList)) ∧ Qd w w' := by
  have hb := wsum_bd 0 s.data.toList (by omega) (by omega)
  go_enter Try.func48, Try.ntmps48
  go_wp2_with fail
  refine (add_any 0 s _ (by omega) (by omega) hs).mono ?_
  rintro e w' ⟨rfl, hq⟩
  go_wp2_with fail
  refine (less_any _ _ hb.1 hb.2).mono ?_
  rintro e w'' ⟨rfl, rfl⟩
  go_wp2_with fail
  go_ret
  exact ⟨rfl, hq⟩
end Go.Proofs.Ytlbpapngcgnepaa.sumw
/- A row of bytes that the call itself has made: what make, append and the conversion to a string do with it. -/
namespace Go.Proofs.Ytlbpapngcgnepaa.buf
open Go.ChangeShapes Go.WideShapes Go.ChangeAt Go.RowKit

/-- bytes as cells -/
def bc (l : List UInt8) : List Value := l.map fun b => Value.int .u8 b.toNat
theorem bc_length (l : List UInt8) : (bc l).length = l.length := by simp [bc]
theorem bc_append (a b : List UInt8) : bc (a ++ b) = bc a ++ bc b := by simp [bc]
theorem bc_one (l : List UInt8) : ∀ u ∈ bc l, u.oneCell' = true := by
  intro u hu
  obtain ⟨b, _, rfl⟩ := List.mem_map.1 hu
  rfl
/-- the slice v, its row among the blocks from B on, holds the bytes l -/
def Own (w : World) (B : Nat) (v : Value) (l : List UInt8) : Prop := w.ownsRow B 5 1 v l.length (bc l)
theorem u8info : (Try.prog.info? 5).map (fun i => (i.zero, i.size, i.bytes)) = some (some (.int .u8 0), 1, 1) := by kernel_rfl

theorem Own.alloc {w : World} {B : Nat} {v : Value} {l : List UInt8} (h : Own w B v l) (o : Obj) : Own (w.alloc o) B v l := World.ownsRow.alloc h o
theorem Own.drewN {w : World} {B : Nat} {v : Value} {l : List UInt8} (h : Own w B v l) (n : Nat) : Own (w.drewN n) B v l := h
theorem Own.kept {w w' : World} {B : Nat} {v : Value} {l : List UInt8} (h : Own w B v l) (hb : Below w.heap.size w w') : Own w' B v l :=
  World.ownsRow.kept (row := none) h ⟨hb.os, hb.tape, hb.output, hb.size, fun k hk _ => hb.block k hk⟩ (by cases hv : v.ownBlock <;> simp)
theorem Own.nil (w : World) (B : Nat) : Own w B (.slice none 0 0) [] := World.ownsRow_nil w B _ _

theorem make_own {ops : Array Oper} {rest : List Oper} {o : Oper} {a : Act} {Q : Exit → Act → World → Prop} (w : World)
    (hg : o.guard = none) (x c : Operand) (hop : o.op = Op.makeSlice 71 x c) (B : Nat) (kl kc : IntKind) (C : Int) (n : Nat)
    (hl : a.eval x = .int kl 0) (hc : a.eval c = .int kc C) (hC : C = (n : Int)) (b2 : n ≤ 140737488355328) (b4 : B ≤ w.heap.size)
    (hK : ∀ v w', Own w' B v [] → Below B w w' → wpList Try.prog ops Q rest (a.put o.dst v) w') : wpList Try.prog ops Q (o :: rest) a w := by
  obtain ⟨i0, hi, hz0, hz1, hz2⟩ := info_parts u8info
  refine wpList_make_own w hg x c 71 hop B 5 i0 (.int .u8 0) 1 Try.underlying71 hi hz0 hz1 kl kc C n hl hc hC (by rw [hz2]; omega) (by unfold maxLen; omega) b4 ?_
  intro w' h1 h2
  exact hK _ w' h1 ((Below.refl _ _).grown h2 b4 (by simp))

theorem app_own {ops : Array Oper} {rest : List Oper} {o : Oper} {a : Act} {Q : Exit → Act → World → Prop} (w : World)
    (hg : o.guard = none) (s x : Operand) (hop : o.op = Op.call { callee := Callee.builtin Builtin.append, args := #[s, x], argTypes := #[71, 71] })
    (B : Nat) (v : Value) (l : List UInt8) (hs : a.eval s = v) (hown : Own w B v l) (ad : Addr) (m c : Nat) (news : List UInt8) (hx : a.eval x = .slice (some ad) m c) (hm : news.length = m)
    (hc : ∀ j, j < news.length → w.cell? (ad.add j) = some (.int .u8 ((news.getD j 0).toNat : Int))) (b1 : l.length + m ≤ 140737488355328) (b4 : B ≤ w.heap.size)
    (hK : ∀ v' w', Own w' B v' (l ++ news) → Below B w w' → wpList Try.prog ops Q rest (a.put o.dst v') w') : wpList Try.prog ops Q (o :: rest) a w := by
  obtain ⟨i0, hi, hz0, hz1, hz2⟩ := info_parts u8info
  refine wpList_append_own w hg s x 71 hop B 5 i0 (.int .u8 0) 1 1 Try.underlying71 hi hz0 hz1 hz2 rfl (by decide) v l.length (bc l) hs hown ad m c (bc news) hx (by rw [bc_length, hm]; omega)
    (fun j u hj => ?_) (bc_one news) (by unfold maxLen; omega) (by omega) b4 ?_
  · have hj' : j < news.length := by
      have := (List.getElem?_eq_some_iff.1 hj).1
      rwa [bc_length] at this
    rw [hc j hj', ← hj, bc, List.getElem?_map, List.getElem?_eq_getElem hj', List.getD_eq_getElem?_getD, List.getElem?_eq_getElem hj']
    rfl
  · intro v' w' h1 h2 _
    refine hK v' w' ?_ ?_
    · unfold Own
      rw [bc_append, List.length_append, hm]
      exact h1
    · exact (Below.refl _ _).grown h2 b4 (fun k hk => (hown.lt k hk).1)

theorem appS_own {ops : Array Oper} {rest : List Oper} {o : Oper} {a : Act} {Q : Exit → Act → World → Prop} (w : World)
    (hg : o.guard = none) (s x : Operand) (hop : o.op = Op.call { callee := Callee.builtin Builtin.append, args := #[s, x], argTypes := #[71, 9] })
    (B : Nat) (v : Value) (l : List UInt8) (hs : a.eval s = v) (hown : Own w B v l) (d : ByteArray) (hx : a.eval x = .string d) (b1 : l.length + d.size ≤ 140737488355328) (b4 : B ≤ w.heap.size)
    (hK : ∀ v' w', Own w' B v' (l ++ d.data.toList) → Below B w w' → wpList Try.prog ops Q rest (a.put o.dst v') w') : wpList Try.prog ops Q (o :: rest) a w := by
  obtain ⟨i0, hi, hz0, hz1, hz2⟩ := info_parts u8info
  refine Lib.wpList_append_own_string w hg s x 71 9 hop B 5 i0 Try.underlying71 Try.underlying9 hi hz0 hz1 hz2 v l.length (bc l) hs hown d hx (by unfold maxLen; omega) b1 b4 ?_
  intro v' w' h1 h2 _
  refine hK v' w' ?_ ?_
  · unfold Own
    rw [bc_append, List.length_append]
    have e : d.data.toList.length = d.size := by simp
    rw [e]
    exact h1
  · exact (Below.refl _ _).grown h2 b4 (fun k hk => (hown.lt k hk).1)

theorem str_own {w : World} {B : Nat} {v : Value} {l : List UInt8} (h : Own w B v l) : (convert 71 9 v).run Try.prog w = .ok (.string ⟨l.toArray⟩) w := by
  rcases h.2 with ⟨rfl, hn⟩ | ⟨g, cap, cur, rfl, _, hg, hnc, _, hcs, htake⟩
  · have hl : l = [] := List.eq_nil_of_length_eq_zero hn
    subst hl
    exact run_convert_bytes_nil w 71 5 Try.underlying71 Try.underlying5 0 0 9 Try.underlying9
  · refine run_convert_bytes_back (P := Try.prog) w 71 9 5 ⟨g, 0, none⟩ cap l Try.underlying71 Try.underlying5 Try.underlying9 (fun j hj => ?_)
    have := World.ownsRow.cells h (g := g) rfl j (.int .u8 (l[j].toNat : Int)) (by simp [bc, List.getElem?_eq_getElem hj])
    exact this
end Go.Proofs.Ytlbpapngcgnepaa.buf
/- Rows of bytes that the call itself has made: append inside a region that draws its order; the row's form. -/
namespace Go.Proofs.Ytlbpapngcgnepaa.buf
open Go.ChangeShapes Go.WideShapes Go.ChangeAt Go.RowKit

/-- the same as a step of a region that draws its order -/
theorem step_app {ops : Array Oper} {o : Oper} {a : Act} {w : World} {K : Act → World → Prop} {Q : Exit → Act → World → Prop} {E : Prop}
    (hg : o.guard = none) (s x : Operand) (hop : o.op = Op.call { callee := Callee.builtin Builtin.append, args := #[s, x], argTypes := #[71, 71] })
    (B : Nat) (v : Value) (l : List UInt8) (hs : a.eval s = v) (hown : Own w B v l) (ad : Addr) (m c : Nat) (news : List UInt8) (hx : a.eval x = .slice (some ad) m c) (hm : news.length = m)
    (hc : ∀ j, j < news.length → w.cell? (ad.add j) = some (.int .u8 ((news.getD j 0).toNat : Int))) (b1 : l.length + m ≤ 140737488355328) (b4 : B ≤ w.heap.size)
    (hK : ∀ v' w', Own w' B v' (l ++ news) → Below B w w' → K (a.put o.dst v') w') :
    if Region.wanted o (yielded ops a.tmps) = true then Oper.wp Try.prog o a w K Q else E := by
  obtain ⟨i0, hi, hz0, hz1, hz2⟩ := info_parts u8info
  have hw : Region.wanted o (yielded ops a.tmps) = true := by simp [Region.wanted, hg]
  rw [if_pos hw]
  obtain ⟨v', w', hrun, h1, h2, _⟩ := run_append_own (P := Try.prog) w B 71 o.type 5 i0 (.int .u8 0) 1 1 Try.underlying71 hi hz0 hz1 hz2 rfl (by decide) v l.length (bc l) hown ad m c (bc news) (by rw [bc_length, hm]; omega)
    (fun j u hj => by
      have hj' : j < news.length := by
        have := (List.getElem?_eq_some_iff.1 hj).1
        rwa [bc_length] at this
      rw [hc j hj', ← hj, bc, List.getElem?_map, List.getElem?_eq_getElem hj', List.getD_eq_getElem?_getD, List.getElem?_eq_getElem hj']
      rfl) (bc_one news) (by unfold maxLen; omega) (by omega) b4
  unfold Oper.wp
  simp [execOp, hop, resolve, invoke, builtin, hs, hx, hrun, Result.andThen]
  refine hK v' w' ?_ ?_
  · unfold Own
    rw [bc_append, List.length_append, hm]
    exact h1
  · exact (Below.refl _ _).grown h2 b4 (fun k hk => (hown.lt k hk).1)
theorem Own.form {w : World} {B : Nat} {v : Value} {l : List UInt8} (h : Own w B v l) (hl : 0 < l.length) :
    ∃ g cap, v = .slice (some ⟨g, 0, none⟩) l.length cap ∧ B ≤ g ∧ g < w.heap.size ∧ ∀ j, j < l.length → w.cell? ⟨g, j, none⟩ = some (.int .u8 ((l.getD j 0).toNat : Int)) := by
  rcases h.2 with ⟨rfl, hn⟩ | ⟨g, cap, cur, rfl, hB, hg, hnc, _, hcs, htake⟩
  · omega
  · refine ⟨g, cap, rfl, hB, ?_, fun j hj => ?_⟩
    · exact (World.ownsRow.lt h g rfl).2
    · have := World.ownsRow.cells h (g := g) rfl j (.int .u8 ((l.getD j 0).toNat : Int)) (by simp [bc, List.getD_eq_getElem?_getD, List.getElem?_eq_getElem hj])
      have e : (⟨g, 0, none⟩ : Addr).add j = ⟨g, j, none⟩ := by unfold Addr.add; split <;> simp_all
      rwa [e] at this
theorem Own.drew {w : World} {B : Nat} {v : Value} {l : List UInt8} (h : Own w B v l) : Own w.drew B v l := h
/-- '[]byte{}' -/
theorem Own.empty (w : World) (B : Nat) (h : B ≤ w.heap.size) : Own (w.alloc (.cells #[] 5)) B (.slice (some ⟨w.heap.size, 0, none⟩) 0 0) [] :=
  World.ownsRow_made w #[] 0 h (by unfold maxLen; omega) rfl

end Go.Proofs.Ytlbpapngcgnepaa.buf
/- What package ip's inner functions answer, and that they change nothing that was there. -/
namespace Go.Proofs.Ytlbpapngcgnepaa.ipi
open Go.ChangeShapes Go.WideShapes Go.ChangeAt Go.RowKit
open Go.Proofs.Ytlbpapngcgnepaa.EM Go.Proofs.Ytlbpapngcgnepaa.ethb Go.Proofs.Ytlbpapngcgnepaa.SM Go.Proofs.Ytlbpapngcgnepaa.ipb Go.Proofs.Ytlbpapngcgnepaa.buf Go.Proofs.Ytlbpapngcgnepaa.boxes
open Go.Proofs.Ytlbpapngcgnepaa.sumw (Qd Qd.refl Qd.drewN Qd.trans)

theorem and_bit (n i : Nat) : n &&& 2 ^ i = 2 ^ i * (n / 2 ^ i % 2) := by
  apply Nat.eq_of_testBit_eq
  intro j
  rw [Nat.testBit_and, Nat.testBit_two_pow]
  by_cases h : i = j
  · subst h
    rw [Nat.testBit_two_pow_mul]
    simp [Nat.testBit_eq_decide_div_mod_eq]
  · have h0 : n / 2 ^ i % 2 = 0 ∨ n / 2 ^ i % 2 = 1 := by omega
    rcases h0 with h0 | h0
    · simp [h0, h]
    · rw [h0, Nat.mul_one, Nat.testBit_two_pow]
      simp [h]
theorem and_bit16 (x : Int) (i : Nat) (hi : i < 16) (m : Int) (hm : m = (2 ^ i : Nat)) (h0 : 0 ≤ x) (h1 : x ≤ 65535) : bits .and .u16 x m = m * (x / m % 2) := by
  subst hm
  have hp : (2 : Nat) ^ i ≤ 2 ^ 15 := Nat.pow_le_pow_right (by omega) (by omega)
  obtain ⟨n, rfl⟩ := Int.eq_ofNat_of_zero_le h0
  rw [u16_and_nat _ _ (by omega) (by omega), and_bit]
  simp
theorem and_low (x : Int) (h0 : 0 ≤ x) (h1 : x ≤ 65535) : bits .and .u16 x 8191 = x % 8192 := by
  obtain ⟨n, rfl⟩ := Int.eq_ofNat_of_zero_le h0
  have e := u16_and_nat n 8191 (by omega) (by omega)
  rw [show ((8191 : Nat) : Int) = 8191 from rfl] at e
  rw [e, show (8191 : Nat) = 2 ^ 13 - 1 from rfl, Nat.and_two_pow_sub_one_eq_mod]
  omega
theorem and_four (x : Int) (h0 : 0 ≤ x) (h1 : x ≤ 255) : bits .and .u8 x 15 = x % 16 := by
  obtain ⟨n, rfl⟩ := Int.eq_ofNat_of_zero_le h0
  have e := u8_and_nat n 15 (by omega) (by omega)
  rw [show ((15 : Nat) : Int) = 15 from rfl] at e
  rw [e, show (15 : Nat) = 2 ^ 4 - 1 from rfl, Nat.and_two_pow_sub_one_eq_mod]
  omega
theorem adr_or (a b : Int) (h0 : 0 ≤ a) (h1 : a ≤ 65535) (h2 : 0 ≤ b) (h3 : b ≤ 65535) : bits .or .u32 (a * 65536) b = 65536 * a + b := by
  rw [u32_or _ _ (by omega) (by omega) h2 (by omega), nat_join 16 _ _ (by omega) (by omega)]
  omega

theorem within_any (n m : Int) (w : World) :
    Calls Try.prog 65 #[.int .i64 n, .int .i64 m] w fun e w' => e = .returned (.bool (decide (0 ≤ n ∧ n ≤ m))) ∧ w' = w := by
  go_enter Try.func65, Try.ntmps65
  go_wp2
  all_goals go_ret
  all_goals exact ⟨by first | (simp_all; done) | (simp_all; omega), rfl⟩
theorem long_any (p : Pk) (w : World) (h : 20 + p.o.size + p.d.size ≤ 9223372036854775807) :
    Calls Try.prog 43 #[.agg p.cells] w fun e w' => e = .returned (.int .i64 (20 + p.o.size + p.d.size : Nat)) ∧ w' = w.alloc (.cells p.cells 24) := by
  go_enter Try.func43, Try.ntmps43
  go_wp2_with fail
  go_ret
  exact ⟨ret_int (by omega), rfl⟩
theorem index_at (s : ByteArray) (k : Nat) (h : k < s.size) (u : World) : (Instr.index 9 (.string s) (.int .i64 (k : Int))).run Try.prog u = .ok (.int .u8 (bt s k)) u := by
  rw [run_index_string u 9 s .i64 _ Try.underlying9, dif_pos ⟨by omega, by omega⟩]
  simp only [Int.toNat_natCast, bt_at s k h]
theorem piece_any (p : Pk) (w : World) (h : p.Ok) :
    Calls Try.prog 45 #[.agg p.cells] w fun e w' => e = .returned (.int .u16 p.fl) ∧ w' = w.alloc (.cells p.cells 24) := by
  have s0 := h.st0
  have s1 := h.st1
  have o1 : Hid (bits .or .u16 p.st 8192 = p.st + 8192) := by
    show _ = _
    rw [u16_or _ _ s0 (by omega) (by omega) (by omega), Nat.or_comm, nat_join 13 _ _ (by decide) (by omega)]; omega
  have form := h.form
  have E : Hid (p.fl = p.st + (if p.wh = true then 16384 else 0) + (if p.mo = true then 8192 else 0)) := (rfl : _ = _)
  obtain ⟨f, hf⟩ : ∃ f, f = p.fl := ⟨_, rfl⟩
  rw [← hf] at E ⊢
  clear h hf
  obtain ⟨tos, id, wh, mo, st, li, pr, fr, to, o, d⟩ := p
  simp only at s0 s1 o1 form E ⊢
  cases wh <;> cases mo
  · go_enter Try.func45, Try.ntmps45
    go_wp2_with fail
    go_ret
    exact ⟨ret_int (by rw [E.out]; simp), rfl⟩
  · go_enter Try.func45, Try.ntmps45
    go_wp2_with fail
    go_ret
    exact ⟨ret_int (by rw [E.out]; simp; exact o1.out), rfl⟩
  · have z := (form rfl).2
    clear form
    subst z
    go_enter Try.func45, Try.ntmps45
    go_wp2_with fail
    go_ret
    exact ⟨ret_int (by rw [E.out]; rfl), rfl⟩
  · exact absurd (form rfl).1 (by simp)
theorem appendWord_any (w : World) (B : Nat) (v : Value) (l : List UInt8) (n : Int) (hown : Own w B v l) (hl : l.length ≤ 70368744177664) (hB : B ≤ w.heap.size) (h0 : 0 ≤ n) (h1 : n ≤ 65535) :
    Calls Try.prog 44 #[v, .int .u16 n] w fun e w' => ∃ v', e = .returned v' ∧ Own w' B v' (l ++ [hi8 n, lo8 n]) ∧ Below B w w' := by
  have e0 := hi8_at n h0 h1
  have e1 := lo8_at n
  have hh : n / 256 < 256 := by omega
  go_enter Try.func44, Try.ntmps44
  go_wp2_with (at_builtin; refine app_own _ rfl _ _ rfl B _ l rfl (hown.alloc _) ⟨w.heap.size, 0, none⟩ 2 2 [hi8 n, lo8 n] rfl rfl ?c1 (by omega) (by simp; omega) ?_)
  case c1 =>
    intro j hj
    match j, hj with
    | 0, _ => simp [Addr.add]; omega
    | 1, _ => simp [Addr.add]; omega
  intro v' w' h1 h2
  go_wp2
  go_ret
  exact ⟨_, rfl, h1, ((Below.refl _ _).alloc hB _).trans h2⟩
theorem appendAddress_any (w : World) (B : Nat) (v : Value) (l : List UInt8) (a : Int) (hown : Own w B v l) (hl : l.length ≤ 35184372088832) (hB : B ≤ w.heap.size) (h0 : 0 ≤ a) (h1 : a ≤ 4294967295) :
    Calls Try.prog 46 #[v, .int .u32 a] w fun e w' => ∃ v', e = .returned v' ∧ Own w' B v' (l ++ adr a) ∧ Below B w w' := by
  have hq : a / 65536 < 65536 := by omega
  go_enter Try.func46, Try.ntmps46
  go_wp2_with fail
  refine (appendWord_any _ B v l (a / 65536) hown (by omega) hB (by omega) (by omega)).mono ?_
  rintro e w1 ⟨v1, rfl, o1, b1⟩
  go_wp2_with fail
  refine (appendWord_any _ B v1 _ (a % 65536) o1 (by simp; omega) (by have := b1.size; omega) (by omega) (by omega)).mono ?_
  rintro e w2 ⟨v2, rfl, o2, b2⟩
  go_wp2_with fail
  go_ret
  exact ⟨_, rfl, by simpa [adr] using o2, b1.trans b2⟩
end Go.Proofs.Ytlbpapngcgnepaa.ipi
