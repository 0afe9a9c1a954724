/- What package dgram's inner functions and Under answer, and that they change nothing that was there. -/
import Derived.Test.YtohonfpmaafnaaaDgBase
import Derived.Test.YtohonfpmaafnaaaWds
namespace Go.Proofs.Ytohonfpmaafnaaa.dgi
open Go.ChangeShapes Go.WideShapes Go.ChangeAt Go.RowKit
open Go.Proofs.Ytohonfpmaafnaaa.EM Go.Proofs.Ytohonfpmaafnaaa.ethb Go.Proofs.Ytohonfpmaafnaaa.SM Go.Proofs.Ytohonfpmaafnaaa.ipb Go.Proofs.Ytohonfpmaafnaaa.buf Go.Proofs.Ytohonfpmaafnaaa.boxes Go.Proofs.Ytohonfpmaafnaaa.wds Go.Proofs.Ytohonfpmaafnaaa.dgb
open Go.Proofs.Ytohonfpmaafnaaa.sumw (Qd Qd.refl Qd.drewN Qd.trans)

theorem within_any (n m : Int) (w : World) :
    Calls Try.prog 21 #[.int .i64 n, .int .i64 m] w fun e w' => e = .returned (.bool (decide (0 ≤ n ∧ n ≤ m))) ∧ w' = w := by
  go_enter Try.func21, Try.ntmps21
  go_wp2
  all_goals go_ret
  all_goals exact ⟨by first | (simp_all; done) | (simp_all; omega), rfl⟩
theorem wordAt_any (s : ByteArray) (k : Nat) (w : World) (hs : s.size ≤ 281474976710656) (h : k + 1 < s.size) :
    Calls Try.prog 29 #[.string s, .int .i64 k] w fun e w' => e = .returned (.int .u16 (wd s k)) ∧ Qd w w' := by
  have hk0 : (k : Int) < s.size := by omega
  have hk1 : (k : Int) + 1 < s.size := by omega
  have b0 := bt_bd s k
  have b1 := bt_bd s (k + 1)
  have hix := index_at s k (by omega)
  have hix1 : ∀ u, (Instr.index 9 (.string s) (.int .i64 ((k : Int) + 1))).run Try.prog u = .ok (.int .u8 (bt s (k + 1))) u := fun u => by
    have := index_at s (k + 1) h u
    simpa using this
  have E : Hid (bits .or .u16 (bt s k * 256) (bt s (k + 1)) = wd s k) := word_or _ _ b0.1 b0.2 b1.1 b1.2
  go_enter Try.func29, Try.ntmps29
  go_wp2_with fail
  go_quiet (fail)
  go_wp2_with fail
  go_ret
  exact ⟨ret_int E.out, _, rfl⟩
theorem wordAt_int (s : ByteArray) (k : Int) (w : World) (hs : s.size ≤ 281474976710656) (h0 : 0 ≤ k) (h : k + 1 < s.size) :
    Calls Try.prog 29 #[.string s, .int .i64 k] w fun e w' => e = .returned (.int .u16 (wd s k.toNat)) ∧ Qd w w' := by
  obtain ⟨n, rfl⟩ := Int.eq_ofNat_of_zero_le h0
  exact wordAt_any s n w hs (by omega)
theorem appendWord_any (w : World) (B : Nat) (v : Value) (l : List UInt8) (n : Int) (hown : Own w B v l) (hl : l.length ≤ 70368744177664) (hB : B ≤ w.heap.size) (h0 : 0 ≤ n) (h1 : n ≤ 65535) :
    Calls Try.prog 22 #[v, .int .u16 n] w fun e w' => ∃ v', e = .returned v' ∧ Own w' B v' (l ++ [hi8 n, lo8 n]) ∧ Below B w w' := by
  have e0 := hi8_at n h0 h1
  have e1 := lo8_at n
  have hh : n / 256 < 256 := by omega
  go_enter Try.func22, Try.ntmps22
  go_wp2_with (at_builtin; refine app_own _ rfl _ _ rfl B _ l rfl (hown.alloc _) ⟨w.heap.size, 0, none⟩ 2 2 [hi8 n, lo8 n] rfl rfl ?c1 (by omega) (by simp; omega) ?_)
  case c1 =>
    intro j hj
    match j, hj with
    | 0, _ => simp [Addr.add]; omega
    | 1, _ => simp [Addr.add]; omega
  intro v' w' h1 h2
  go_wp2
  go_ret
  exact ⟨_, rfl, h1, ((Below.refl _ _).alloc hB _).trans h2⟩
theorem appendAddress_any (w : World) (B : Nat) (v : Value) (l : List UInt8) (a : Int) (hown : Own w B v l) (hl : l.length ≤ 35184372088832) (hB : B ≤ w.heap.size) (h0 : 0 ≤ a) (h1 : a ≤ 4294967295) :
    Calls Try.prog 33 #[v, .int .u32 a] w fun e w' => ∃ v', e = .returned v' ∧ Own w' B v' (l ++ adr a) ∧ Below B w w' := by
  have hq : a / 65536 < 65536 := by omega
  go_enter Try.func33, Try.ntmps33
  go_wp2_with fail
  refine (appendWord_any _ B v l (a / 65536) hown (by omega) hB (by omega) (by omega)).mono ?_
  rintro e w1 ⟨v1, rfl, o1, b1⟩
  go_wp2_with fail
  refine (appendWord_any _ B v1 _ (a % 65536) o1 (by simp; omega) (by have := b1.size; omega) (by omega) (by omega)).mono ?_
  rintro e w2 ⟨v2, rfl, o2, b2⟩
  go_wp2_with fail
  go_ret
  exact ⟨_, rfl, by simpa [adr] using o2, b1.trans b2⟩
theorem putWord_any (w : World) (B : Nat) (v : Value) (l : List UInt8) (k : Nat) (n : Int) (hown : Own w B v l) (hk : k + 1 < l.length) (hl : l.length ≤ 70368744177664) (h0 : 0 ≤ n) (h1 : n ≤ 65535) :
    Calls Try.prog 25 #[v, .int .i64 k, .int .u16 n] w fun e w' => e = .returned (.tuple #[]) ∧ Own w' B v (putw l k n) ∧ Below B w w' ∧ w'.heap.size = w.heap.size := by
  obtain ⟨g, cap, cur, rfl, hB, hg, hc, hm, hs, ht⟩ := own_blk hown (by omega)
  obtain ⟨x0, e0⟩ : ∃ x, cur[k]? = some x := ⟨cur[k]'(by omega), Array.getElem?_eq_getElem _⟩
  obtain ⟨x1, e1⟩ : ∃ x, cur[k + 1]? = some x := ⟨cur[k + 1]'(by omega), Array.getElem?_eq_getElem _⟩
  have c0 : w.cell? ⟨g, k, none⟩ = some x0 := (hg.cell k).trans e0
  have f0 := hg.free k
  have c1 : ∀ u, (w.setCell ⟨g, k, none⟩ u).cell? ⟨g, k + 1, none⟩ = some x1 := fun u => by
    rw [World.cell?_setCell_other (h := by intro hh; injection hh with _ h2 _; omega)]; exact (hg.cell _).trans e1
  have f1 : ∀ u, (w.setCell ⟨g, k, none⟩ u).frozen? ⟨g, k + 1, none⟩ = false := fun u => by rw [World.frozen?_setCell]; exact hg.free _
  have G : Hid (Blk ((w.setCell ⟨g, k, none⟩ (.int .u8 ((hi8 n).toNat : Int))).setCell ⟨g, k + 1, none⟩ (.int .u8 ((lo8 n).toNat : Int))) g ((cur.setIfInBounds k (.int .u8 ((hi8 n).toNat : Int))).setIfInBounds (k + 1) (.int .u8 ((lo8 n).toNat : Int))) 5) := (hg.setCell _ _).setCell _ _
  rw [hi8_at n h0 h1, lo8_at] at G
  have T : Hid (((cur.setIfInBounds k (.int .u8 ((hi8 n).toNat : Int))).setIfInBounds (k + 1) (.int .u8 ((lo8 n).toNat : Int))).toList.take l.length = bc (putw l k n)) := by
    show _ = _
    unfold putw
    rw [bc_set, bc_set, take_set, take_set, ht]
  rw [hi8_at n h0 h1, lo8_at] at T
  have hk1 : (k : Int) + 1 < l.length := by omega
  have hk0 : (k : Int) < l.length := by omega
  have hh : n / 256 < 256 := by omega
  have k1 : ((k : Int) + 1).toNat = k + 1 := by omega
  clear hown ht e0 e1
  go_enter Try.func25, Try.ntmps25
  go_wp2_with fail
  refine bodyPost_end (results_none rfl _ _ _) rfl ⟨rfl, ?_, ?_, ?_⟩
  · have := own_of (B := B) (l := putw l k n) hB G.out (by rw [putw_length]; exact hc) hm (by simpa using hs) (by rw [putw_length]; exact T.out)
    rw [putw_length] at this
    exact this
  · exact ((Below.refl _ _).setCell (by simpa using hB) _).setCell (by simpa using hB) _
  · simp
/-- an address -/
structure Ad (a : Int) : Prop where
  l : 0 ≤ a
  u : a ≤ 4294967295
set_option maxHeartbeats 1000000 in
theorem Under_any (f t p n : Int) (w : World) (hf : Ad f) (ht : Ad t) :
    Calls Try.prog 12 #[.int .u32 f, .int .u32 t, .int .i64 p, .int .i64 n] w fun e w' => e = .returned (.string ⟨(und f t p n).toArray⟩) ∧ Below w.heap.size w w' := by
  have eb : ((b8 p).toNat : Int) = p % 256 := b8_at p
  go_enter Try.func12, Try.ntmps12
  go_wp2_with (at_make; refine make_own _ rfl _ _ rfl w.heap.size _ _ _ 12 rfl rfl ?c1 (by omega) (Nat.le_refl _) ?_)
  case c1 => simp
  intro v1 w1 o1 l1
  have z1 := l1.size
  go_wp2_with fail
  refine (appendAddress_any _ w.heap.size v1 _ f o1 (by simp) z1 hf.l hf.u).mono ?_
  rintro e w2 ⟨v2, rfl, o2, l2'⟩
  have l2 := l1.trans l2'
  have z2 := l2.size
  clear o1 l1 l2' z1
  go_wp2_with fail
  refine (appendAddress_any _ w.heap.size v2 _ t o2 (by simp [adr]) z2 ht.l ht.u).mono ?_
  rintro e w3 ⟨v3, rfl, o3, l3'⟩
  have l3 := l2.trans l3'
  have z3 := l3.size
  clear o2 l2 l3' z2
  go_wp2_with (at_builtin; refine app_own _ rfl _ _ rfl w.heap.size _ _ rfl (o3.alloc _) ⟨w3.heap.size, 0, none⟩ 2 2 [0, b8 p] rfl rfl ?c2 (by simp [adr]) (by simp; omega) ?_)
  case c2 =>
    intro j hj
    match j, hj with
    | 0, _ => simp [Addr.add]
    | 1, _ => simp [Addr.add, eb]
  intro v4 w4 o4 l4'
  have l4 := (l3.alloc z3 _).trans l4'
  have z4 := l4.size
  clear o3 l3 l4' z3
  go_wp2_with fail
  refine (appendWord_any _ w.heap.size v4 _ (n % 65536) o4 (by simp [adr]) z4 (by omega) (by omega)).mono ?_
  rintro e w5 ⟨v5, rfl, o5, l5'⟩
  have l5 := l4.trans l5'
  have o6 : Own w5 w.heap.size v5 (und f t p n) := by simpa [und] using o5
  have hs := str_own o6
  clear o4 l4 l5' z4 o5 o6
  go_wp2_with fail
  go_ret
  exact ⟨rfl, l5⟩
/-- what CHECK is made of -/
def uns (f t : Int) (s : ByteArray) : ByteArray := ⟨(und f t 17 s.size).toArray⟩ ++ s
theorem uns_list (f t : Int) (s : ByteArray) : (uns f t s).data.toList = und f t 17 s.size ++ s.data.toList := by simp [uns]
theorem uns_size (f t : Int) (s : ByteArray) : (uns f t s).size = 12 + s.size := by
  have : (uns f t s).data.toList.length = 12 + s.size := by rw [uns_list, List.length_append, und_len]; simp
  simpa using this
theorem under_any (f t : Int) (s : ByteArray) (w : World) (hs : s.size ≤ 281474976710656) (hf : Ad f) (ht : Ad t) :
    Calls Try.prog 24 #[.string s, .int .u32 f, .int .u32 t] w fun e w' => e = .returned (.string (uns f t s)) ∧ Below w.heap.size w w' := by
  have E : Hid ((⟨(und f t 17 s.size).toArray⟩ : ByteArray) ++ s = uns f t s) := (rfl : _ = _)
  have C := fun u => Under_any f t 17 s.size u hf ht
  have zx : (⟨(und f t 17 s.size).toArray⟩ : ByteArray).size = 12 := by show (und f t 17 s.size).toArray.size = 12; rw [List.size_toArray, und_len]
  generalize (⟨(und f t 17 s.size).toArray⟩ : ByteArray) = x at E C zx
  go_enter Try.func24, Try.ntmps24
  go_wp2_with fail
  refine (C _).mono ?_
  rintro e w1 ⟨rfl, b1⟩
  go_wp2_with fail
  go_ret
  exact ⟨by rw [E.out]; rfl, b1⟩
end Go.Proofs.Ytohonfpmaafnaaa.dgi
