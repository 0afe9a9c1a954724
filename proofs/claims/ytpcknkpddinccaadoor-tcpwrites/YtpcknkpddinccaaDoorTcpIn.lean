/- What package tcp's inner functions on words and longs answer, and that they change nothing that was there. -/
import Derived.Test.YtpcknkpddinccaaDoorTcpBase
import Derived.Test.YtpcknkpddinccaaDoorWds
import Derived.Test.YtpcknkpddinccaaDoorAb
import Derived.LoopN
namespace Go.Proofs.YtpcknkpddinccaaDoor.tci
open Go.ChangeShapes Go.WideShapes Go.ChangeAt Go.RowKit Go.BigFrame
open Go.Proofs.YtpcknkpddinccaaDoor.EM Go.Proofs.YtpcknkpddinccaaDoor.ethb Go.Proofs.YtpcknkpddinccaaDoor.SM Go.Proofs.YtpcknkpddinccaaDoor.ipb Go.Proofs.YtpcknkpddinccaaDoor.buf Go.Proofs.YtpcknkpddinccaaDoor.boxes Go.Proofs.YtpcknkpddinccaaDoor.wds Go.Proofs.YtpcknkpddinccaaDoor.tcb
open Go.Proofs.YtpcknkpddinccaaDoor.sumw (Qd Qd.refl Qd.drewN Qd.trans)

/-- blocks of another kind than bytes stand -/
def Kt (w w' : World) : Prop := ∀ b F t, t ≠ 5 → Blk w b F t → Blk w' b F t
theorem Kt.refl (w : World) : Kt w w := fun _ _ _ _ h => h
theorem Kt.trans {a b c : World} (h : Kt a b) (h' : Kt b c) : Kt a c := fun x F t ht k => h' x F t ht (h x F t ht k)
theorem Kt.alloc {w w' : World} (h : Kt w w') (o : Obj) : Kt w (w'.alloc o) := fun x F t ht k => (h x F t ht k).alloc o
theorem Kt.below {w w' w'' : World} (h : Kt w w') (hb : Below w'.heap.size w' w'') : Kt w w'' := fun x F t ht k => (h x F t ht k).below hb (h x F t ht k).lt
theorem own_ne {w : World} {B b : Nat} {v : Value} {l : List UInt8} {F : Array Value} {t : TypeId} (h : Own w B v l) (ht : t ≠ 5) (k : Blk w b F t) : some b ≠ v.ownBlock := by
  rcases h.2 with ⟨rfl, _⟩ | ⟨g, cap, cur, rfl, hB, hg, _⟩
  · simp [Value.ownBlock]
  · intro e
    simp [Value.ownBlock] at e
    subst e
    unfold Blk at k
    rw [hg] at k
    have := Option.some.inj k
    simp only [Obj.cells.injEq] at this
    exact ht this.2.1.symm
theorem kt_grown {w w' : World} {B : Nat} {v : Value} {l : List UInt8} (h : Own w B v l) (g : w.grownBy w' v.ownBlock) : Kt w w' := fun b _ _ ht k =>
  (g.block b k.lt (own_ne h ht k)).trans k
/-- append to bytes of the call's own, and blocks of another kind stand -/
theorem app_kt {ops : Array Oper} {rest : List Oper} {o : Oper} {a : Act} {Q : Exit → Act → World → Prop} (w : World)
    (hg : o.guard = none) (s x : Operand) (hop : o.op = Op.call { callee := Callee.builtin Builtin.append, args := #[s, x], argTypes := #[36, 36] })
    (B : Nat) (v : Value) (l : List UInt8) (hs : a.eval s = v) (hown : Own w B v l) (ad : Addr) (m c : Nat) (news : List UInt8) (hx : a.eval x = .slice (some ad) m c) (hm : news.length = m)
    (hc : ∀ j, j < news.length → w.cell? (ad.add j) = some (.int .u8 ((news.getD j 0).toNat : Int))) (b1 : l.length + m ≤ 140737488355328) (b4 : B ≤ w.heap.size)
    (hK : ∀ v' w', Own w' B v' (l ++ news) → Below B w w' → Kt w w' → wpList Tryd.prog ops Q rest (a.put o.dst v') w') : wpList Tryd.prog ops Q (o :: rest) a w := by
  obtain ⟨i0, hi, hz0, hz1, hz2⟩ := info_parts u8info
  refine wpList_append_own w hg s x 36 hop B 5 i0 (.int .u8 0) 1 1 Tryd.underlying36 hi hz0 hz1 hz2 rfl (by decide) v l.length (bc l) hs hown ad m c (bc news) hx (by rw [bc_length, hm]; omega)
    (fun j u hj => ?_) (bc_one news) (by unfold maxLen; omega) (by omega) b4 ?_
  · have hj' : j < news.length := by
      have := (List.getElem?_eq_some_iff.1 hj).1
      rwa [bc_length] at this
    rw [hc j hj', ← hj, bc, List.getElem?_map, List.getElem?_eq_getElem hj', List.getD_eq_getElem?_getD, List.getElem?_eq_getElem hj']
    rfl
  · intro v' w' h1 h2 _
    refine hK v' w' ?_ ?_ (kt_grown hown h2)
    · unfold Own
      rw [bc_append, List.length_append, hm]
      exact h1
    · exact (Below.refl _ _).grown h2 b4 (fun k hk => (hown.lt k hk).1)

theorem wordAt_any (s : ByteArray) (k : Nat) (w : World) (hs : s.size ≤ 281474976710656) (h : k + 1 < s.size) :
    Calls Tryd.prog 36 #[.string s, .int .i64 k] w fun e w' => e = .returned (.int .u16 (wd s k)) ∧ Qd w w' := by
  have hk0 : (k : Int) < s.size := by omega
  have hk1 : (k : Int) + 1 < s.size := by omega
  have b0 := bt_bd s k
  have b1 := bt_bd s (k + 1)
  have hix := index_at s k (by omega)
  have hix1 : ∀ u, (Instr.index 9 (.string s) (.int .i64 ((k : Int) + 1))).run Tryd.prog u = .ok (.int .u8 (bt s (k + 1))) u := fun u => by
    have := index_at s (k + 1) h u
    simpa using this
  have E : Hid (bits .or .u16 (bt s k * 256) (bt s (k + 1)) = wd s k) := word_or _ _ b0.1 b0.2 b1.1 b1.2
  go_enter Tryd.func36, Tryd.ntmps36
  go_wp2_with fail
  go_quiet (fail)
  go_wp2_with fail
  go_ret
  exact ⟨ret_int E.out, _, rfl⟩
theorem wordAt_int (s : ByteArray) (k : Int) (w : World) (hs : s.size ≤ 281474976710656) (h0 : 0 ≤ k) (h : k + 1 < s.size) :
    Calls Tryd.prog 36 #[.string s, .int .i64 k] w fun e w' => e = .returned (.int .u16 (wd s k.toNat)) ∧ Qd w w' := by
  obtain ⟨n, rfl⟩ := Int.eq_ofNat_of_zero_le h0
  exact wordAt_any s n w hs (by omega)
theorem adr_or (a b : Int) (h0 : 0 ≤ a) (h1 : a ≤ 65535) (h2 : 0 ≤ b) (h3 : b ≤ 65535) : bits .or .u32 (a * 65536) b = 65536 * a + b := by
  rw [u32_or _ _ (by omega) (by omega) h2 (by omega), nat_join 16 _ _ (by omega) (by omega)]
  omega

theorem longAt_any (s : ByteArray) (k : Nat) (w : World) (hs : s.size ≤ 281474976710656) (h : k + 3 < s.size) :
    Calls Tryd.prog 37 #[.string s, .int .i64 k] w fun e w' => e = .returned (.int .u32 (65536 * wd s k + wd s (k + 2))) ∧ Qd w w' := by
  have b0 := wd_bd s k
  have b1 := wd_bd s (k + 2)
  have E : Hid (bits .or .u32 (wd s k * 65536) (wd s (k + 2)) = 65536 * wd s k + wd s (k + 2)) := adr_or _ _ b0.1 b0.2 b1.1 b1.2
  have hc := wordAt_int s ((k : Int) + 2)
  have e2 : ((k : Int) + 2).toNat = k + 2 := by omega
  go_enter Tryd.func37, Tryd.ntmps37
  go_wp2_with fail
  refine (wordAt_any s k _ hs (by omega)).mono ?_
  rintro e w1 ⟨rfl, q1⟩
  go_wp2_with fail
  refine (hc _ hs (by omega) (by omega)).mono ?_
  rintro e w2 ⟨rfl, q2⟩
  rw [e2]
  go_wp2_with fail
  go_ret
  exact ⟨ret_int E.out, q1.trans q2⟩
theorem longAt_int (s : ByteArray) (k : Int) (w : World) (hs : s.size ≤ 281474976710656) (h0 : 0 ≤ k) (h : k + 3 < s.size) :
    Calls Tryd.prog 37 #[.string s, .int .i64 k] w fun e w' => e = .returned (.int .u32 (65536 * wd s k.toNat + wd s (k.toNat + 2))) ∧ Qd w w' := by
  obtain ⟨n, rfl⟩ := Int.eq_ofNat_of_zero_le h0
  exact longAt_any s n w hs (by omega)
/-- words, as bytes -/
def wbl (ws : List Int) : List UInt8 := ws.flatMap fun n => [hi8 n, lo8 n]
theorem wbl_len (ws : List Int) : (wbl ws).length = 2 * ws.length := by
  induction ws with
  | nil => rfl
  | cons x r ih =>
    have : wbl (x :: r) = [hi8 x, lo8 x] ++ wbl r := rfl
    rw [this, List.length_append, ih]; simp; omega
theorem wbl_take (ws : List Int) (k : Nat) (h : k < ws.length) : wbl (ws.take (k + 1)) = wbl (ws.take k) ++ [hi8 (ws.getD k 0), lo8 (ws.getD k 0)] := by
  have e : ws.take (k + 1) = ws.take k ++ [ws.getD k 0] := by rw [List.take_succ_eq_append_getElem h, List.getD_eq_getElem?_getD, List.getElem?_eq_getElem h]; rfl
  rw [e]
  unfold wbl
  rw [List.flatMap_append]; rfl
set_option maxHeartbeats 400000 in
theorem appendWords_any (w : World) (B g cap n : Nat) (v : Value) (l : List UInt8) (ws : List Int) (hn : n = ws.length) (hown : Own w B v l) (hl : l.length ≤ 140737488355000) (hB : B ≤ w.heap.size) (hw : ∀ x ∈ ws, 0 ≤ x ∧ x ≤ 65535) (hz : ws.length ≤ 100)
    (hrow : Blk w g (ws.map (Value.int .u16)).toArray 47) :
    Calls Tryd.prog 19 #[v, .slice (some ⟨g, 0, none⟩) n cap] w fun e w' => ∃ v', e = .returned v' ∧ Own w' B v' (l ++ wbl ws) ∧ Below B w w' ∧ Kt w w' := by
  have HN : Hid (n = ws.length) := hn
  have hz' : n ≤ 100 := by omega
  clear hn
  go_enter Tryd.func19, Tryd.ntmps19
  go_wp2_with fail
  go_loopw [0, 9] (fun s i wr => ∃ k : Nat, k ≤ n ∧ i = .int .i64 k ∧ Own wr B s (l ++ wbl (ws.take k)) ∧ Below B w wr ∧ Kt w wr) (fun _ i _ => n - (intOf i).toNat)
  case atStart => exact ⟨0, Nat.zero_le _, rfl, by simpa [wbl] using hown, Below.refl _ _, Kt.refl _⟩
  case round =>
    obtain ⟨k, hk, rfl, own, bel, kt⟩ := hrel
    clear hown
    by_cases hlt : k < n
    · have hN := HN.out
      obtain ⟨x, X⟩ : ∃ x, x = ws.getD k 0 := ⟨_, rfl⟩
      have xm : x ∈ ws := by rw [X, List.getD_eq_getElem?_getD, List.getElem?_eq_getElem (by omega)]; exact List.getElem_mem _
      have x0 := (hw x xm).1
      have x1 := (hw x xm).2
      have src : wr.cell? ⟨g, k, none⟩ = some (.int .u16 x) := by
        rw [(kt _ _ _ (by decide) hrow).cell, List.getElem?_toArray, List.getElem?_map, List.getElem?_eq_getElem (by omega), X, List.getD_eq_getElem?_getD, List.getElem?_eq_getElem (by omega)]; rfl
      have E : Hid (l ++ wbl (ws.take (k + 1)) = l ++ wbl (ws.take k) ++ [hi8 x, lo8 x]) := by show _ = _; rw [wbl_take ws k (by omega), ← X, List.append_assoc]
      have e0 := hi8_at x x0 x1
      have e1 := lo8_at x
      have zl : (l ++ wbl (ws.take k)).length ≤ 140737488355200 := by rw [List.length_append, wbl_len, List.length_take]; omega
      have zB := bel.size
      have bz : B ≤ wr.heap.size := Nat.le_trans hB zB
      have hh : x / 256 < 256 := by omega
      generalize l ++ wbl (ws.take k) = M at own E zl
      clear X xm hN hrow hw
      go_wp2_with (at_builtin; refine app_kt _ rfl _ _ rfl B _ M rfl (own.alloc _) ⟨wr.heap.size, 0, none⟩ 2 2 [hi8 x, lo8 x] rfl rfl ?c1 (by omega) (by simp; omega) ?_)
      case c1 =>
        intro j hj
        match j, hj with
        | 0, _ => simp [Addr.add]; omega
        | 1, _ => simp [Addr.add]; omega
      intro v' w' o1 b1 k1
      have bel' := (bel.alloc bz _).trans b1
      have kt' := (kt.alloc _).trans k1
      rw [← E.out] at o1
      clear own bel kt b1 k1 E
      go_wp2_with fail
      go_roundw
      case rel => exact ⟨k + 1, by omega, by go_num, o1, bel', kt'⟩
      case measure => simp [intOf]; omega
    · have hN := HN.out
      have e : k = n := by omega
      have o1 := own
      rw [e, hN, List.take_length] at o1
      clear own hN e
      go_wp2_with fail
      go_ret
      exact ⟨_, rfl, o1, bel, kt⟩
end Go.Proofs.YtpcknkpddinccaaDoor.tci
