/- Rows of sizes of the call's own: all of a row, or one more, put behind; clones. -/
import Derived.Test.YtbhejjpkmnldhaaTuBase
namespace Go.Proofs.Ytbhejjpkmnldhaa.tu
open Go.ChangeShapes Go.WideShapes Go.ChangeAt Go.RowKit Go.BigFrame
open Go.Proofs.Ytbhejjpkmnldhaa Go.Proofs.Ytbhejjpkmnldhaa.boxes Go.Proofs.Ytbhejjpkmnldhaa.rwr
open Go.Proofs.Ytbhejjpkmnldhaa.rws (Knd Own cs_length cs_at cs_append cs_one)

theorem zl_get (m i : Nat) (hi : i < (Builtin.zeroCells NK.z.cells m).toList.length) : ∃ z : Int, (Builtin.zeroCells NK.z.cells m).toList[i]? = some (.int .i64 z) := by
  rw [Array.length_toList] at hi
  rw [Array.getElem?_toList]
  exact zero_get m i hi
theorem app_get {a b : List Value} (ha : ∀ i, i < a.length → ∃ z : Int, a[i]? = some (.int .i64 z)) (hb : ∀ i, i < b.length → ∃ z : Int, b[i]? = some (.int .i64 z)) (i : Nat) (hi : i < (a ++ b).length) : ∃ z : Int, (a ++ b)[i]? = some (.int .i64 z) := by
  rw [List.length_append] at hi
  by_cases h : i < a.length
  · rw [List.getElem?_append_left h]; exact ha i h
  · rw [List.getElem?_append_right (by omega)]; exact hb _ (by omega)
theorem cs_get (l : List Int) (i : Nat) (hi : i < (NK.cs l).length) : ∃ z : Int, (NK.cs l)[i]? = some (.int .i64 z) := ints_get rfl hi
theorem run_appN (w : World) (ty : TypeId) (B : Nat) (v : Value) (l : List Int) (hown : FN w B v l) (u : Value) (news : List Int) (hr : Rd NK w u news)
    (b0 : l.length + news.length ≤ maxLen) (b1 : (l.length + news.length) * 8 ≤ 140737488355328) (b4 : B ≤ w.heap.size) :
    ∃ v' w', (Builtin.append_ #[NK.s, NK.s] ty #[v, u]).run Try.prog w = .ok v' w' ∧ FN w' B v' (l ++ news) ∧ Below B w w' ∧ w.grownBy w' v.ownBlock ∧ (v'.ownBlock = v.ownBlock ∨ v'.ownBlock = some w.heap.size) := by
  obtain ⟨i0, hi, hz0, hz1, hz2⟩ := info_parts NK.info
  have hz1' : i0.size = 1 := hz1
  have hz2' : i0.bytes = 8 := hz2
  obtain ⟨sa, sc, rfl, hm, hf, hc⟩ := hr
  have bel : ∀ {w' : World}, w.grownBy w' v.ownBlock → Below B w w' := fun h2 => (Below.refl _ _).grown h2 b4 (fun k hk => (hown.1.lt k hk).1)
  cases sa with
  | none =>
    have hn : news = [] := by
      have h1 := hf.nil rfl
      have h2 := hf.le
      exact List.eq_nil_of_length_eq_zero (by omega)
    subst hn
    have hsc := hf.nil rfl
    subst hsc
    exact ⟨v, w, run_append_owned_none (P := Try.prog) w B NK.s ty NK.e i0 NK.k NK.hs hi v l.length (NK.cs l) hown.1, by rw [List.append_nil]; exact hown, Below.refl _ _, ⟨rfl, rfl, rfl, Nat.le_refl _, fun _ _ _ => rfl⟩, Or.inl rfl⟩
  | some ad =>
    have hl1 : (NK.cs news).length = news.length * 1 := cs_length NK news
    have hl0 : (NK.cs l).length = l.length * 1 := cs_length NK l
    have hsrc : ∀ j y, (NK.cs news)[j]? = some y → w.cell? (ad.add j) = some y := fun j y hj => by
      have hjl : j < news.length := by
        have := (List.getElem?_eq_some_iff.1 hj).1
        omega
      obtain ⟨b, off, e, hb, hcell⟩ := hc (by omega)
      obtain rfl := Option.some.inj e
      have hadd : (⟨b, off, none⟩ : Addr).add j = ⟨b, off + j, none⟩ := by unfold Addr.add; split <;> simp_all
      have e1 := hcell j news[j] (List.getElem?_eq_getElem hjl) 0 (by decide)
      have e2 := cs_at NK news j news[j] (List.getElem?_eq_getElem hjl) 0 (by decide)
      have e3 : j * NK.k + 0 = j := by show j * 1 + 0 = j; omega
      have e4 : off + j * NK.k + 0 = off + j := by show off + j * 1 + 0 = off + j; omega
      rw [e3, hj] at e2
      rw [e4] at e1
      rw [hadd, e1, ← e2]
    obtain ⟨v', w', hrun, h1, h2, hnil⟩ := run_append_own (P := Try.prog) w B NK.s ty NK.e i0 NK.z NK.k NK.by_ NK.hs hi hz0 hz1 hz2 NK.hz NK.pos v l.length (NK.cs l) hown.1 ad news.length sc (NK.cs news) (by rw [cs_length]) hsrc (cs_one NK news) b0 b1 b4
    have ho : Own NK w' B v' (l ++ news) := by
      unfold Own
      rw [cs_append, List.length_append]
      exact h1
    have hpush : ∀ (o : Obj), (w.drew.alloc o).heap[w.heap.size]? = some o := fun o => by
      have e : (w.drew.alloc o).heap = w.heap.push o := rfl
      rw [e, Array.getElem?_push_size]
    have hml : l.length + news.length ≤ 9223372036854775807 := by unfold maxLen at b0; omega
    rcases hown.1.2 with ⟨rfl, hn⟩ | ⟨g, cap, cur, rfl, hB, hg', hnc, hmm, hcs, htake⟩
    · by_cases hp : 0 < news.length
      · have hr := run_append_nil (P := Try.prog) w NK.s ty NK.e i0 NK.z NK.hs hi hz0 ad news.length sc (NK.cs news) (by rw [hl1, hz1']) hsrc hp (by omega) (by rw [hz2']; omega)
        have hrun' := hrun
        rw [hrun] at hr
        obtain ⟨hv, hw'⟩ := Result.ok.inj hr
        subst hv hw'
        refine ⟨_, _, hrun', ⟨ho, ?_⟩, bel h2, h2, Or.inr rfl⟩
        intro g cur e s hg hcc
        have hgg : w.heap.size = g := by simpa [Value.ownBlock] using hg
        subst hgg
        rw [hpush] at hcc
        simp only [Option.some.injEq, Obj.cells.injEq] at hcc
        rw [← hcc.1]
        intro i hi2
        have := app_get (cs_get news) (zl_get _) i (by simpa using hi2)
        rw [← Array.getElem?_toList, Array.toList_append]
        exact this
      · have e0 : news = [] := List.eq_nil_of_length_eq_zero (by omega)
        subst e0
        have hv := hnil.2 ⟨rfl, rfl⟩
        subst hv
        exact ⟨_, _, hrun, ⟨ho, fun g cur e s h => by simp [Value.ownBlock] at h⟩, bel h2, h2, Or.inl rfl⟩
    · by_cases hroom : l.length + news.length ≤ cap
      · have hcs' : cur.size = cap * 1 := hcs
        have hfit : l.length * i0.size + (NK.cs news).length ≤ cur.size := by rw [hl1, hz1', hcs']; omega
        have hr := run_append_room (P := Try.prog) w NK.s ty NK.e i0 NK.hs hi g l.length cap cur hg' ad news.length sc (NK.cs news) (by rw [hl1, hz1']) hsrc (cs_one NK news) hroom hfit
        have hrun' := hrun
        rw [hrun] at hr
        obtain ⟨hv, hw'⟩ := Result.ok.inj hr
        subst hv hw'
        have hf := hown.2 g cur _ _ rfl hg'
        refine ⟨_, _, hrun', ⟨ho, ?_⟩, bel h2, h2, Or.inl rfl⟩
        intro g2 cur2 e s hg hcc
        have hgg : g = g2 := by simpa [Value.ownBlock] using hg
        subst hgg
        rw [setRow_heap w g cur _ NK.e _ hg'] at hcc
        simp only [Option.some.injEq, Obj.cells.injEq] at hcc
        rw [← hcc.1]
        intro i hi2
        have hft : ∀ i, i < cur.toList.length → ∃ z : Int, cur.toList[i]? = some (.int .i64 z) := fun i hi => by
          rw [Array.getElem?_toList]; exact hf i (by simpa using hi)
        have h3 := app_get (app_get (a := cur.toList.take (l.length * i0.size)) (b := NK.cs news) (fun i hi => by
            rw [List.length_take] at hi
            rw [List.getElem?_take_of_lt (by omega)]; exact hft i (by omega)) (cs_get news)) (b := cur.toList.drop (l.length * i0.size + (NK.cs news).length)) (fun i hi => by
            rw [List.length_drop] at hi
            rw [List.getElem?_drop]; exact hft _ (by omega)) i (by simpa using hi2)
        simpa using h3
      · have hr := run_append_grow (P := Try.prog) w NK.s ty NK.e i0 NK.z NK.hs hi hz0 ⟨g, 0, none⟩ l.length cap (NK.cs l) (by rw [hl0, hz1']) (fun j u hj => World.ownsRow.cells hown.1 rfl j u hj) ad news.length sc (NK.cs news) (by rw [hl1, hz1']) hsrc (by omega) (by omega) (by rw [hz2']; exact growslice_fits (by omega) b1)
        have hrun' := hrun
        rw [hrun] at hr
        obtain ⟨hv, hw'⟩ := Result.ok.inj hr
        subst hv hw'
        refine ⟨_, _, hrun', ⟨ho, ?_⟩, bel h2, h2, Or.inr rfl⟩
        intro g2 cur2 e s hg hcc
        have hgg : w.heap.size = g2 := by simpa [Value.ownBlock] using hg
        subst hgg
        rw [hpush] at hcc
        simp only [Option.some.injEq, Obj.cells.injEq] at hcc
        rw [← hcc.1]
        intro i hi2
        have := app_get (app_get (cs_get l) (cs_get news)) (zl_get _) i (by simpa [Nat.add_assoc] using hi2)
        rw [← Array.getElem?_toList, Array.toList_append, Array.toList_append]
        exact this
/-- all of a row behind one of the call's own -/
theorem app_n {ops : Array Oper} {rest : List Oper} {o : Oper} {a : Act} {Q : Exit → Act → World → Prop} (w : World)
    (hg : o.guard = none) (s x : Operand) (hop : o.op = Op.call { callee := Callee.builtin Builtin.append, args := #[s, x], argTypes := #[NK.s, NK.s] })
    (B : Nat) (v : Value) (l : List Int) (hs : a.eval s = v) (hown : FN w B v l) (u : Value) (news : List Int) (hx : a.eval x = u) (hr : Rd NK w u news)
    (b0 : l.length + news.length ≤ maxLen) (b1 : (l.length + news.length) * 8 ≤ 140737488355328) (b4 : B ≤ w.heap.size)
    (hK : ∀ v' w', FN w' B v' (l ++ news) → Below B w w' → w.grownBy w' v.ownBlock → (v'.ownBlock = v.ownBlock ∨ v'.ownBlock = some w.heap.size) → wpList Try.prog ops Q rest (a.put o.dst v') w') : wpList Try.prog ops Q (o :: rest) a w := by
  obtain ⟨v', w', hrun, h1, h2, h3, h4⟩ := run_appN w o.type B v l hown u news hr b0 b1 b4
  refine wpList_plain hg fun _ hK' => ?_
  unfold Oper.wp
  simp [execOp, hop, resolve, invoke, builtin, hs, hx, hrun, Result.andThen]
  exact hK' _ _ (hK v' w' h1 h2 h3 h4)
/-- a row with one size, built -/
theorem one_rd (w : World) (n : Int) : Rd NK (w.alloc (.cells #[.int .i64 n] 3)) (.slice (some ⟨w.heap.size, 0, none⟩) 1 1) [n] := by
  have o := Own.rd (rws.Own.lit NK w 0 (Nat.zero_le _) [n] (by show 1 ≤ maxLen; decide) #[.int .i64 n] rfl)
  exact o
set_option maxRecDepth 20000 in
theorem cloneN_any (v : Value) (ps : List Int) (w : World) (h : Rd NK w v ps) (hb : ps.length * 8 ≤ 140737488355328) :
    Calls Try.prog 17 #[v] w fun e w' => ∃ v', e = .returned v' ∧ FN w' w.heap.size v' ps ∧ Below w.heap.size w w' := by
  have hm : ps.length ≤ maxLen := by unfold maxLen; omega
  obtain ⟨sa, sc, rfl, hm', hf, hc⟩ := h
  have q : ∀ (w : World) (a : Option Addr) (n c n' c' : Nat), (binOp .eql 39 (.slice a n c) (.slice none n' c')).run Try.prog w = .ok (.bool a.isNone) w := fun w a n c n' c' => Lib.run_eql_slice_nil w _ _ a n c n' c' Try.underlying39
  cases sa with
  | none =>
    have e0 := hf.nil rfl
    have e1 := hf.le
    have el : ps = [] := List.eq_nil_of_length_eq_zero (by omega)
    subst el
    clear hc hf hm hm' hb e1
    go_enter Try.func17, Try.ntmps17
    go_wp2_with fail
    go_ret
    exact ⟨_, rfl, FN.nil _ _, Below.refl _ _⟩
  | some a =>
    have b1 := (Below.refl w.heap.size w).alloc (Nat.le_refl _) (.cells #[] 3)
    have hr : Rd NK (w.alloc (.cells #[] 3)) (.slice (some a) ps.length sc) ps := Rd.below ⟨_, _, rfl, hm', hf, hc⟩ b1
    have ow : FN (w.alloc (.cells #[] 3)) w.heap.size (.slice (some ⟨w.heap.size, 0, none⟩) 0 0) [] := ⟨⟨rfl, Or.inr ⟨w.heap.size, 0, #[], rfl, Nat.le_refl _, Blk.new _ _ _, Nat.le_refl _, Nat.zero_le _, rfl, rfl⟩⟩, fun g cur e s hg hcc => by
      have hgg : w.heap.size = g := by simpa [Value.ownBlock] using hg
      subst hgg
      have hb2 : (w.alloc (.cells #[] 3)).heap[w.heap.size]? = some (.cells #[] 3 (0, 0)) := Blk.new _ _ _
      rw [hb2] at hcc
      simp only [Option.some.injEq, Obj.cells.injEq] at hcc
      rw [← hcc.1]
      intro i hi; simp at hi⟩
    clear hc
    go_enter Try.func17, Try.ntmps17
    go_wp2_with (at_builtin; refine app_n _ rfl _ _ rfl w.heap.size _ [] rfl ow (.slice (some a) ps.length sc) ps rfl hr (by simpa using hm) (by simpa using hb) (by simp) ?_)
    intro v4 W4 O4 c4 _ _
    go_wp2_with fail
    go_ret
    exact ⟨_, rfl, O4, b1.trans c4⟩
set_option maxRecDepth 20000 in
theorem cloneQ_any (v : Value) (ps : List Qv) (w : World) (h : Rd QK w v ps) (hb : ps.length * 40 ≤ 140737488355328) :
    Calls Try.prog 21 #[v] w fun e w' => ∃ v', e = .returned v' ∧ Own QK w' w.heap.size v' ps ∧ Below w.heap.size w w' := by
  have hm : ps.length ≤ maxLen := by unfold maxLen; omega
  obtain ⟨sa, sc, rfl, hm', hf, hc⟩ := h
  have q : ∀ (w : World) (a : Option Addr) (n c n' c' : Nat), (binOp .eql 23 (.slice a n c) (.slice none n' c')).run Try.prog w = .ok (.bool a.isNone) w := fun w a n c n' c' => Lib.run_eql_slice_nil w _ _ a n c n' c' Try.underlying23
  cases sa with
  | none =>
    have e0 := hf.nil rfl
    have e1 := hf.le
    have el : ps = [] := List.eq_nil_of_length_eq_zero (by omega)
    subst el
    clear hc hf hm hm' hb e1
    go_enter Try.func21, Try.ntmps21
    go_wp2_with fail
    go_ret
    exact ⟨_, rfl, rws.Own.nil _ _ _, Below.refl _ _⟩
  | some a =>
    have b1 := (Below.refl w.heap.size w).alloc (Nat.le_refl _) (.cells #[] 41)
    have hr : Rd QK (w.alloc (.cells #[] 41)) (.slice (some a) ps.length sc) ps := Rd.below ⟨_, _, rfl, hm', hf, hc⟩ b1
    have ow : Own QK (w.alloc (.cells #[] 41)) w.heap.size (.slice (some ⟨w.heap.size, 0, none⟩) 0 0) [] := ⟨rfl, Or.inr ⟨w.heap.size, 0, #[], rfl, Nat.le_refl _, Blk.new _ _ _, Nat.le_refl _, Nat.zero_le _, rfl, rfl⟩⟩
    clear hc
    go_enter Try.func21, Try.ntmps21
    go_wp2_with (at_builtin; refine app_rd QK _ rfl _ _ rfl w.heap.size _ [] rfl ow (.slice (some a) ps.length sc) ps rfl hr (by simpa using hm) (by show ([].length + ps.length) * 40 ≤ _; simpa using hb) (by simp) ?_)
    intro v4 W4 O4 c4 _
    go_wp2_with fail
    go_ret
    exact ⟨_, rfl, O4, b1.trans c4⟩
end Go.Proofs.Ytbhejjpkmnldhaa.tu
