/- All of a row put behind a row of the call's own (also where it is nil): guarded; and in a region that draws; whatever the kind. -/
import Derived.Test.YtbhejjpkmnldhaaRwsRd
import Derived.OwnWalk
import Derived.Laws.OwnMore
import Derived.Deep.RegionLaw
import Derived.Deep.RegionWith
namespace Go.Proofs.Ytbhejjpkmnldhaa.apr
open Go.ChangeShapes Go.WideShapes Go.ChangeAt Go.RowKit Go.BigFrame
open Go.Proofs.Ytbhejjpkmnldhaa.boxes Go.Proofs.Ytbhejjpkmnldhaa.rwr
open Go.Proofs.Ytbhejjpkmnldhaa.rws (Knd Own cs_length cs_one cs_append cs_at)

section
variable {α : Type}
theorem run_app (K : Knd α) (w : World) (ty : TypeId) (B : Nat) (v : Value) (l : List α) (hown : Own K w B v l) (u : Value) (news : List α) (hr : Rd K w u news)
    (b0 : l.length + news.length ≤ maxLen) (b1 : (l.length + news.length) * K.by_ ≤ 140737488355328) (b4 : B ≤ w.heap.size) :
    ∃ v' w', (Builtin.append_ #[K.s, K.s] ty #[v, u]).run Try.prog w = .ok v' w' ∧ Own K w' B v' (l ++ news) ∧ Below B w w' ∧ w.grownBy w' v.ownBlock := by
  obtain ⟨sa, sc, rfl, hm, hf, hc⟩ := hr
  obtain ⟨i0, hi, hz0, hz1, hz2⟩ := info_parts K.info
  cases sa with
  | none =>
    have hn : news = [] := by
      have h1 := hf.nil rfl
      have h2 := hf.le
      exact List.eq_nil_of_length_eq_zero (by omega)
    subst hn
    have hsc := hf.nil rfl
    subst hsc
    exact ⟨v, w, run_append_owned_none (P := Try.prog) w B K.s ty K.e i0 K.k K.hs hi v l.length (K.cs l) hown, by rw [List.append_nil]; exact hown, Below.refl _ _, ⟨rfl, rfl, rfl, Nat.le_refl _, fun _ _ _ => rfl⟩⟩
  | some ad =>
    obtain ⟨v', w', hrun, h1, h2, _⟩ := run_append_own (P := Try.prog) w B K.s ty K.e i0 K.z K.k K.by_ K.hs hi hz0 hz1 hz2 K.hz K.pos v l.length (K.cs l) hown ad news.length sc (K.cs news) (by rw [cs_length])
      (fun j y hj => by
        have hjl : j < news.length * K.k := by
          have := (List.getElem?_eq_some_iff.1 hj).1
          rwa [cs_length] at this
        have hp : 0 < news.length := by
          by_cases h0 : news.length = 0
          · rw [h0] at hjl; omega
          · omega
        obtain ⟨b, off, e, hb, hcell⟩ := hc hp
        obtain rfl := Option.some.inj e
        have hadd : (⟨b, off, none⟩ : Addr).add j = ⟨b, off + j, none⟩ := by unfold Addr.add; split <;> simp_all
        have hq : j / K.k < news.length := by rw [Nat.div_lt_iff_lt_mul K.pos]; exact hjl
        have hr' : j % K.k < K.k := Nat.mod_lt _ K.pos
        have hd : j / K.k * K.k + j % K.k = j := by rw [Nat.mul_comm]; exact Nat.div_add_mod j K.k
        have e1 := hcell (j / K.k) news[j / K.k] (List.getElem?_eq_getElem hq) (j % K.k) hr'
        have e2 := cs_at K news (j / K.k) news[j / K.k] (List.getElem?_eq_getElem hq) (j % K.k) hr'
        rw [hd, hj] at e2
        rw [Nat.add_assoc, hd] at e1
        rw [hadd, e1, ← e2]) (cs_one K news) b0 b1 b4
    refine ⟨v', w', hrun, ?_, (Below.refl _ _).grown h2 b4 (fun k hk => (hown.lt k hk).1), h2⟩
    unfold Own
    rw [cs_append, List.length_append]
    exact h1
/-- where it is guarded, and wanted -/
theorem app_rdg {ops : Array Oper} {rest : List Oper} {o : Oper} {a : Act} {Q : Exit → Act → World → Prop} (K : Knd α) (w : World)
    (hw : Region.wanted o (yielded ops a.tmps) = true) (s x : Operand) (hop : o.op = Op.call { callee := Callee.builtin Builtin.append, args := #[s, x], argTypes := #[K.s, K.s] })
    (B : Nat) (v : Value) (l : List α) (hs : a.eval s = v) (hown : Own K w B v l) (u : Value) (news : List α) (hx : a.eval x = u) (hr : Rd K w u news)
    (b0 : l.length + news.length ≤ maxLen) (b1 : (l.length + news.length) * K.by_ ≤ 140737488355328) (b4 : B ≤ w.heap.size)
    (hK : ∀ v' w', Own K w' B v' (l ++ news) → Below B w w' → w.grownBy w' v.ownBlock → wpList Try.prog ops Q rest (a.put o.dst v') w') : wpList Try.prog ops Q (o :: rest) a w := by
  obtain ⟨v', w', hrun, h1, h2, h3⟩ := run_app K w o.type B v l hown u news hr b0 b1 b4
  unfold wpList
  rw [if_pos hw]
  left
  unfold Oper.wp
  simp [execOp, hop, resolve, invoke, builtin, hs, hx, hrun, Result.andThen]
  exact hK v' w' h1 h2 h3
/-- in a region that draws -/
theorem step_rd {ops : Array Oper} {o : Oper} {a : Act} {w : World} {C : Act → World → Prop} {Q : Exit → Act → World → Prop} {E : Prop} (K : Knd α)
    (hg : o.guard = none) (s x : Operand) (hop : o.op = Op.call { callee := Callee.builtin Builtin.append, args := #[s, x], argTypes := #[K.s, K.s] })
    (B : Nat) (v : Value) (l : List α) (hs : a.eval s = v) (hown : Own K w B v l) (u : Value) (news : List α) (hx : a.eval x = u) (hr : Rd K w u news)
    (b0 : l.length + news.length ≤ maxLen) (b1 : (l.length + news.length) * K.by_ ≤ 140737488355328) (b4 : B ≤ w.heap.size)
    (hK : ∀ v' w', Own K w' B v' (l ++ news) → Below B w w' → w.grownBy w' v.ownBlock → C (a.put o.dst v') w') :
    if Region.wanted o (yielded ops a.tmps) = true then Oper.wp Try.prog o a w C Q else E := by
  obtain ⟨v', w', hrun, h1, h2, h3⟩ := run_app K w o.type B v l hown u news hr b0 b1 b4
  have hw : Region.wanted o (yielded ops a.tmps) = true := by simp [Region.wanted, hg]
  rw [if_pos hw]
  unfold Oper.wp
  simp [execOp, hop, resolve, invoke, builtin, hs, hx, hrun, Result.andThen]
  exact hK v' w' h1 h2 h3
end
end Go.Proofs.Ytbhejjpkmnldhaa.apr
