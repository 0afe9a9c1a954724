/- Queues of the call's own; a row of queues that is done in part; a row of sizes, cut. -/
import Derived.Test.YtbhejjpkmnldhaaTuServed
namespace Go.Proofs.Ytbhejjpkmnldhaa.tu
open Go.ChangeShapes Go.WideShapes Go.ChangeAt Go.RowKit Go.BigFrame
open Go.Proofs.Ytbhejjpkmnldhaa Go.Proofs.Ytbhejjpkmnldhaa.boxes Go.Proofs.Ytbhejjpkmnldhaa.rwr Go.Proofs.Ytbhejjpkmnldhaa.rwat
open Go.Proofs.Ytbhejjpkmnldhaa.rws (Knd Own)

theorem blk_ne {α : Type} {K : Knd α} {w : World} {B b : Nat} {v : Value} {l : List α} {F : Array Value} {t : TypeId} (h : Own K w B v l) (k : Blk w b F t) (ht : t ≠ K.e) : v.ownBlock ≠ some b := fun e => by
  obtain ⟨c, hc⟩ := own_kind h b e
  have k' : w.heap[b]? = some (.cells F t (0, 0)) := k
  rw [hc] at k'
  simp only [Option.some.injEq, Obj.cells.injEq] at k'
  exact ht k'.2.1.symm
theorem kinds_ne' {α β : Type} {K : Knd α} {K' : Knd β} {w : World} {B B' g : Nat} {v v' : Value} {l : List α} {l' : List β} (h : Own K w B v l) (k : Own K' w B' v' l') (hk : K.e ≠ K'.e) (hg : v'.ownBlock = some g) : v.ownBlock ≠ some g := fun e => by
  rcases kinds_ne h k hk with h0 | h0
  · rw [h0] at e; cases e
  · exact h0 (by rw [e, hg])
/-- of a row of queues the first i are done -/
structure Part (u : World) (B : Nat) (X Y : List Qv) (L : List Qu) (f : Qu → Qu) (i : Nat) : Prop where
  len : Y.length = X.length
  old : ∀ (j : Nat), i ≤ j → Y[j]? = X[j]?
  new : ∀ (j : Nat) y q, j < i → Y[j]? = some y → L[j]? = some q → y.sh = (f q).sh ∧ y.sv = (f q).sv ∧ FN u B y.sl (f q).l
  apart : ∀ (j k : Nat) y z, j < k → k < i → Y[j]? = some y → Y[k]? = some z → ∀ g, y.sl.ownBlock = some g → z.sl.ownBlock ≠ some g
theorem Part.zero (u : World) (B : Nat) (X : List Qv) (L : List Qu) (f : Qu → Qu) : Part u B X X L f 0 := ⟨rfl, fun _ _ => rfl, fun _ _ _ h => absurd h (by omega), fun _ _ _ _ _ h => absurd h (by omega)⟩
theorem Part.kept {u u' : World} {B : Nat} {X Y : List Qv} {L : List Qu} {f : Qu → Qu} {i : Nat} (h : Part u B X Y L f i) (hb : Below u.heap.size u u') : Part u' B X Y L f i :=
  ⟨h.len, h.old, fun j y q a b c => ⟨(h.new j y q a b c).1, (h.new j y q a b c).2.1, (h.new j y q a b c).2.2.kept hb⟩, h.apart⟩
theorem Part.but {u u' : World} {B g : Nat} {X Y : List Qv} {L : List Qu} {f : Qu → Qu} {i : Nat} (h : Part u B X Y L f i) (hb : But g u u') (hg : g < B) : Part u' B X Y L f i :=
  ⟨h.len, h.old, fun j y q a b c => ⟨(h.new j y q a b c).1, (h.new j y q a b c).2.1, (h.new j y q a b c).2.2.but hb (own_ne (h.new j y q a b c).2.2.1 hg)⟩, h.apart⟩
/-- where a row of another kind has grown -/
theorem Part.only {β : Type} {K : Knd β} {u u' : World} {B B' : Nat} {X Y : List Qv} {L : List Qu} {f : Qu → Qu} {i : Nat} {v v' : Value} {l : List β} (h : Part u B X Y L f i) (z : Own K u B' v l) (hk : NK.e ≠ K.e) (o : Only v v' u u') : Part u' B X Y L f i :=
  ⟨h.len, h.old, fun j y q a b c => ⟨(h.new j y q a b c).1, (h.new j y q a b c).2.1, (h.new j y q a b c).2.2.grown o.1 (kinds_ne (h.new j y q a b c).2.2.1 z hk)⟩, h.apart⟩
theorem Part.next {u u' : World} {B C : Nat} {X Y : List Qv} {L : List Qu} {f : Qu → Qu} {i : Nat} {y : Qv} {q : Qu} (h : Part u B X Y L f i) (hu : B ≤ u.heap.size) (hL : L[i]? = some q) (h1 : y.sh = (f q).sh) (h2 : y.sv = (f q).sv) (h3 : FN u' C y.sl (f q).l) (hC : u.heap.size ≤ C) (hb : Below u.heap.size u u') : Part u' B X (Y.set i y) L f (i + 1) := by
  refine ⟨by rw [List.length_set]; exact h.len, fun j hj => ?_, fun j x p hj hx hp => ?_, fun j k x z hjk hk hx hz g hg => ?_⟩
  · rw [List.getElem?_set_ne (by omega)]; exact h.old j (by omega)
  · by_cases e : j = i
    · subst e
      have hj2 : j < Y.length := by have := (List.getElem?_eq_some_iff.1 hx).1; rwa [List.length_set] at this
      rw [List.getElem?_set_self hj2] at hx
      obtain rfl := Option.some.inj hx
      rw [hL] at hp
      obtain rfl := Option.some.inj hp
      exact ⟨h1, h2, h3.mono (Nat.le_trans hu hC)⟩
    · rw [List.getElem?_set_ne (fun e2 => e e2.symm)] at hx
      obtain ⟨a, b, c⟩ := h.new j x p (by omega) hx hp
      exact ⟨a, b, c.kept hb⟩
  · rw [List.getElem?_set_ne (by omega)] at hx
    by_cases e : k = i
    · subst e
      have hk2 : k < Y.length := by have := (List.getElem?_eq_some_iff.1 hz).1; rwa [List.length_set] at this
      rw [List.getElem?_set_self hk2] at hz
      obtain rfl := Option.some.inj hz
      obtain ⟨hk3, _⟩ := List.getElem?_eq_some_iff.1 hL
      obtain ⟨_, _, c⟩ := h.new j x _ hjk hx (List.getElem?_eq_getElem (by omega))
      exact own_ne h3.1 (Nat.lt_of_lt_of_le (own_lt c.1 g hg) hC)
    · rw [List.getElem?_set_ne (fun e2 => e e2.symm)] at hz
      exact h.apart j k x z hjk (by omega) hx hz g hg
/-- the slice v holds the queues L, all of it among the blocks from B on -/
def TO (u : World) (B : Nat) (v : Value) (L : List Qu) : Prop := ∃ Y : List Qv, Own QK u B v Y ∧ Y.length = L.length ∧ ∀ (j : Nat) y q, Y[j]? = some y → L[j]? = some q → y.sh = q.sh ∧ y.sv = q.sv ∧ FN u B y.sl q.l
theorem TO.nil (u : World) (B : Nat) : TO u B (.slice none 0 0) [] := ⟨[], rws.Own.nil _ _ _, rfl, fun j y q h => by simp at h⟩
theorem TO.trd {u : World} {B : Nat} {v : Value} {L : List Qu} (h : TO u B v L) : TRd u v L := by
  obtain ⟨Y, h1, h2, h3⟩ := h
  exact ⟨Y, Own.rd h1, h2, fun j x q hx hq => ⟨(h3 j x q hx hq).1, (h3 j x q hx hq).2.1, (h3 j x q hx hq).2.2.rd⟩⟩
theorem TO.kept {u u' : World} {B : Nat} {v : Value} {L : List Qu} (h : TO u B v L) (hb : Below u.heap.size u u') : TO u' B v L := by
  obtain ⟨Y, h1, h2, h3⟩ := h
  exact ⟨Y, h1.kept hb, h2, fun j x q hx hq => ⟨(h3 j x q hx hq).1, (h3 j x q hx hq).2.1, (h3 j x q hx hq).2.2.kept hb⟩⟩
theorem TO.mono {u : World} {B B' : Nat} {v : Value} {L : List Qu} (h : TO u B v L) (hb : B' ≤ B) : TO u B' v L := by
  obtain ⟨Y, h1, h2, h3⟩ := h
  exact ⟨Y, h1.mono hb, h2, fun j x q hx hq => ⟨(h3 j x q hx hq).1, (h3 j x q hx hq).2.1, (h3 j x q hx hq).2.2.mono hb⟩⟩
theorem Part.done {u : World} {B B0 : Nat} {X Y : List Qv} {L : List Qu} {f : Qu → Qu} {n : Nat} {v : Value} (h : Part u B X Y L f n) (hn : X.length = n) (hl : X.length = L.length) (o : Own QK u B0 v Y) (hb : B0 ≤ B) : TO u B0 v (L.map f) := by
  refine ⟨Y, o, by rw [h.len, hl, List.length_map], fun j y q hy hq => ?_⟩
  rw [List.getElem?_map, Option.map_eq_some_iff] at hq
  obtain ⟨p, hp, rfl⟩ := hq
  have hj := (List.getElem?_eq_some_iff.1 hy).1
  obtain ⟨a, b, c⟩ := h.new j y p (by have := h.len; omega) hy hp
  exact ⟨a, b, c.mono hb⟩

theorem ints_elem : Try.prog.elem 39 = 3 := by kernel_rfl
theorem ints_under : Try.prog.underlying 39 = some (.slice (Try.prog.elem 39)) := by rw [ints_elem]; exact Try.underlying39
theorem sl_hi (sa : Option Addr) (n sc k : Nat) (hk : k ≤ sc) (u : World) : (Instr.slice 39 (.slice sa n sc) none (some (.int .i64 (k : Int))) none).run Try.prog u = .ok (sliced sa 0 k sc 1) u := by
  rw [run_slice_h u 39 _ n sc ints_under .i64 (k : Int) (by omega) (by omega), ints_elem, Try.sizeOf3]
  simp only [Result.andThen, Int.toNat_natCast]
theorem sl_lo (sa : Option Addr) (n sc k : Nat) (hk : k ≤ n) (u : World) : (Instr.slice 39 (.slice sa n sc) (some (.int .i64 (k : Int))) none none).run Try.prog u = .ok (sliced sa k n sc 1) u := by
  rw [run_slice_l u 39 _ n sc ints_under .i64 (k : Int) (by omega) (by omega), ints_elem, Try.sizeOf3]
  simp only [Result.andThen, Int.toNat_natCast]
theorem rd_lo {w : World} {sa : Option Addr} {sc : Nat} {l : List Int} (h : Rd NK w (.slice sa l.length sc) l) (k : Nat) (hk : k ≤ l.length) : Rd NK w (sliced sa k l.length sc 1) (l.drop k) := rwd.rd_drop h k hk
theorem rd_hi {w : World} {sa : Option Addr} {sc : Nat} {l : List Int} (h : Rd NK w (.slice sa l.length sc) l) (k : Nat) (hk : k ≤ l.length) : Rd NK w (sliced sa 0 k sc 1) (l.take k) := by
  obtain ⟨sa', sc', e, hm, hf, hc⟩ := h
  simp only [Value.slice.injEq] at e
  obtain ⟨rfl, -, rfl⟩ := e
  have hl : (l.take k).length = k := by rw [List.length_take]; omega
  have hle := hf.le
  refine ⟨_, sc, by unfold sliced; rw [hl]; rfl, by omega, ⟨by omega, fun he => ?_⟩, fun h0 => ?_⟩
  · split at he
    · omega
    · exact hf.nil (by simpa using he)
  · obtain ⟨b, off, rfl, hb, hx⟩ := hc (by omega)
    have hadd : (⟨b, off, none⟩ : Addr).add (0 * 1) = ⟨b, off, none⟩ := by unfold Addr.add; split <;> simp_all
    refine ⟨b, off, ?_, hb, fun j x hj t ht => hx j x ?_ t ht⟩
    · split
      · rfl
      · simp [hadd]
    · rw [List.getElem?_take] at hj
      split at hj
      · exact hj
      · cases hj
theorem rd_cap {w : World} {sa : Option Addr} {n sc : Nat} {l : List Int} (h : Rd NK w (.slice sa n sc) l) : n ≤ sc := by
  obtain ⟨sa', sc', e, hm, hf, hc⟩ := h
  simp only [Value.slice.injEq] at e
  obtain ⟨rfl, rfl, rfl⟩ := e
  exact hf.le
end Go.Proofs.Ytbhejjpkmnldhaa.tu
