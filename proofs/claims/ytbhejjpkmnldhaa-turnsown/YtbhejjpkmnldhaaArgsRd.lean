/- Rows of structs that came in as arguments, whatever their kind. -/
import Derived.Test.YtbhejjpkmnldhaaRwsRd
import Derived.Lib.SmallJoins
import Derived.SizedLaws
import Derived.ChangeSlices
import Derived.OpenShut
namespace Go.Proofs.Ytbhejjpkmnldhaa.argr
open Go.ChangeShapes Go.WideShapes Go.ChangeAt Go.RowKit
open Go.Proofs.Ytbhejjpkmnldhaa.rwr
open Go.Proofs.Ytbhejjpkmnldhaa.rws (Knd)

section
variable {H : Type} {enc : TypeId × Value → H} {w : World} {base : Nat} {spare : Nat → Bool} {held : Bool}
theorem bounds_u32 {n : Int} (h : (Lit.int .u32 n).wf = true) : 0 ≤ n ∧ n ≤ 4294967295 := by
  simp [Lit.wf, IntKind.min, IntKind.max, IntKind.signed, IntKind.bits] at h
  omega
theorem bounds_i64 {n : Int} (h : (Lit.int .i64 n).wf = true) : -9223372036854775808 ≤ n ∧ n ≤ 9223372036854775807 := by
  simp [Lit.wf, IntKind.min, IntKind.max, IntKind.signed, IntKind.bits] at h
  omega
theorem weighed {P : Program} {ts : List TypeId} {ds : List (DataW H)} (h : (DataW.weightsEach P ts ds).all (· ≤ reachBytes) = true) {j : Nat} {t : TypeId} {d : DataW H} (ht : ts[j]? = some t) (hd : ds[j]? = some d) : (d.weights P t).all (· ≤ reachBytes) = true :=
  List.all_eq_true.2 fun n hn => List.all_eq_true.1 h n (DataW.weights_mem_each ht hd n hn)
theorem weights_mem_all {P : Program} {e : TypeId} : ∀ {ds : List (DataW H)} {d : DataW H}, d ∈ ds → ∀ n ∈ d.weights P e, n ∈ DataW.weightsAll P e ds
  | d0 :: ds, d, hd, n, hn => by
    simp only [DataW.weightsAll, List.mem_append]
    rcases List.mem_cons.1 hd with rfl | hd
    · exact Or.inl hn
    · exact Or.inr (weights_mem_all hd n hn)
theorem rows {α : Type} (K : Knd α) (t : TypeId) (m : Nat) (y0 : α) (V : α → Prop) {fuel : Nat} {cs : List Value} {x : DataW H × List MemPlace} (hk : Try.prog.cellsOf K.e = K.k) (hu : Try.prog.underlying t = some (.slice K.e))
    (each : ∀ n cs x, DataW.trod enc Try.prog w base spare held n K.e cs = some x → (x.1.weights Try.prog K.e).all (· ≤ m) = true → ∃ y, cs = (K.enc y).toList ∧ V y)
    (h : DataW.trod enc Try.prog w base spare held fuel t cs = some x) (hm : (x.1.weights Try.prog t).all (· ≤ m) = true) :
    ∃ sa sc l, cs = [.slice sa l.length sc] ∧ Rd K w (.slice sa l.length sc) l ∧ l.length * Try.prog.bytesOf K.e ≤ m ∧ ∀ y ∈ l, V y := by
  rcases DataW.trod_slice hu h with ⟨hcs, _⟩ | ⟨a, len, cap, elems, rest, n, _, hcs, hx, _, hle, hmax, hlen, hel, _, _⟩
  · exact ⟨none, 0, [], hcs, ⟨none, 0, rfl, Nat.zero_le _, ⟨Nat.le_refl _, fun _ => rfl⟩, fun hh => by simp at hh⟩, by simp, fun y hy => by simp at hy⟩
  · have hd : x.1 = .slice (elems.map (·.1)) (rest.map (·.1)) := congrArg Prod.fst hx
    rw [hd] at hm
    simp only [DataW.weights, hu] at hm
    have hm0 := List.all_eq_true.1 hm _ List.mem_cons_self
    have key : ∀ i, ∃ y : α, i < len → (∀ k, k < K.k → w.cell? ((a.add (i * K.k)).add k) = (K.enc y)[k]?) ∧ V y := fun i => by
      by_cases hi : i < len
      · have hh := hel i hi
        rw [List.getElem?_eq_getElem (by omega), hk, Option.bind_eq_some_iff] at hh
        obtain ⟨cs', h1, h2⟩ := hh
        obtain ⟨y, rfl, hV⟩ := each _ _ _ h2 (List.all_eq_true.2 fun z hz => List.all_eq_true.1 hm z (List.mem_cons_of_mem _ (List.mem_append_left _ (weights_mem_all (List.mem_map_of_mem (List.getElem_mem _)) z hz))))
        exact ⟨y, fun _ => ⟨fun k hk' => by rw [(World.cells?_some h1).2.2 k hk', Array.getElem?_toList], hV⟩⟩
      · exact ⟨y0, fun h => absurd h hi⟩
    obtain ⟨f, hf'⟩ := Classical.axiomOfChoice key
    have hl : ((List.range len).map f).length = len := by simp
    refine ⟨some a, cap, (List.range len).map f, by rw [hl]; exact hcs, ⟨some a, cap, rfl, by rw [hl]; omega, ⟨by rw [hl]; exact hle, fun e => by cases e⟩, fun hp => ?_⟩, ?_, fun y hy => ?_⟩
    · have hp' : 0 < len := by rw [hl] at hp; exact hp
      have hz : ∃ z, (K.enc (f 0))[0]? = some z := ⟨_, Array.getElem?_eq_getElem (by rw [K.hk]; exact K.pos)⟩
      obtain ⟨z, hz⟩ := hz
      obtain ⟨b, off, spot⟩ := a
      have h0 := (hf' 0 hp').1 0 K.pos
      rw [hz] at h0
      have hs : spot = none := by simpa [Addr.add] using World.cell?_spot h0
      subst hs
      have c : ∀ j, j < len → ∀ k, k < K.k → w.cell? ⟨b, off + j * K.k + k, none⟩ = (K.enc (f j))[k]? := fun j hj k hk' => by
        have := (hf' j hj).1 k hk'
        rw [Go.WideShapes.add_plain, Go.WideShapes.add_plain] at this
        exact this
      refine ⟨b, off, rfl, World.block_lt_of_cell? (u := z) _ _ ((c 0 hp' 0 K.pos).trans hz), fun j y hj k hk' => ?_⟩
      rw [List.getElem?_map, Option.map_eq_some_iff] at hj
      obtain ⟨i, hi, rfl⟩ := hj
      obtain ⟨h1, h2⟩ := List.getElem?_eq_some_iff.1 hi
      simp at h1 h2
      subst h2
      exact c j h1 k hk'
    · simp only [List.length_map, decide_eq_true_eq] at hm0
      rw [hl]
      refine Nat.le_trans (Nat.mul_le_mul_right _ ?_) hm0
      omega
    · obtain ⟨i, hi, rfl⟩ := List.mem_map.1 hy
      exact (hf' i (by simpa using hi)).2
end
end Go.Proofs.Ytbhejjpkmnldhaa.argr
