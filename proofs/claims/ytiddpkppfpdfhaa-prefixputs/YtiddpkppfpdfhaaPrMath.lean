/- The reference's own road to a trie: bits as text, all beginnings sorted, each node by its place among them. -/
import Derived.Test.YtiddpkppfpdfhaaPfBase
import Derived.Test.YtiddpkppfpdfhaaNetTx
import Derived.Test.YtiddpkppfpdfhaaPfMath5
import Derived.Lib.SlicesCompact
import Derived.Shelf.Spec.SearchS
import Derived.Sort.Walk0
import Derived.Lib.Bytes
namespace Go.Proofs.Ytiddpkppfpdfhaa.pf
open Go.Proofs.Ytiddpkppfpdfhaa.pm

theorem en_take (p : Pth) (n : Nat) : en (p.take n) = (en p).extract 0 n := by
  apply bytes_eq
  rw [en_data, ByteArray.data_extract]
  simp [en_data, enl, List.map_take]
theorem enl_lt : ∀ {p q : Pth}, enl p < enl q ↔ lt p q
  | [], [] => by simp [enl, lt]
  | [], _ :: _ => by simp [enl, lt]
  | _ :: _, [] => by simp [enl, lt]
  | a :: p, b :: q => by
    have e : enl (a :: p) = enb a :: enl p := rfl
    have e2 : enl (b :: q) = enb b :: enl q := rfl
    rw [e, e2, List.cons_lt_cons_iff, enl_lt (p := p) (q := q)]
    cases a <;> cases b <;> simp [lt, enb] <;> decide
theorem enl_le {p q : Pth} : enl p ≤ enl q ↔ lt p q ∨ p = q := by
  constructor
  · intro h
    rcases lt_tri p q with h1 | h1 | h1
    · exact Or.inl h1
    · exact Or.inr h1
    · exact absurd (enl_lt.2 h1) (List.not_lt.2 h)
  · rintro (h | rfl)
    · exact List.le_of_lt (enl_lt.2 h)
    · exact List.le_refl _
/-- all beginnings -/
def begs (x : Rw) : List Pth := (List.range (x.1.length + 1)).map x.1.take
def allB (rs : List Rw) : List Pth := rs.flatMap begs
theorem allB_snoc (rs : List Rw) (x : Rw) : allB (rs ++ [x]) = allB rs ++ begs x := by simp [allB]
theorem mem_allB (rs : List Rw) (q : Pth) : q ∈ allB rs ↔ has (ofR rs) q := by
  rw [has_ofR]
  unfold allB begs
  simp only [List.mem_flatMap, List.mem_map, List.mem_range]
  constructor
  · rintro ⟨x, hx, n, _, rfl⟩
    exact ⟨x, hx, List.take_prefix _ _⟩
  · rintro ⟨x, hx, s, hs⟩
    refine ⟨x, hx, q.length, ?_, ?_⟩
    · rw [← hs, List.length_append]; omega
    · rw [← hs, List.take_left]
theorem begs_len (x : Rw) : (begs x).length = x.1.length + 1 := by simp [begs]
theorem allB_len {rs : List Rw} (h : ∀ x ∈ rs, x.1.length ≤ 32) : (allB rs).length ≤ rs.length * 33 := by
  induction rs with
  | nil => simp [allB]
  | cons x r ih =>
    have e : allB (x :: r) = begs x ++ allB r := rfl
    have h1 := h x (by simp)
    have h2 := ih fun y hy => h y (by simp [hy])
    rw [e, List.length_append, begs_len, List.length_cons, Nat.add_mul]; omega
/-- what Compact leaves of a row that is sorted -/
theorem compact_sorted {zs : List (List UInt8)} (h : zs.Pairwise (· ≤ ·)) : (Lib.compact zs).Pairwise (· < ·) ∧ ∀ x, x ∈ Lib.compact zs ↔ x ∈ zs := by
  have key : ∀ m, m ≤ zs.length → (Lib.compactUpTo zs.toArray m).Pairwise (· < ·) ∧ (∀ x, x ∈ Lib.compactUpTo zs.toArray m ↔ ∃ j, j < m ∧ zs[j]? = some x) := by
    intro m
    induction m with
    | zero => intro _; simp [Lib.compactUpTo]
    | succ m ih =>
      intro hm
      obtain ⟨h1, h2⟩ := ih (by omega)
      have gm : zs.toArray[m]! = zs[m]'(by omega) := by rw [getElem!_pos _ m (by simp; omega)]; simp
      rw [Lib.compactUpTo_succ]
      have hpw := List.pairwise_iff_getElem.1 h
      by_cases hk : Lib.keeps zs.toArray m = true
      · rw [if_pos hk]
        refine ⟨List.pairwise_append.2 ⟨h1, List.pairwise_singleton _ _, ?_⟩, fun x => ?_⟩
        · intro a ha b hb
          simp only [List.mem_singleton] at hb
          subst hb
          obtain ⟨j, hj, e⟩ := (h2 a).1 ha
          have hjl : j < zs.length := by omega
          have ea : zs[j] = a := (List.getElem?_eq_some_iff.1 e).2
          rw [gm]
          have hle : a ≤ zs[m]'(by omega) := by rw [← ea]; exact hpw j m hjl (by omega) hj
          rcases List.le_iff_lt_or_eq.1 hle with hlt | heq
          · exact hlt
          · exfalso
            have hm0 : 0 < m := by omega
            simp only [Lib.keeps, decide_eq_true_eq] at hk
            rcases hk with hk | hk
            · omega
            · have g1 : zs.toArray[m - 1]! = zs[m - 1]'(by omega) := by rw [getElem!_pos _ (m - 1) (by simp; omega)]; simp
              rw [gm, g1] at hk
              apply hk
              have l1 : zs[m - 1]'(by omega) ≤ zs[m]'(by omega) := hpw (m - 1) m (by omega) (by omega) (by omega)
              have l2 : a ≤ zs[m - 1]'(by omega) := by
                by_cases e3 : j = m - 1
                · subst e3; rw [ea]; exact List.le_refl _
                · rw [← ea]; exact hpw j (m - 1) hjl (by omega) (by omega)
              rw [heq] at l2
              exact List.le_antisymm l2 l1
        · rw [List.mem_append, h2]
          simp only [List.mem_singleton]
          constructor
          · rintro (⟨j, hj, e⟩ | e)
            · exact ⟨j, by omega, e⟩
            · exact ⟨m, by omega, by rw [List.getElem?_eq_getElem (by omega), e, gm]⟩
          · rintro ⟨j, hj, e⟩
            by_cases e3 : j = m
            · subst e3
              rw [List.getElem?_eq_getElem (by omega)] at e
              exact Or.inr (by rw [gm]; exact (Option.some.inj e).symm)
            · exact Or.inl ⟨j, by omega, e⟩
      · rw [if_neg hk, List.append_nil]
        refine ⟨h1, fun x => ?_⟩
        rw [h2]
        simp only [Lib.keeps, decide_eq_true_eq, not_or, Decidable.not_not] at hk
        obtain ⟨hm0, he⟩ := hk
        have g1 : zs.toArray[m - 1]! = zs[m - 1]'(by omega) := by rw [getElem!_pos _ (m - 1) (by simp; omega)]; simp
        rw [gm, g1] at he
        constructor
        · rintro ⟨j, hj, e⟩; exact ⟨j, by omega, e⟩
        · rintro ⟨j, hj, e⟩
          by_cases e3 : j = m
          · subst e3
            refine ⟨j - 1, by omega, ?_⟩
            rw [List.getElem?_eq_getElem (by omega)] at e ⊢
            rw [← he]; exact e
          · exact ⟨j, by omega, e⟩
  obtain ⟨h1, h2⟩ := key zs.length (Nat.le_refl _)
  refine ⟨h1, fun x => ?_⟩
  show x ∈ Lib.compactUpTo zs.toArray zs.length ↔ _
  rw [h2]
  constructor
  · rintro ⟨j, _, e⟩; exact List.mem_of_getElem? e
  · intro hx
    obtain ⟨j, hj, e⟩ := List.mem_iff_getElem.1 hx
    exact ⟨j, hj, by rw [List.getElem?_eq_getElem hj, e]⟩
theorem sort_sorted (ss : List (List UInt8)) : (ss.mergeSort fun x y => decide (x ≤ y)).Pairwise (· ≤ ·) := by
  have := List.pairwise_mergeSort (le := fun x y : List UInt8 => decide (x ≤ y)) (fun a b c h1 h2 => by simp only [decide_eq_true_eq] at *; exact List.le_trans h1 h2)
    (fun a b => by simp only [Bool.or_eq_true, decide_eq_true_eq]; exact List.le_total a b) ss
  exact this.imp fun h => by simpa using h
/-- sorted, each once: the paths of the tree -/
theorem all_eq (rs : List Rw) : Lib.compact (((allB rs).map enl).mergeSort fun x y => decide (x ≤ y)) = (paths (ofR rs)).map enl := by
  obtain ⟨h1, h2⟩ := compact_sorted (sort_sorted ((allB rs).map enl))
  generalize hZ : Lib.compact (((allB rs).map enl).mergeSort fun x y => decide (x ≤ y)) = Z at *
  have hm : ∀ x, x ∈ Z ↔ ∃ p, has (ofR rs) p ∧ enl p = x := fun x => by
    rw [h2, (List.mergeSort_perm _ _).mem_iff, List.mem_map]
    constructor
    · rintro ⟨p, hp, e⟩; exact ⟨p, (mem_allB rs p).1 hp, e⟩
    · rintro ⟨p, hp, e⟩; exact ⟨p, (mem_allB rs p).2 hp, e⟩
  have hx : ∀ l : List (List UInt8), (∀ x ∈ l, ∃ p, enl p = x) → ∃ ps : List Pth, l = ps.map enl := by
    intro l
    induction l with
    | nil => intro _; exact ⟨[], rfl⟩
    | cons a l ih =>
      intro h
      obtain ⟨p, rfl⟩ := h a (by simp)
      obtain ⟨ps, rfl⟩ := ih fun y hy => h y (by simp [hy])
      exact ⟨p :: ps, rfl⟩
  obtain ⟨ps, rfl⟩ := hx Z fun x hxz => by
    obtain ⟨p, _, e⟩ := (hm x).1 hxz
    exact ⟨p, e⟩
  rw [sorted_eq ps (paths (ofR rs)) ?_ (paths_sorted _) fun p => ?_]
  · rw [List.pairwise_map] at h1
    exact h1.imp fun h => enl_lt.1 h
  · rw [mem_paths]
    constructor
    · intro hp
      obtain ⟨q, hq, e⟩ := (hm (enl p)).1 (List.mem_map.2 ⟨p, hp, rfl⟩)
      rwa [← enl_inj e]
    · intro hp
      obtain ⟨q, hq, e⟩ := List.mem_map.1 ((hm (enl p)).2 ⟨p, hp, rfl⟩)
      rwa [← enl_inj e]
/-- where the search comes to -/
def Sx (ps : List Pth) (q : Pth) (t : Nat) : ByteArray := en (ps.getD t q)
theorem bs_k {ps : List Pth} (hs : ps.Pairwise lt) (q : Pth) : ∃ k, k ≤ ps.length ∧ (∀ t, t < k → lt (ps.getD t q) q) ∧ (∀ t, k ≤ t → ¬ lt (ps.getD t q) q) := by
  induction ps with
  | nil => exact ⟨0, Nat.le_refl _, fun t h => absurd h (Nat.not_lt_zero t), fun t _ => by simpa using lt_irrefl q⟩
  | cons p ps ih =>
    rw [List.pairwise_cons] at hs
    by_cases hp : lt p q
    · obtain ⟨k, h1, h2, h3⟩ := ih hs.2
      refine ⟨k + 1, by simpa using h1, fun t ht => ?_, fun t ht => ?_⟩
      · cases t with
        | zero => simpa using hp
        | succ t => simpa using h2 t (by omega)
      · cases t with
        | zero => omega
        | succ t => simpa using h3 t (by omega)
    · refine ⟨0, Nat.zero_le _, fun t h => absurd h (Nat.not_lt_zero t), fun t _ => ?_⟩
      cases t with
      | zero => simpa using hp
      | succ t =>
        simp only [List.getD_cons_succ]
        intro hl
        by_cases htl : t < ps.length
        · rw [List.getD_eq_getElem?_getD, List.getElem?_eq_getElem htl, Option.getD_some] at hl
          exact hp (lt_trans (hs.1 _ (List.getElem_mem htl)) hl)
        · rw [List.getD_eq_getElem?_getD, List.getElem?_eq_none (by omega), Option.getD_none] at hl
          exact lt_irrefl q hl
theorem sx_less (ps : List Pth) (q : Pth) (t : Nat) : Op.bytesLess (Sx ps q t).toList (en q).toList = decide (enl (ps.getD t q) < enl q) := by
  rw [bytesLess_eq]
  unfold Sx
  rw [Lib.toList_data, Lib.toList_data, en_data, en_data]
def bsI (ps : List Pth) (q : Pth) : Nat := Lib.bsGo (fun t => Op.bytesLess (Sx ps q t).toList (en q).toList) ps.length 0 ps.length
theorem bs_hit {ps : List Pth} (hs : ps.Pairwise lt) {j : Nat} {q : Pth} (hj : ps[j]? = some q) : bsI ps q = j ∧ bsI ps q < ps.length ∧ Sx ps q (bsI ps q) = en q := by
  obtain ⟨k, h1, h2, h3⟩ := bs_k hs q
  have hjl := (List.getElem?_eq_some_iff.1 hj).1
  have e : bsI ps q = k := Lib.bsGo_spec _ k (fun t ht => by rw [sx_less]; exact decide_eq_true (enl_lt.2 (h2 t ht))) (fun t ht => by rw [sx_less]; exact decide_eq_false fun hh => h3 t ht (enl_lt.1 hh)) _ _ _ (Nat.le_refl _) (Nat.zero_le _) h1
  have ej : k = j := by
    have gj : ps.getD j q = q := by rw [List.getD_eq_getElem?_getD, hj]; rfl
    rcases Nat.lt_trichotomy k j with h | h | h
    · exfalso
      have hkl : k < ps.length := by omega
      have := List.pairwise_iff_getElem.1 hs k j hkl hjl h
      have eq : ps[j] = q := (List.getElem?_eq_some_iff.1 hj).2
      rw [eq] at this
      apply h3 k (Nat.le_refl _)
      rw [List.getD_eq_getElem?_getD, List.getElem?_eq_getElem hkl]; exact this
    · exact h
    · have := h2 j h
      rw [gj] at this
      exact absurd this (lt_irrefl q)
  subst ej
  refine ⟨e, by rw [e]; exact hjl, ?_⟩
  rw [e]
  unfold Sx
  rw [List.getD_eq_getElem?_getD, hj]; rfl
theorem bs_miss {ps : List Pth} {q : Pth} (hq : ¬ q ∈ ps) : ¬ (bsI ps q < ps.length ∧ Sx ps q (bsI ps q) = en q) := by
  rintro ⟨h1, h2⟩
  unfold Sx at h2
  rw [List.getD_eq_getElem?_getD, List.getElem?_eq_getElem h1] at h2
  exact hq (by rw [← en_inj h2]; exact List.getElem_mem h1)
/-- each node by its place -/
theorem lay_path : ∀ (t : T) (o j : Nat) (p : Pth), (paths t)[j]? = some p → ∃ x, (lay o t)[j]? = some x ∧ x.s = (pm.look t p).isSome ∧ x.v = (pm.look t p).getD 0 ∧
    ∀ b, (∀ k : Nat, (paths t)[k]? = some (p ++ [b]) → nx x b = ((o + k : Nat) : Int)) ∧ (¬ has t (p ++ [b]) → nx x b = 0) := by
  intro t
  induction t with
  | nil => intro o j p h; simp [paths] at h
  | nd s l r ihl ihr =>
    intro o j p h
    have hlen : ((paths l).map (List.cons false)).length = sz l := by rw [List.length_map, paths_length]
    have hlenl : (lay (o + 1) l).length = sz l := lay_length _ _
    have hsub : ∀ (k : Nat) (q : Pth), (paths (.nd s l r))[k]? = some q → (k = 0 ∧ q = []) ∨ (∃ k' q', k = k' + 1 ∧ q = false :: q' ∧ (paths l)[k']? = some q') ∨ (∃ k' q', k = k' + 1 + sz l ∧ q = true :: q' ∧ (paths r)[k']? = some q') := by
      intro k q hk
      cases k with
      | zero => simp [paths] at hk; exact Or.inl ⟨rfl, hk⟩
      | succ k =>
        simp only [paths, List.getElem?_cons_succ] at hk
        by_cases hkl : k < sz l
        · rw [List.getElem?_append_left (by rw [hlen]; exact hkl), List.getElem?_map] at hk
          cases e : (paths l)[k]? with
          | none => simp [e] at hk
          | some q' => simp [e] at hk; exact Or.inr (Or.inl ⟨k, q', rfl, hk.symm, e⟩)
        · rw [List.getElem?_append_right (by rw [hlen]; omega), List.getElem?_map, hlen] at hk
          cases e : (paths r)[k - sz l]? with
          | none => simp [e] at hk
          | some q' => simp [e] at hk; exact Or.inr (Or.inr ⟨k - sz l, q', by omega, hk.symm, e⟩)
    have w0 : ∀ (u : T) (q : Nat), 0 < q → u ≠ .nil → way u q = (q : Int) := fun u q _ hu => way_ne hu
    rcases hsub j p h with ⟨rfl, rfl⟩ | ⟨j', p', rfl, rfl, hj'⟩ | ⟨j', p', rfl, rfl, hj'⟩
    · refine ⟨hd s l r o, rfl, rfl, rfl, fun b => ?_⟩
      cases b
      · refine ⟨fun k hk => ?_, fun hn => ?_⟩
        · rcases hsub k _ hk with ⟨_, e⟩ | ⟨k', q', rfl, e, hk'⟩ | ⟨_, _, _, e, _⟩
          · simp at e
          · simp only [List.nil_append, List.cons.injEq, true_and] at e
            subst e
            have : k' = 0 ∧ l ≠ .nil := by
              cases l with
              | nil => simp [paths] at hk'
              | nd s' a b =>
                refine ⟨?_, by simp⟩
                cases k' with
                | zero => rfl
                | succ k' =>
                  exfalso
                  simp only [paths, List.getElem?_cons_succ] at hk'
                  have := List.mem_of_getElem? hk'
                  simp at this
            obtain ⟨rfl, hl⟩ := this
            show way l (o + 1) = _
            rw [way_ne hl]
          · simp at e
        · show way l (o + 1) = 0
          cases l with
          | nil => rfl
          | nd _ _ _ => exact absurd trivial hn
      · refine ⟨fun k hk => ?_, fun hn => ?_⟩
        · rcases hsub k _ hk with ⟨_, e⟩ | ⟨_, _, _, e, _⟩ | ⟨k', q', rfl, e, hk'⟩
          · simp at e
          · simp at e
          · simp only [List.nil_append, List.cons.injEq, true_and] at e
            subst e
            have : k' = 0 ∧ r ≠ .nil := by
              cases r with
              | nil => simp [paths] at hk'
              | nd s' a b =>
                refine ⟨?_, by simp⟩
                cases k' with
                | zero => rfl
                | succ k' =>
                  exfalso
                  simp only [paths, List.getElem?_cons_succ] at hk'
                  have := List.mem_of_getElem? hk'
                  simp at this
            obtain ⟨rfl, hr⟩ := this
            show way r (o + 1 + sz l) = _
            rw [way_ne hr]; congr 1; omega
        · show way r (o + 1 + sz l) = 0
          cases r with
          | nil => rfl
          | nd _ _ _ => exact absurd trivial hn
    · obtain ⟨x, hx, h1, h2, h3⟩ := ihl (o + 1) j' p' hj'
      have hjl : j' < sz l := by have := (List.getElem?_eq_some_iff.1 hj').1; rwa [paths_length] at this
      refine ⟨x, ?_, h1, h2, fun b => ⟨fun k hk => ?_, fun hn => (h3 b).2 hn⟩⟩
      · simp only [lay, List.getElem?_cons_succ]
        rw [List.getElem?_append_left (by rw [hlenl]; exact hjl)]; exact hx
      · rcases hsub k _ hk with ⟨_, e⟩ | ⟨k', q', rfl, e, hk'⟩ | ⟨_, _, _, e, _⟩
        · simp at e
        · simp only [List.cons_append, List.cons.injEq, true_and] at e
          subst e
          rw [(h3 b).1 k' hk']; congr 1; omega
        · simp at e
    · obtain ⟨x, hx, h1, h2, h3⟩ := ihr (o + 1 + sz l) j' p' hj'
      refine ⟨x, ?_, h1, h2, fun b => ⟨fun k hk => ?_, fun hn => (h3 b).2 hn⟩⟩
      · have e : j' + 1 + sz l = (j' + sz l) + 1 := by omega
        rw [e]
        simp only [lay, List.getElem?_cons_succ]
        rw [List.getElem?_append_right (by rw [hlenl]; omega), hlenl, Nat.add_sub_cancel]; exact hx
      · rcases hsub k _ hk with ⟨_, e⟩ | ⟨_, _, _, e, _⟩ | ⟨k', q', rfl, e, hk'⟩
        · simp at e
        · simp at e
        · simp only [List.cons_append, List.cons.injEq, true_and] at e
          subst e
          rw [(h3 b).1 k' hk']; congr 1; omega
end Go.Proofs.Ytiddpkppfpdfhaa.pf
