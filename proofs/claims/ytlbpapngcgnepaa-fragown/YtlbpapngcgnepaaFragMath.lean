/- The pieces of a packet: plain mathematics: what they have together, how large each is, where it stands. -/
import Derived.Test.YtlbpapngcgnepaaFragBase
import Derived.Test.YtlbpapngcgnepaaIpMath
namespace Go.Proofs.Ytlbpapngcgnepaa.frm
open Go.ChangeShapes Go.WideShapes Go.ChangeAt Go.RowKit
open Go.Proofs.Ytlbpapngcgnepaa.ipb Go.Proofs.Ytlbpapngcgnepaa.boxes Go.Proofs.Ytlbpapngcgnepaa.frb
open Go.Proofs.Ytlbpapngcgnepaa.ipm (bytes_ext ext_list)

/-- all data, joined -/
def jn (l : List Pk) : List UInt8 := l.flatMap fun p => p.d.data.toList
theorem jn_append (a b : List Pk) : jn (a ++ b) = jn a ++ jn b := by simp [jn]
theorem jn_cons (p : Pk) (l : List Pk) : jn (p :: l) = p.d.data.toList ++ jn l := rfl
theorem pc_d (p : Pk) (z k : Nat) : (pc p z k).d.data.toList = (p.d.data.toList.take (k * z + z)).drop (k * z) := by
  unfold pc
  simp only
  rw [ext_list]
  have hs : p.d.data.toList.length = p.d.size := by simp
  congr 1
  by_cases h : k * z + z ≤ p.d.size
  · rw [Nat.min_eq_left h]
  · rw [Nat.min_eq_right (by omega), List.take_of_length_le (by omega), List.take_of_length_le (by omega)]
theorem jn_range (p : Pk) (z k : Nat) : jn ((List.range k).map (pc p z)) = p.d.data.toList.take (k * z) := by
  induction k with
  | zero => simp [jn]
  | succ k ih =>
    rw [List.range_succ, List.map_append, jn_append, ih]
    have e : jn (List.map (pc p z) [k]) = (pc p z k).d.data.toList := by simp [jn]
    rw [e, pc_d, Nat.add_mul, Nat.one_mul]
    generalize p.d.data.toList = l
    have e2 := List.take_append_drop (k * z) (l.take (k * z + z))
    rw [List.take_take, Nat.min_eq_left (by omega)] at e2
    exact e2
theorem npc_mul {z n : Nat} (hz : 0 < z) : n ≤ npc z n * z := by
  by_cases h : npc z n * z < n
  · have := (npc_lt (n := n) hz).2 h; omega
  · omega
theorem jn_pcs (p : Pk) (z : Nat) (hz : 0 < z) : jn (pcs p z) = p.d.data.toList := by
  unfold pcs
  rw [jn_range]
  exact List.take_of_length_le (by have := npc_mul (n := p.d.size) hz; simpa using this)
theorem npc_le {z n : Nat} (hz : 0 < z) : npc z n ≤ n := by
  by_cases h : n < npc z n
  · have := (npc_lt (n := n) hz).1 h
    have h2 : n ≤ n * z := Nat.le_mul_of_pos_right n hz
    omega
  · omega
/-- what holds where a packet can be split -/
structure Spl (p : Pk) (m : Int) : Prop where
  ok : p.Ok
  m0 : 68 ≤ m
  m1 : m ≤ 65535
  cut : ¬ (Pk.sz p : Int) ≤ m → p.wh = false ∧ 8 * p.st + p.d.size ≤ 65515 ∧ 8 ≤ each p m ∧ (20 + p.o.size : Nat) + (each p m : Int) ≤ m ∧ 0 < p.d.size
theorem spl_ok {p : Pk} {m : Int} (h : spe p m = 0) : Spl p m := by
  unfold spe at h
  split at h
  · exact absurd h (by assumption)
  · rename_i he
    have hok := Pk.ok (p := p) (by omega)
    split at h
    · omega
    · rename_i hm
      refine ⟨hok, by omega, by omega, fun hs => ?_⟩
      rw [if_neg hs] at h
      split at h
      · omega
      · rename_i hw
        split at h
        · omega
        · have o1 := hok.o1
          have o4 := hok.o4
          refine ⟨by simpa using hw, by omega, ?_, ?_, ?_⟩
          · unfold each; omega
          · unfold each; omega
          · unfold Pk.sz at hs; omega
theorem jn_spl {p : Pk} {m : Int} (h : spe p m = 0) : jn (spl p m) = p.d.data.toList := by
  unfold spl
  rw [if_neg (by omega)]
  split
  · simp [jn]
  · rename_i hs
    have := (spl_ok h).cut hs
    exact jn_pcs p _ (by omega)
theorem spl_len {p : Pk} {m : Int} (h : spe p m = 0) : 0 < (spl p m).length ∧ (spl p m).length ≤ p.d.size + 1 := by
  unfold spl
  rw [if_neg (by omega)]
  split
  · simp
  · rename_i hs
    have := (spl_ok h).cut hs
    have hz : 0 < each p m := by omega
    have h1 := npc_le (n := p.d.size) hz
    have h2 := npc_mul (n := p.d.size) hz
    have h3 : 0 < npc (each p m) p.d.size := by
      by_cases h0 : npc (each p m) p.d.size = 0
      · rw [h0] at h2; omega
      · omega
    simp [pcs]; omega
/-- what holds of each piece -/
structure Piece (p : Pk) (m : Int) (i : Nat) (q : Pk) : Prop where
  ok : q.Ok
  sz : (Pk.sz q : Int) ≤ m
  wh : q.wh = p.wh
  st : 8 * q.st = 8 * p.st + (jn ((spl p m).take i)).length
  fr : q.fr = p.fr
  to : q.to = p.to
theorem piece_of {p : Pk} {m : Int} (h : spe p m = 0) {i : Nat} {q : Pk} (hq : (spl p m)[i]? = some q) : Piece p m i q := by
  have hs := spl_ok h
  have hok := hs.ok
  have hx : spl p m = if (Pk.sz p : Int) ≤ m then [p] else pcs p (each p m) := by unfold spl; rw [if_neg (by omega)]
  by_cases hz : (Pk.sz p : Int) ≤ m
  · rw [if_pos hz] at hx
    rw [hx] at hq
    match i, hq with
    | 0, hq =>
      simp at hq; subst hq
      exact ⟨hok, hz, rfl, by simp [jn], rfl, rfl⟩
    | i + 1, hq => simp at hq
  · rw [if_neg hz] at hx
    obtain ⟨c1, c2, c3, c4, c5⟩ := hs.cut hz
    have hi : i < npc (each p m) p.d.size ∧ q = pc p (each p m) i := by
      rw [hx] at hq
      unfold pcs at hq
      rw [List.getElem?_map, Option.map_eq_some_iff] at hq
      obtain ⟨j, hj, rfl⟩ := hq
      have := List.getElem?_eq_some_iff.1 hj
      obtain ⟨h1, h2⟩ := this
      simp at h1 h2
      exact ⟨h1, by rw [h2]⟩
    obtain ⟨hi, rfl⟩ := hi
    have hlt := (npc_lt (n := p.d.size) (show 0 < each p m by omega)).1 hi
    have e8 : each p m % 8 = 0 := by unfold each; omega
    have a8 : i * each p m % 8 = 0 := by rw [Nat.mul_mod, e8]; simp
    have hst : 8 * (pc p (each p m) i).st = 8 * p.st + ((i * each p m : Nat) : Int) := by
      show 8 * (p.st + ((i * each p m / 8 : Nat) : Int)) = _
      omega
    have hd : (pc p (each p m) i).d.size ≤ each p m := by
      show (p.d.extract _ _).size ≤ _
      rw [ByteArray.size_extract]; omega
    have ho : (pc p (each p m) i).o = p.o := rfl
    have hdd : (pc p (each p m) i).d.size ≤ p.d.size := by
      show (p.d.extract _ _).size ≤ _
      rw [ByteArray.size_extract]; omega
    refine ⟨⟨hok.tos0, hok.tos1, hok.li0, hok.li1, hok.pr0, hok.pr1, hok.id0, hok.id1, ?_, ?_, hok.o1, hok.o4, ?_, ?_⟩, ?_, rfl, ?_, rfl, rfl⟩
    · have := hok.st0; omega
    · omega
    · intro hw
      have : p.wh = true := hw
      rw [c1] at this; cases this
    · have := hok.all; rw [ho]; omega
    · show ((20 + (pc p (each p m) i).o.size + (pc p (each p m) i).d.size : Nat) : Int) ≤ m
      rw [ho]; omega
    · rw [hst, hx]
      unfold pcs
      have e : (List.map (pc p (each p m)) (List.range (npc (each p m) p.d.size))).take i = (List.range i).map (pc p (each p m)) := by
        rw [← List.map_take, List.take_range, Nat.min_eq_left (by omega)]
      rw [e, jn_range, List.length_take]
      have : p.d.data.toList.length = p.d.size := by simp
      omega
theorem last_mo {p : Pk} {m : Int} (h : spe p m = 0) : ∃ q, (spl p m)[(spl p m).length - 1]? = some q ∧ q.mo = p.mo := by
  have hs := spl_ok h
  have hx : spl p m = if (Pk.sz p : Int) ≤ m then [p] else pcs p (each p m) := by unfold spl; rw [if_neg (by omega)]
  have hl := spl_len h
  by_cases hz : (Pk.sz p : Int) ≤ m
  · rw [if_pos hz] at hx
    rw [hx]
    exact ⟨p, by simp, rfl⟩
  · rw [if_neg hz] at hx
    obtain ⟨c1, c2, c3, c4, c5⟩ := hs.cut hz
    have hn : (spl p m).length = npc (each p m) p.d.size := by rw [hx]; simp [pcs]
    rw [hn] at hl ⊢
    refine ⟨pc p (each p m) (npc (each p m) p.d.size - 1), ?_, ?_⟩
    · rw [hx]
      unfold pcs
      rw [List.getElem?_map, List.getElem?_range (by omega)]; rfl
    · show (p.mo || decide _) = p.mo
      rw [decide_eq_false, Bool.or_false]
      have h2 := npc_mul (n := p.d.size) (show 0 < each p m by omega)
      have : (npc (each p m) p.d.size - 1) * each p m + each p m = npc (each p m) p.d.size * each p m := by
        obtain ⟨t, ht⟩ : ∃ t, npc (each p m) p.d.size = t + 1 := ⟨npc (each p m) p.d.size - 1, by omega⟩
        rw [ht, Nat.add_mul]; simp
      omega
end Go.Proofs.Ytlbpapngcgnepaa.frm
