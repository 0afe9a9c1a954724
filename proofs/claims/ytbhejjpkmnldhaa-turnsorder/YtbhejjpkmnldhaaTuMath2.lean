/- Many rounds of queues: what has gone of each, the laws on that. -/
import Derived.Test.YtbhejjpkmnldhaaTuMath
namespace Go.Proofs.Ytbhejjpkmnldhaa.tu

def it : Nat → Qu → Qu
  | 0, q => q
  | t + 1, q => rq (it t q)
def gn : Nat → Qu → List Int
  | 0, _ => []
  | t + 1, q => gn t q ++ sq (it t q)
def rr (t : Nat) (L : List Qu) : List Qu := L.map (it t)
def sm (t : Nat) (q : Qu) : Int := (gn t q).sum
def fl (t : Nat) (q : Qu) : Bool := decide (0 < (it t q).l.length)
theorem gn_it (q : Qu) : ∀ t, gn t q ++ (it t q).l = q.l
  | 0 => rfl
  | t + 1 => by
    have := gn_it q t
    show (gn t q ++ (it t q).l.take (many (it t q))) ++ (it t q).l.drop (many (it t q)) = q.l
    rw [List.append_assoc, List.take_append_drop, this]
theorem it_fine {q : Qu} (h : Fine q) : ∀ t, Fine (it t q)
  | 0 => h
  | t + 1 => fine_rq (it_fine h t)
theorem it_sh (q : Qu) : ∀ t, (it t q).sh = q.sh
  | 0 => rfl
  | t + 1 => it_sh q t
theorem rr_zero (L : List Qu) : rr 0 L = L := by
  unfold rr
  have : it 0 = id := rfl
  rw [this, List.map_id]
theorem rr_succ (t : Nat) (L : List Qu) : rr (t + 1) L = rnd (rr t L) := by
  unfold rr rnd
  rw [List.map_map]
  rfl
theorem rr_len (t : Nat) (L : List Qu) : (rr t L).length = L.length := List.length_map _
theorem chk_rr {L : List Qu} (h : chk L = 0) : ∀ t, chk (rr t L) = 0
  | 0 => by rw [rr_zero]; exact h
  | t + 1 => by rw [rr_succ]; exact chk_rnd (chk_rr h t)
theorem fl_zero (q : Qu) : fl 0 q = decide (0 < q.l.length) := rfl
theorem it_pos {q : Qu} {t : Nat} (h : 0 < (it (t + 1) q).l.length) : 0 < (it t q).l.length := by
  have e : (it (t + 1) q).l = (it t q).l.drop (many (it t q)) := rfl
  rw [e, List.length_drop] at h
  omega
theorem fl_succ (t : Nat) (q : Qu) : fl (t + 1) q = (fl t q && decide (0 < (it (t + 1) q).l.length)) := by
  unfold fl
  by_cases h : 0 < (it (t + 1) q).l.length
  · rw [decide_eq_true h, decide_eq_true (it_pos h)]; rfl
  · rw [decide_eq_false h, Bool.and_false]
theorem sum_bound : ∀ (l : List Int), (∀ n ∈ l, 1 ≤ n ∧ n ≤ 1000000) → (l.length : Int) ≤ l.sum ∧ l.sum ≤ 1000000 * (l.length : Int)
  | [], _ => by simp
  | x :: r, h => by
    obtain ⟨a, b⟩ := sum_bound r fun n hn => h n (by simp [hn])
    obtain ⟨c, d⟩ := h x (by simp)
    rw [List.sum_cons, List.length_cons]
    omega
theorem gn_mem {q : Qu} (t : Nat) {n : Int} (h : n ∈ gn t q) : n ∈ q.l := by
  rw [← gn_it q t]; exact List.mem_append_left _ h
theorem gn_len (q : Qu) (t : Nat) : (gn t q).length ≤ q.l.length := by
  have := congrArg List.length (gn_it q t)
  rw [List.length_append] at this
  omega
theorem sm_bound {q : Qu} (h : Fine q) (t : Nat) : 0 ≤ sm t q ∧ sm t q ≤ 200000000 := by
  obtain ⟨a, b⟩ := sum_bound (gn t q) fun n hn => h.sz n (gn_mem t hn)
  have c := gn_len q t
  have d := h.len
  unfold sm
  omega
theorem sm_full {q : Qu} (h : Fine q) : ∀ t, (it t q).l ≠ [] → sm t q = (t : Int) * q.sh + q.sv - (it t q).sv
  | 0, _ => by
    show (0 : Int) = _
    simp [it]
  | t + 1, hn => by
    have hp : (it t q).l ≠ [] := fun e => hn (by
      have e2 : (it (t + 1) q).l = (it t q).l.drop (many (it t q)) := rfl
      rw [e2, e, List.drop_nil])
    have ih := sm_full h t hp
    have f := it_fine h t
    obtain ⟨_, _, _, d⟩ := lf_at (it t q).l ((it t q).sv + (it t q).sh) (by have := f.sv0; have := f.sh0; omega)
    have d2 := d hn
    have e1 : sm (t + 1) q = sm t q + (sq (it t q)).sum := by
      show (gn t q ++ sq (it t q)).sum = _
      rw [List.sum_append]
      rfl
    have e2 : (sq (it t q)).sum + (it (t + 1) q).sv = (it t q).sv + (it t q).sh := d2
    rw [it_sh] at e2
    have e3 : ((t + 1 : Nat) : Int) * q.sh = (t : Int) * q.sh + q.sh := by
      rw [Int.natCast_add, Int.add_mul]
      simp
    rw [e1, ih, e3]
    omega
theorem fl_ne {t : Nat} {q : Qu} (h : fl t q = true) : (it t q).l ≠ [] := fun e => by
  unfold fl at h
  rw [e] at h
  simp at h
theorem off_bound {d e m s r : Int} (h1 : d < m) (h2 : -m < d) (h3 : e < m) (h4 : -m < e) (hs : 1 ≤ s) (hr : 1 ≤ r) : d * r - e * s < m * (s + r) ∧ -(d * r - e * s) < m * (s + r) := by
  have a1 : d * r ≤ (m - 1) * r := Int.mul_le_mul_of_nonneg_right (by omega) (by omega)
  have a2 : -(m - 1) * r ≤ d * r := Int.mul_le_mul_of_nonneg_right (by omega) (by omega)
  have a3 : e * s ≤ (m - 1) * s := Int.mul_le_mul_of_nonneg_right (by omega) (by omega)
  have a4 : -(m - 1) * s ≤ e * s := Int.mul_le_mul_of_nonneg_right (by omega) (by omega)
  have b1 : (m - 1) * r = m * r - r := by rw [Int.sub_mul, Int.one_mul]
  have b2 : (m - 1) * s = m * s - s := by rw [Int.sub_mul, Int.one_mul]
  have b3 : -(m - 1) * r = -(m * r - r) := by rw [Int.neg_mul, b1]
  have b4 : -(m - 1) * s = -(m * s - s) := by rw [Int.neg_mul, b2]
  rw [b1] at a1
  rw [b3] at a2
  rw [b2] at a3
  rw [b4] at a4
  rw [Int.mul_add]
  omega
theorem fair_fact {p q : Qu} (hp : Fine p) (hq : Fine q) {t : Nat} (fp : fl t p = true) (fq : fl t q = true) {m : Int} (mp : ∀ n ∈ p.l, n ≤ m) (mq : ∀ n ∈ q.l, n ≤ m) : sm t p * q.sh - sm t q * p.sh < m * (p.sh + q.sh) ∧ -(sm t p * q.sh - sm t q * p.sh) < m * (p.sh + q.sh) := by
  have key : ∀ {x : Qu}, Fine x → fl t x = true → (∀ n ∈ x.l, n ≤ m) → x.sv - (it t x).sv < m ∧ -m < x.sv - (it t x).sv := by
    intro x hx fx mx
    have f := it_fine hx t
    have n0 := fl_ne fx
    obtain ⟨y, r, e⟩ := List.exists_cons_of_ne_nil n0
    have h1 := f.hd y r e
    have h2 := f.sv0
    have hy : y ∈ x.l := by rw [← gn_it x t, e]; simp
    have h3 := mx y hy
    cases ex : x.l with
    | nil => rw [ex] at hy; simp at hy
    | cons z s =>
      have h4 := hx.hd z s ex
      have h5 := mx z (by rw [ex]; simp)
      have h6 := hx.sv0
      omega
  obtain ⟨a, b⟩ := key hp fp mp
  obtain ⟨c, d⟩ := key hq fq mq
  have e : sm t p * q.sh - sm t q * p.sh = (p.sv - (it t p).sv) * q.sh - (q.sv - (it t q).sv) * p.sh := by
    rw [sm_full hp t (fl_ne fp), sm_full hq t (fl_ne fq)]
    have e1 : (t : Int) * p.sh + p.sv - (it t p).sv = (t : Int) * p.sh + (p.sv - (it t p).sv) := by omega
    have e2 : (t : Int) * q.sh + q.sv - (it t q).sv = (t : Int) * q.sh + (q.sv - (it t q).sv) := by omega
    rw [e1, e2, Int.add_mul, Int.add_mul, Int.mul_assoc, Int.mul_assoc, Int.mul_comm q.sh p.sh]
    omega
  rw [e]
  exact off_bound a b c d hp.sh0 hq.sh0
theorem served_fact {q : Qu} (h : Fine q) {x : Int} {r : List Int} (e : q.l = x :: r) (n : Nat) (hn : (x - q.sv + q.sh - 1).tdiv q.sh ≤ (n : Int)) : sm n q ≠ 0 := fun h0 => by
  obtain ⟨a, _⟩ := sum_bound (gn n q) fun m hm => h.sz m (gn_mem n hm)
  have hg : gn n q = [] := List.eq_nil_of_length_eq_zero (by unfold sm at h0; omega)
  have hi : (it n q).l = x :: r := by
    have := gn_it q n
    rwa [hg, List.nil_append, e] at this
  have h1 := sm_full h n (by rw [hi]; simp)
  have h2 := (it_fine h n).hd x r hi
  have h3 := h.hd x r e
  have h4 := h.sh0
  rw [Int.tdiv_eq_ediv_of_nonneg (by omega)] at hn
  have h5 := Int.lt_ediv_add_one_mul_self (x - q.sv + q.sh - 1) (show 0 < q.sh by omega)
  have h6 : ((x - q.sv + q.sh - 1) / q.sh + 1) * q.sh ≤ ((n : Int) + 1) * q.sh := Int.mul_le_mul_of_nonneg_right (by omega) (by omega)
  have h7 : ((n : Int) + 1) * q.sh = (n : Int) * q.sh + q.sh := by rw [Int.add_mul, Int.one_mul]
  rw [h7] at h6
  omega

/-- one more at its place -/
def stp {α : Type} (f : α → Int → α) (S : List α) (p : Sn) : List α := S.modify p.i (fun c => f c p.n)
theorem modify_at {α : Type} (g : α → α) (c : α) (S : List α) : ∀ (P : List α), (P ++ c :: S).modify P.length g = P ++ g c :: S
  | [] => rfl
  | x :: P => by
    show (x :: (P ++ c :: S)).modify (P.length + 1) g = x :: (P ++ g c :: S)
    rw [List.modify_succ_cons, modify_at g c S P]
theorem fold_one {α : Type} (f : α → Int → α) (P S : List α) : ∀ (l : List Int) (c : α), (l.map (Sn.mk P.length)).foldl (stp f) (P ++ c :: S) = P ++ (l.foldl f c) :: S
  | [], _ => rfl
  | n :: l, c => by
    show (l.map (Sn.mk P.length)).foldl (stp f) (stp f (P ++ c :: S) ⟨P.length, n⟩) = _
    unfold stp
    rw [modify_at]
    exact fold_one f P S l (f c n)
theorem fold_sfr {α : Type} (f : α → Int → α) : ∀ (L : List Qu) (P S : List α), S.length = L.length → (sfr P.length L).foldl (stp f) (P ++ S) = P ++ List.zipWith (fun c q => (sq q).foldl f c) S L
  | [], P, S, h => by
    have : S = [] := List.eq_nil_of_length_eq_zero h
    subst this
    rfl
  | q :: L, P, [], h => by simp at h
  | q :: L, P, c :: S, h => by
    show ((sq q).map (Sn.mk P.length) ++ sfr (P.length + 1) L).foldl (stp f) (P ++ c :: S) = P ++ (((sq q).foldl f c) :: List.zipWith (fun c q => (sq q).foldl f c) S L)
    rw [List.foldl_append, fold_one]
    have e := fold_sfr f L (P ++ [(sq q).foldl f c]) S (by simpa using h)
    rw [List.length_append] at e
    simpa using e
theorem foldl_sum : ∀ (l : List Int) (c : Int), l.foldl (fun a b => a + b) c = c + l.sum
  | [], c => by simp
  | n :: l, c => by
    rw [List.foldl_cons, foldl_sum l, List.sum_cons]
    omega
theorem foldl_app : ∀ (l c : List Int), l.foldl (fun a b => a ++ [b]) c = c ++ l
  | [], c => by simp
  | n :: l, c => by
    rw [List.foldl_cons, foldl_app l]
    simp
theorem fold_sums (t : Nat) (L : List Qu) : (snt (rr t L)).foldl (stp fun a b => a + b) (L.map (sm t)) = L.map (sm (t + 1)) := by
  have h := fold_sfr (fun a b : Int => a + b) (rr t L) [] (L.map (sm t)) (by rw [List.length_map, rr_len])
  have h2 : (snt (rr t L)).foldl (stp fun a b => a + b) (L.map (sm t)) = List.zipWith (fun c q => (sq q).foldl (fun a b => a + b) c) (L.map (sm t)) (rr t L) := h
  rw [h2]
  unfold rr
  rw [List.zipWith_map, List.zipWith_self]
  refine List.map_congr_left fun q _ => ?_
  rw [foldl_sum]
  show (gn t q).sum + (sq (it t q)).sum = (gn t q ++ sq (it t q)).sum
  rw [List.sum_append]
theorem fold_rows (t : Nat) (L : List Qu) : (snt (rr t L)).foldl (stp fun a b => a ++ [b]) (L.map (gn t)) = L.map (gn (t + 1)) := by
  have h := fold_sfr (fun (a : List Int) (b : Int) => a ++ [b]) (rr t L) [] (L.map (gn t)) (by rw [List.length_map, rr_len])
  have h2 : (snt (rr t L)).foldl (stp fun a b => a ++ [b]) (L.map (gn t)) = List.zipWith (fun c q => (sq q).foldl (fun a b => a ++ [b]) c) (L.map (gn t)) (rr t L) := h
  rw [h2]
  unfold rr
  rw [List.zipWith_map, List.zipWith_self]
  refine List.map_congr_left fun q _ => ?_
  rw [foldl_app]
  rfl
theorem stp_len {α : Type} (f : α → Int → α) (S : List α) (p : Sn) : (stp f S p).length = S.length := by
  unfold stp; rw [List.length_modify]
theorem folds_len {α : Type} (f : α → Int → α) : ∀ (l : List Sn) (S : List α), (l.foldl (stp f) S).length = S.length
  | [], _ => rfl
  | p :: l, S => by rw [List.foldl_cons, folds_len f l, stp_len]
theorem fold_next {α : Type} (f : α → Int → α) {l : List Sn} {j : Nat} {p : Sn} (h : l[j]? = some p) (S : List α) : (l.take (j + 1)).foldl (stp f) S = stp f ((l.take j).foldl (stp f) S) p := by
  rw [List.take_add_one, h, List.foldl_append]
  rfl
theorem stp_at {α : Type} (f : α → Int → α) {S : List α} {p : Sn} {c : α} (h : S[p.i]? = some c) : stp f S p = S.set p.i (f c p.n) := by
  unfold stp
  obtain ⟨h1, rfl⟩ := List.getElem?_eq_some_iff.1 h
  refine List.ext_getElem (by simp) fun i a b => ?_
  rw [List.getElem_modify, List.getElem_set]
  by_cases e : p.i = i
  · subst e; simp
  · rw [if_neg e, if_neg e]
theorem fold_bound (M K : Int) : ∀ (l : List Sn), (∀ p ∈ l, 0 ≤ p.n ∧ p.n ≤ K) → ∀ S : List Int, (∀ c ∈ S, 0 ≤ c ∧ c ≤ M) → 0 ≤ K → ∀ c ∈ l.foldl (stp fun a b => a + b) S, 0 ≤ c ∧ c ≤ M + K * l.length
  | [], _, S, hS, _, c, hc => by
    obtain ⟨a, b⟩ := hS c hc
    simp; omega
  | p :: l, hl, S, hS, hK, c, hc => by
    rw [List.foldl_cons] at hc
    obtain ⟨h1, h2⟩ := hl p (by simp)
    have h := fold_bound (M + K) K l (fun q hq => hl q (by simp [hq])) _ (fun d hd => ?_) hK c hc
    · obtain ⟨a, b⟩ := h
      refine ⟨a, ?_⟩
      rw [List.length_cons, Int.natCast_add, Int.mul_add]
      simp
      omega
    · unfold stp at hd
      obtain ⟨i, hi, e⟩ := List.mem_iff_getElem.1 hd
      rw [List.getElem_modify] at e
      rw [List.length_modify] at hi
      have hm := hS _ (List.getElem_mem hi)
      by_cases hp : p.i = i
      · rw [if_pos hp] at e
        dsimp only at e
        omega
      · rw [if_neg hp] at e
        omega
end Go.Proofs.Ytbhejjpkmnldhaa.tu
