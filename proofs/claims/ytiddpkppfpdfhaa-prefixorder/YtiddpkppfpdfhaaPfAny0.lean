/- Put and Remove, as one contract each; custkeep.prefixLives. -/
import Derived.Test.YtiddpkppfpdfhaaPfFind
import Derived.Test.YtiddpkppfpdfhaaPfAll2
import Derived.Test.YtiddpkppfpdfhaaPfSame
import Derived.Test.YtiddpkppfpdfhaaPfMath5
namespace Go.Proofs.Ytiddpkppfpdfhaa.pf
open Go.ChangeShapes Go.WideShapes Go.ChangeAt Go.RowKit Go.BigFrame
open Go.Proofs.Ytiddpkppfpdfhaa Go.Proofs.Ytiddpkppfpdfhaa.pm Go.Proofs.Ytiddpkppfpdfhaa.boxes Go.Proofs.Ytiddpkppfpdfhaa.rwr Go.Proofs.Ytiddpkppfpdfhaa.rwat
open Go.Proofs.Ytiddpkppfpdfhaa.rws (Knd Own)

theorem put_full (v : Value) (ns : List Nd) (a : Nat) (l val : Int) (w : World) (h : Rd DK w v ns) (ha : a < 4294967296) :
    Calls Try.prog 9 #[.agg (TC v), .agg (NC a l), .int .i64 val] w fun e w' => ∃ v', e = .returned (.tuple #[.agg (TC v'), .int .i64 (putE ns a l val)]) ∧ FO w' w.heap.size v' (putL ns a l val) ∧ Below w.heap.size w w' := by
  by_cases hy : chk ns 2 4 = 0 ∧ isN a l = true
  · have hr := chk0 hy.1
    obtain ⟨h1, h2, h3⟩ := isN_yes hy.2 ha
    have hp := put_of hr h1 val
    rw [← h2, ← h3] at hp
    have hc := put_yesF v (tree ns) (path a l) val w (by rw [← hr.2.2.1]; exact h) hr.fine h1
    rw [← h2, ← h3] at hc
    rw [hp.1, hp.2]
    exact hc
  · refine (put_no v ns a l val w h ha hy).mono ?_
    rintro e w' ⟨rfl, b⟩
    have hE : putE ns a l val = if chk ns 2 4 = 0 then 1 else chk ns 2 4 := by
      unfold putE
      by_cases hc : chk ns 2 4 = 0
      · have hn : isN a l = false := by
          cases e : isN a l
          · rfl
          · exact absurd ⟨hc, e⟩ hy
        rw [if_pos hc, if_neg (by rw [hc]; decide), if_pos hn]
      · rw [if_neg hc, if_pos hc]
    have hne : putE ns a l val ≠ 0 := by
      rw [hE]; split
      · decide
      · assumption
    have hL : putL ns a l val = [] := by unfold putL; rw [if_neg hne]
    rw [hL, hE]
    exact ⟨_, rfl, FO.nil _ _, b⟩
theorem rem_full (v : Value) (ns : List Nd) (a : Nat) (l : Int) (w : World) (h : Rd DK w v ns) :
    Calls Try.prog 11 #[.agg (TC v), .agg (NC a l)] w fun e w' => ∃ v', e = .returned (.tuple #[.agg (TC v'), .int .i64 (remE ns a l)]) ∧ FO w' w.heap.size v' (remL ns a l) ∧ Below w.heap.size w w' := by
  by_cases hc : chk ns 2 4 = 0
  · have hr := chk0 hc
    have hE : remE ns a l = eV ((rows (tree ns)).any fun x => same a l x.1) := by unfold remE eV; rw [if_neg (by rw [hc]; decide)]
    have hL : remL ns a l = if (rows (tree ns)).any (fun x => same a l x.1) then lay 0 (rmv (tree ns) a l) else [] := by
      unfold remL; rw [hE]; unfold eV; split <;> simp
    rw [hE, hL]
    exact rem_yes v (tree ns) a l w (by rw [← hr.2.2.1]; exact h) hr.fine
  · have hE : remE ns a l = chk ns 2 4 := by unfold remE; rw [if_pos hc]
    have hL : remL ns a l = [] := by unfold remL; rw [hE, if_neg hc]
    rw [hE, hL]
    refine (rem_no v ns a l w h hc).mono ?_
    rintro e w' ⟨rfl, b⟩
    exact ⟨_, rfl, FO.nil _ _, b⟩
theorem put_any (v : Value) (ns : List Nd) (a : Nat) (l val : Int) (w : World) (h : Rd DK w v ns) (ha : a < 4294967296) :
    Calls Try.prog 9 #[.agg (TC v), .agg (NC a l), .int .i64 val] w fun e w' => ∃ v', e = .returned (.tuple #[.agg (TC v'), .int .i64 (putE ns a l val)]) ∧ Own DK w' w.heap.size v' (putL ns a l val) ∧ Below w.heap.size w w' := by
  refine (put_full v ns a l val w h ha).mono ?_
  rintro e w' ⟨v', rfl, O, b⟩
  exact ⟨v', rfl, O.1, b⟩
theorem rem_any (v : Value) (ns : List Nd) (a : Nat) (l : Int) (w : World) (h : Rd DK w v ns) :
    Calls Try.prog 11 #[.agg (TC v), .agg (NC a l)] w fun e w' => ∃ v', e = .returned (.tuple #[.agg (TC v'), .int .i64 (remE ns a l)]) ∧ Own DK w' w.heap.size v' (remL ns a l) ∧ Below w.heap.size w w' := by
  refine (rem_full v ns a l w h).mono ?_
  rintro e w' ⟨v', rfl, O, b⟩
  exact ⟨v', rfl, O.1, b⟩
theorem find_any (v : Value) (ns : List Nd) (c : Nat) (w : World) (h : Rd DK w v ns) (hcb : c < 4294967296) :
    Calls Try.prog 16 #[.agg (TC v), .int .u32 (c : Int)] w fun e w' => e = .returned (.tuple #[.agg (NC (fA (findR ns c)) (fL (findR ns c))), .int .i64 (fV (findR ns c)), .int .i64 (findE ns c)]) ∧ Below w.heap.size w w' := by
  by_cases hc : chk ns 2 4 = 0
  · have hr := chk0 hc
    have hR : findR ns c = fnd c (rows (tree ns)) := by unfold findR; rw [if_neg (by rw [hc]; decide)]
    have hE : findE ns c = fE (fnd c (rows (tree ns))) := by
      unfold findE; rw [if_neg (by rw [hc]; decide), hR]
      cases fnd c (rows (tree ns)) <;> rfl
    rw [hR, hE]
    exact find_yes v (tree ns) c w (by rw [← hr.2.2.1]; exact h) hr.fine hcb
  · have hR : findR ns c = none := by unfold findR; rw [if_pos hc]
    have hE : findE ns c = chk ns 2 4 := by unfold findE; rw [if_pos hc]
    rw [hR, hE]
    exact find_no v ns c w h hc
theorem all_any (v : Value) (ns : List Nd) (w : World) (h : Rd DK w v ns) :
    Calls Try.prog 18 #[.agg (TC v)] w fun e w' => ∃ v1 v2, e = .returned (.tuple #[v1, v2, .int .i64 (chk ns 2 4)]) ∧ Own TK w' w.heap.size v1 (netsOf (allR ns)) ∧ Own NK w' w.heap.size v2 (valsOf (allR ns)) ∧ Below w.heap.size w w' := by
  by_cases hc : chk ns 2 4 = 0
  · have hr := chk0 hc
    have hR : allR ns = rows (tree ns) := by unfold allR; rw [if_neg (by rw [hc]; decide)]
    rw [hR, hc]
    exact all_yes v (tree ns) w (by rw [← hr.2.2.1]; exact h) hr.fine
  · have hR : allR ns = [] := by unfold allR; rw [if_pos hc]
    rw [hR]
    refine (all_no v ns w h hc).mono ?_
    rintro e w' ⟨rfl, b⟩
    exact ⟨_, _, rfl, Own.nil _ _ _, Own.nil _ _ _, b⟩
/- one net in another -/
def p8 : Pth := [false, false, false, false, true, false, true, false]
def p16 : Pth := [false, false, false, false, true, false, true, false, false, false, false, false, false, false, false, true]
def t1 : T := ins .nil p8 1
def t2 : T := ins t1 p16 2
theorem fine1 : Fine t1 := ⟨wf_ins _ _ _ trivial, by decide, by decide⟩
theorem fine2 : Fine t2 := ⟨wf_ins _ _ _ (wf_ins _ _ _ trivial), by decide, by decide⟩
theorem a8 : ad 32 p8 = 167772160 := by decide
theorem a16 : ad 32 p16 = 167837696 := by decide
theorem s1 : sz t1 = 9 := by decide
theorem s2 : sz t2 = 17 := by decide
theorem rows2 : rows t2 = [(p8, 1), (p16, 2)] := by decide
theorem f1 : fnd 167838211 (rows t2) = some (p16, 2) := by rw [rows2]; decide
theorem f2 : fnd 167903747 (rows t2) = some (p8, 1) := by rw [rows2]; decide
end Go.Proofs.Ytiddpkppfpdfhaa.pf
