/- What custref.TextAddr and Hopped answer: the same as ip.Parse and ip.Hop. -/
import Derived.Test.YtedbjhpajpakpaaDoorIpNum
import Derived.Test.YtedbjhpajpakpaaDoorIpText3
import Derived.Test.YtedbjhpajpakpaaDoorIpParse
import Derived.Test.YtedbjhpajpakpaaDoorIpHopMath
import Derived.Test.YtedbjhpajpakpaaDoorClass
namespace Go.Proofs.YtedbjhpajpakpaaDoor.ipa
open Go.ChangeShapes Go.WideShapes Go.ChangeAt Go.RowKit Go.BigFrame
open Go.Proofs.YtedbjhpajpakpaaDoor Go.Proofs.YtedbjhpajpakpaaDoor.EM Go.Proofs.YtedbjhpajpakpaaDoor.ethb Go.Proofs.YtedbjhpajpakpaaDoor.SM Go.Proofs.YtedbjhpajpakpaaDoor.ipb Go.Proofs.YtedbjhpajpakpaaDoor.buf Go.Proofs.YtedbjhpajpakpaaDoor.boxes Go.Proofs.YtedbjhpajpakpaaDoor.ipi Go.Proofs.YtedbjhpajpakpaaDoor.ipw Go.Proofs.YtedbjhpajpakpaaDoor.ipr Go.Proofs.YtedbjhpajpakpaaDoor.ips Go.Proofs.YtedbjhpajpakpaaDoor.ipt Go.Proofs.YtedbjhpajpakpaaDoor.dotm Go.Proofs.YtedbjhpajpakpaaDoor.ipp Go.Proofs.YtedbjhpajpakpaaDoor.ipn Go.Proofs.YtedbjhpajpakpaaDoor.iph Go.Proofs.YtedbjhpajpakpaaDoor.iphm
open Go.Proofs.YtedbjhpajpakpaaDoor.refb (word_ref)
open Go.Proofs.YtedbjhpajpakpaaDoor.ipm (bytes_ext ext_list size_list red Red)
open Go.Proofs.YtedbjhpajpakpaaDoor.sumw (Qd)

theorem addr_other (s : ByteArray) (w : World) (hs : s.size < 4294967281) (hE : Env w) (h4 : ¬ (sp s.data.toList).length = 4) :
    Calls Tryd.prog 10 #[.string s] w fun e w' => e = .returned (.tuple #[.int .u32 0, .int .i64 10]) ∧ Below w.heap.size w w' := by
  obtain ⟨Q, hQ, CS⟩ := split_any s hs
  have hl : ((Q.length : Int) != 4) = true := by
    rw [← hQ, List.length_map] at h4
    simp; omega
  clear hQ h4
  go_enter Tryd.func10, Tryd.ntmps10
  go_wp2_with fail
  refine (CS _ hE).mono ?_
  rintro e w1 ⟨rfl, rfl⟩
  go_wp2_with fail
  go_ret2
  exact ⟨rfl, (Below.refl _ _).alloc (Nat.le_refl _) _⟩
set_option maxHeartbeats 4000000 in
theorem addr_four (s : ByteArray) (w : World) (hs : s.size < 4294967281) (hE : Env w) (h4 : (sp s.data.toList).length = 4) :
    Calls Tryd.prog 10 #[.string s] w fun e w' => (tok (sp s.data.toList) ∧ e = .returned (.tuple #[.int .u32 (av (sp s.data.toList) 4), .int .i64 0]) ∨ ¬ tok (sp s.data.toList) ∧ e = .returned (.tuple #[.int .u32 0, .int .i64 10])) ∧ Below w.heap.size w w' := by
  obtain ⟨Q, hQ, CS⟩ := split_any s hs
  have pl : ∀ p ∈ sp s.data.toList, p.length ≤ 281474976710656 := fun p hp => by
    have := piece_len s.data.toList p hp
    rw [size_list] at this; omega
  generalize sp s.data.toList = P at hQ h4 pl ⊢
  have q4 : Q.length = 4 := by rw [← hQ, List.length_map] at h4; exact h4
  rw [q4] at CS
  have HT : Hid (P.length = 4 ∧ Q.map (·.data.toList) = P ∧ ∀ p ∈ P, p.length ≤ 281474976710656) := ⟨h4, hQ, pl⟩
  have HQ4 : Hid (Q.length = 4) := q4
  clear hQ h4 pl q4
  have B0 := Blk.new w (Q.map Value.string).toArray 9
  have bel := (Below.refl w.heap.size w).alloc (Nat.le_refl _) (.cells (Q.map Value.string).toArray 9)
  go_enter Tryd.func10, Tryd.ntmps10
  go_wp2_with fail
  refine (CS _ hE).mono ?_
  rintro e w1 ⟨rfl, rfl⟩
  clear CS
  go_wp2_with fail
  go_loopw [5, 17] (fun a i wr => ∃ k : Nat, k ≤ 4 ∧ i = .int .i64 k ∧ a = .int .i64 (av P k) ∧ (∀ j, j < k → okp (P.getD j [])) ∧ Blk wr w.heap.size (Q.map Value.string).toArray 9 ∧ Below w.heap.size w wr) (fun _ i _ => 4 - (intOf i).toNat)
  case atStart => exact ⟨0, by omega, rfl, rfl, fun j hj => absurd hj (by omega), B0, bel⟩
  case round =>
    clear B0 bel
    obtain ⟨k, hk, rfl, rfl, ok, B, bel⟩ := hrel
    have ab := av_bd P k ok
    by_cases hlt : k < 4
    · have hki : (k : Int) < 4 := by omega
      have hq4 := HQ4.out
      have cell : wr.cell? ⟨w.heap.size, k, none⟩ = some (.string (Q.getD k ⟨#[]⟩)) := (B.cell k).trans (list_nth Q k (by omega))
      have hq := data_nth Q P HT.out.2.1 k (by omega)
      have qz : (Q.getD k ⟨#[]⟩).size ≤ 281474976710656 := by
        rw [← size_list, hq]
        have : P.getD k [] ∈ P := by
          rw [List.getD_eq_getElem?_getD, List.getElem?_eq_getElem (by rw [HT.out.1]; exact hlt)]
          exact List.getElem_mem _
        exact HT.out.2.2 _ this
      generalize Q.getD k ⟨#[]⟩ = q at cell hq qz
      have a24 : av P k < 16777216 := by
        have : (256 : Int) ^ k ≤ 256 ^ 3 := by
          have : k = 0 ∨ k = 1 ∨ k = 2 ∨ k = 3 := by omega
          rcases this with rfl | rfl | rfl | rfl <;> decide
        omega
      have a0 := ab.1
      have nt : Hid ((¬ okp (P.getD k [])) → ¬ tok P) := fun hn ht => hn (ht.2 k hlt)
      have st : Hid (okp (P.getD k []) → ∀ j, j < k + 1 → okp (P.getD j [])) := fun hn j hj => by
        by_cases e : j = k
        · rw [e]; exact hn
        · exact ok j (by omega)
      have sa : Hid (256 * av P k + vp (P.getD k []) = av P (k + 1)) := (rfl : _ = _)
      rw [← hq] at nt st sa
      have CR := fun u => readNum_any q u qz
      clear ab ok hq hq4
      go_wp2_with fail
      refine (CR _).mono ?_
      rintro e w2 ⟨⟨n, b, rfl, T⟩, rfl⟩
      clear CR
      by_cases g : b = true ∧ n ≤ 255
      · obtain ⟨rfl, n1⟩ := g
        have n0 := T.n0
        have o1 := T.back rfl n0 n1
        have o2 := (T.ok o1).2
        have ok' := st.out o1
        have sa' : Hid (256 * av P k + n = av P (k + 1)) := by show _ = _; rw [← sa.out, o2]
        have n1' : decide (255 < n) = false := by simp; omega
        clear T st nt sa o1 o2
        go_wp2_with fail
        go_roundw
        case rel => exact ⟨k + 1, by omega, by go_num, by rw [← sa'.out], ok', B, bel⟩
        case measure => simp [intOf]; omega
      · have nk : ¬ okp q.data.toList := fun hk => by
          obtain ⟨x, y⟩ := T.ok hk
          exact g ⟨x, by rw [y]; exact (vp_bd _ hk).2⟩
        have HN : Hid (¬ tok P) := nt.out nk
        clear nt st sa nk T
        cases b
        · clear g
          go_wp2_with fail
          go_ret2
          exact ⟨Or.inr ⟨HN.out, rfl⟩, bel⟩
        · have g' : decide (255 < n) = true := by simp; simp at g; omega
          clear g
          go_wp2_with fail
          go_ret2
          exact ⟨Or.inr ⟨HN.out, rfl⟩, bel⟩
    · have e4 : k = 4 := by omega
      have tk : tok P := ⟨HT.out.1, by rw [e4] at ok; exact ok⟩
      have HK : Hid (tok P) := tk
      have H4 : Hid (av P k = av P 4) := by show _ = _; rw [e4]
      have hge : ¬ (k : Int) < 4 := by omega
      have a0 := ab.1
      have a32 : av P k < 4294967296 := by have := ab.2; rw [e4] at this ⊢; exact this
      clear tk ok e4 hlt hk ab
      go_wp2_with fail
      go_ret2
      exact ⟨Or.inl ⟨HK.out, by rw [← H4.out]; rfl⟩, bel⟩
theorem addr_any (s : ByteArray) (w : World) (hs : s.size < 4294967281) (hE : Env w) :
    Calls Tryd.prog 10 #[.string s] w fun e w' => e = .returned (.tuple #[.int .u32 (pav s), .int .i64 (pae s)]) ∧ Below w.heap.size w w' := by
  by_cases h4 : (sp s.data.toList).length = 4
  · refine (addr_four s w hs hE h4).mono ?_
    rintro e w' ⟨⟨ht, rfl⟩ | ⟨ht, rfl⟩, hb⟩
    · exact ⟨ret_u32 (by unfold pav; rw [if_pos ht]) (by unfold pae; rw [if_pos ht]), hb⟩
    · exact ⟨ret_u32 (by unfold pav; rw [if_neg ht]) (by unfold pae; rw [if_neg ht]), hb⟩
  · have nt : ¬ tok (sp s.data.toList) := fun ht => h4 ht.1
    rw [show pav s = 0 by unfold pav; rw [if_neg nt], show pae s = 10 by unfold pae; rw [if_neg nt]]
    exact addr_other s w hs hE h4
end Go.Proofs.YtedbjhpajpakpaaDoor.ipa
