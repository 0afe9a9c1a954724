/- What ip.Parse answers, and that it changes nothing that was there. -/
import Derived.Test.YtedbjhpajpakpaaDoorIpShow
import Derived.Test.YtedbjhpajpakpaaDoorDotMath
import Derived.Lib.AtoiErrMem
namespace Go.Proofs.YtedbjhpajpakpaaDoor.ipp
open Go.ChangeShapes Go.WideShapes Go.ChangeAt Go.RowKit Go.BigFrame
open Go.Proofs.YtedbjhpajpakpaaDoor Go.Proofs.YtedbjhpajpakpaaDoor.EM Go.Proofs.YtedbjhpajpakpaaDoor.ethb Go.Proofs.YtedbjhpajpakpaaDoor.SM Go.Proofs.YtedbjhpajpakpaaDoor.ipb Go.Proofs.YtedbjhpajpakpaaDoor.buf Go.Proofs.YtedbjhpajpakpaaDoor.boxes Go.Proofs.YtedbjhpajpakpaaDoor.ipi Go.Proofs.YtedbjhpajpakpaaDoor.ipw Go.Proofs.YtedbjhpajpakpaaDoor.ipr Go.Proofs.YtedbjhpajpakpaaDoor.ips Go.Proofs.YtedbjhpajpakpaaDoor.dotm
open Go.Lib (decDigits)

/-- the library's variables that the road reads -/
structure Env (w : World) : Prop where
  tab : Tab w
  ml : ∃ m, w.cell? ⟨3, 0, none⟩ = some (.int .i64 m)
  es : ∃ ev, w.cell? ⟨0, 0, none⟩ = some ev ∧ (ev = .nilIface ∨ ∃ te pe, ev = .iface te pe)
theorem Env.below {w w' : World} (h : Env w) (hb : Below w.heap.size w w') : Env w' := by
  obtain ⟨t, ⟨m, hm⟩, ⟨ev, he, hh⟩⟩ := h
  exact ⟨t.below hb, ⟨m, (hb.cell (World.block_lt_of_cell? _ _ hm)).trans hm⟩, ⟨ev, (hb.cell (World.block_lt_of_cell? _ _ he)).trans he, hh⟩⟩
theorem atoi_ok (s : ByteArray) (v : Int) (hl : s.size ≤ 18) (h : Lib.atoi s.data.toList = some v) (w : World) :
    Calls Tryd.prog 26 #[.string s] w fun e w' => e = .returned (.tuple #[.int .i64 v, .nilIface]) ∧ Below w.heap.size w w' :=
  (Tryd.strconv_Atoi s v hl h w).mono fun _ _ ⟨he, _, hw⟩ => ⟨he, hw ▸ Lib.bytesWorld_below _ _ _⟩
theorem atoi_bad (s : ByteArray) (hl : s.size ≤ 18) (h : Lib.atoi s.data.toList = none) (w : World) (hE : Env w) :
    Calls Tryd.prog 26 #[.string s] w fun e w' => (∃ N, e = .returned (.tuple #[.int .i64 0, .iface 83 (.pointer (some ⟨N, 0, none⟩))])) ∧ Below w.heap.size w w' := by
  obtain ⟨ev, he, hh⟩ := hE.es
  exact (Tryd.strconv_Atoi_err s hl h ev w he hh).mono fun _ _ ⟨N, h1, _, _, h4⟩ => ⟨⟨N, h1⟩, h4⟩
theorem itoa_ok (v : Int) (h0 : 0 ≤ v) (h1 : v ≤ 255) (w : World) (ht : Tab w) :
    Calls Tryd.prog 27 #[.int .i64 v] w fun e w' => e = .returned (.string ⟨(Lib.itoa v).toArray⟩) ∧ Below w.heap.size w w' :=
  (Tryd.strconv_Itoa v (by omega) (by omega) w ht).mono fun _ w' ⟨he, k, os, hw⟩ => ⟨he, hw ▸ Lib.below_grow _ _ (Nat.le_refl _) _ _⟩
/-- strings.Split at a dot -/
theorem split_any (s : ByteArray) (hs : s.size < 4294967281) :
    ∃ Q : List ByteArray, Q.map (·.data.toList) = sp s.data.toList ∧ ∀ (w : World), Env w →
      Calls Tryd.prog 25 #[.string s, .string ⟨#[46]⟩] w fun e w' => e = .returned (.slice (some ⟨w.heap.size, 0, none⟩) Q.length Q.length) ∧ w' = w.alloc (.cells (Q.map Value.string).toArray 9) := by
  have hl := Lib.splitB_all (⟨#[46]⟩ : ByteArray) (by decide) 0 (Lib.countB s ⟨#[46]⟩) s rfl
  refine ⟨Lib.splitB ⟨#[46]⟩ 0 (Lib.countB s ⟨#[46]⟩) s, Lib.splitB_data _ _ _ _, fun w hE => ?_⟩
  obtain ⟨m, hm⟩ := hE.ml
  rw [hl]
  exact Tryd.strings_Split s ⟨#[46]⟩ m w hs hm (by decide)
theorem list_nth (Q : List ByteArray) (k : Nat) (h : k < Q.length) : ((Q.map Value.string).toArray)[k]? = some (.string (Q.getD k ⟨#[]⟩)) := by
  rw [List.getElem?_toArray, List.getElem?_map, List.getElem?_eq_getElem h, List.getD_eq_getElem?_getD, List.getElem?_eq_getElem h]
  rfl
theorem data_nth (Q : List ByteArray) (P : List (List UInt8)) (h : Q.map (·.data.toList) = P) (k : Nat) (hk : k < Q.length) : (Q.getD k ⟨#[]⟩).data.toList = P.getD k [] := by
  rw [← h, List.getD_eq_getElem?_getD, List.getD_eq_getElem?_getD, List.getElem?_map, List.getElem?_eq_getElem hk]
  rfl
/-- what Parse answers -/
noncomputable def pae (s : ByteArray) : Int := open Classical in if tok (sp s.data.toList) then 0 else 10
noncomputable def pav (s : ByteArray) : Int := open Classical in if tok (sp s.data.toList) then av (sp s.data.toList) 4 else 0
theorem or_byte (a v : Int) (h0 : 0 ≤ a) (h1 : a < 16777216) (h2 : 0 ≤ v) (h3 : v ≤ 255) : bits .or .u32 (a * 256) v = 256 * a + v := by
  rw [u32_or _ _ (by omega) (by omega) h2 (by omega), nat_join 8 _ _ (by omega) (by omega)]
  omega
theorem parse_long (s : ByteArray) (w : World) (h : 15 < s.size) :
    Calls Tryd.prog 9 #[.string s] w fun e w' => e = .returned (.tuple #[.int .u32 0, .int .i64 10]) ∧ Below w.heap.size w w' := by
  go_enter Tryd.func9, Tryd.ntmps9
  go_wp2_with fail
  go_ret2
  exact ⟨rfl, Below.refl _ _⟩
theorem parse_other (s : ByteArray) (w : World) (h : ¬ 15 < s.size) (hE : Env w) (h4 : ¬ (sp s.data.toList).length = 4) :
    Calls Tryd.prog 9 #[.string s] w fun e w' => e = .returned (.tuple #[.int .u32 0, .int .i64 10]) ∧ Below w.heap.size w w' := by
  obtain ⟨Q, hQ, CS⟩ := split_any s (by omega)
  have hl : ((Q.length : Int) != 4) = true := by
    rw [← hQ, List.length_map] at h4
    simp; omega
  clear hQ h4
  go_enter Tryd.func9, Tryd.ntmps9
  go_wp2_with fail
  refine (CS _ hE).mono ?_
  rintro e w1 ⟨rfl, rfl⟩
  go_wp2_with fail
  go_ret2
  exact ⟨rfl, (Below.refl _ _).alloc (Nat.le_refl _) _⟩
set_option maxHeartbeats 4000000 in
theorem parse_four (s : ByteArray) (w : World) (h : ¬ 15 < s.size) (hE : Env w) (h4 : (sp s.data.toList).length = 4) :
    Calls Tryd.prog 9 #[.string s] w fun e w' => (tok (sp s.data.toList) ∧ e = .returned (.tuple #[.int .u32 (av (sp s.data.toList) 4), .int .i64 0]) ∨ ¬ tok (sp s.data.toList) ∧ e = .returned (.tuple #[.int .u32 0, .int .i64 10])) ∧ Below w.heap.size w w' := by
  obtain ⟨Q, hQ, CS⟩ := split_any s (by omega)
  have pl : ∀ p ∈ sp s.data.toList, p.length ≤ 15 := fun p hp => by
    have := piece_len s.data.toList p hp
    rw [ipm.size_list] at this; omega
  generalize sp s.data.toList = P at hQ h4 pl ⊢
  have q4 : Q.length = 4 := by rw [← hQ, List.length_map] at h4; exact h4
  rw [q4] at CS
  have HT : Hid (P.length = 4 ∧ Q.map (·.data.toList) = P ∧ ∀ p ∈ P, p.length ≤ 15) := ⟨h4, hQ, pl⟩
  have HQ4 : Hid (Q.length = 4) := q4
  clear hQ h4 pl q4
  have B0 := Blk.new w (Q.map Value.string).toArray 9
  have bel := (Below.refl w.heap.size w).alloc (Nat.le_refl _) (.cells (Q.map Value.string).toArray 9)
  go_enter Tryd.func9, Tryd.ntmps9
  go_wp2_with fail
  refine (CS _ hE).mono ?_
  rintro e w1 ⟨rfl, rfl⟩
  clear CS
  go_wp2_with fail
  go_loopw [5, 20] (fun a i wr => ∃ k : Nat, k ≤ 4 ∧ i = .int .i64 k ∧ a = .int .u32 (av P k) ∧ (∀ j, j < k → okp (P.getD j [])) ∧ Blk wr w.heap.size (Q.map Value.string).toArray 9 ∧ Below w.heap.size w wr) (fun _ i _ => 4 - (intOf i).toNat)
  case atStart => exact ⟨0, by omega, rfl, rfl, fun j hj => absurd hj (by omega), B0, bel⟩
  case round =>
    clear B0 bel
    obtain ⟨k, hk, rfl, rfl, ok, B, bel⟩ := hrel
    have ab := av_bd P k ok
    by_cases hlt : k < 4
    · have hki : (k : Int) < 4 := by omega
      have hq4 := HQ4.out
      have cell : wr.cell? ⟨w.heap.size, k, none⟩ = some (.string (Q.getD k ⟨#[]⟩)) := (B.cell k).trans (list_nth Q k (by omega))
      have hq := data_nth Q P HT.out.2.1 k (by omega)
      have qz : (Q.getD k ⟨#[]⟩).size ≤ 18 := by
        rw [← ipm.size_list, hq]
        have : P.getD k [] ∈ P := by
          rw [List.getD_eq_getElem?_getD, List.getElem?_eq_getElem (by rw [HT.out.1]; exact hlt)]
          exact List.getElem_mem _
        have := HT.out.2.2 _ this
        omega
      generalize Q.getD k ⟨#[]⟩ = q at cell hq qz
      have a24 : av P k < 16777216 := by
        have : (256 : Int) ^ k ≤ 256 ^ 3 := by
          have : k = 0 ∨ k = 1 ∨ k = 2 ∨ k = 3 := by omega
          rcases this with rfl | rfl | rfl | rfl <;> decide
        omega
      have a0 := ab.1
      have nt : Hid ((¬ okp (P.getD k [])) → ¬ tok P) := fun hn ht => hn (ht.2 k hlt)
      have st : Hid (okp (P.getD k []) → ∀ j, j < k + 1 → okp (P.getD j [])) := fun hn j hj => by
        by_cases e : j = k
        · rw [e]; exact hn
        · exact ok j (by omega)
      have sa : Hid (256 * av P k + vp (P.getD k []) = av P (k + 1)) := (rfl : _ = _)
      rw [← hq] at nt st sa
      have hE1 := hE.below bel
      clear ab ok hq hq4
      cases hA : Lib.atoi q.data.toList with
      | none =>
        have CA := fun u hu => atoi_bad q qz hA u hu
        have nk : ¬ okp q.data.toList := fun hk => by
          obtain ⟨v, hv, _⟩ := okp_of _ hk
          rw [hA] at hv; cases hv
        have HN : Hid (¬ tok P) := nt.out nk
        clear nt st sa nk hA
        go_wp2_with fail
        refine (CA _ hE1).mono ?_
        rintro e w2 ⟨⟨N, rfl⟩, b2⟩
        go_wp2_with fail
        go_ret2
        exact ⟨Or.inr ⟨HN.out, rfl⟩, bel.trans (b2.mono bel.size)⟩
      | some v =>
        have CA := fun u => atoi_ok q v qz hA u
        by_cases hv : 0 ≤ v ∧ v ≤ 255
        case neg =>
          have nk : ¬ okp q.data.toList := fun hk => by
            obtain ⟨v', hv', h0, h1, _⟩ := okp_of _ hk
            rw [hA] at hv'; cases hv'; exact hv ⟨h0, h1⟩
          have HN : Hid (¬ tok P) := nt.out nk
          clear nt st sa nk hA
          by_cases hv0 : v < 0
          · go_wp2_with fail
            refine (CA _).mono ?_
            rintro e w2 ⟨rfl, b2⟩
            go_wp2_with fail
            go_ret2
            exact ⟨Or.inr ⟨HN.out, rfl⟩, bel.trans (b2.mono bel.size)⟩
          · have hv1 : 255 < v := by omega
            have hv0' : decide (v < 0) = false := by simp; omega
            clear hv hv0
            go_wp2_with fail
            refine (CA _).mono ?_
            rintro e w2 ⟨rfl, b2⟩
            go_wp2_with fail
            go_ret2
            exact ⟨Or.inr ⟨HN.out, rfl⟩, bel.trans (b2.mono bel.size)⟩
        have CI := fun u hu => itoa_ok v hv.1 hv.2 u hu
        have v0 := hv.1
        have v1 := hv.2
        have v0' : decide (v < 0) = false := by simp; omega
        have v1' : decide (255 < v) = false := by simp; omega
        by_cases he : (⟨(Lib.itoa v).toArray⟩ : ByteArray) = q
        · have hi : Lib.itoa v = q.data.toList := by rw [← he]
          obtain ⟨o1, o2⟩ := okp_iff _ v hA hv.1 hv.2 hi
          have ok' := st.out o1
          have sa' : Hid (256 * av P k + v = av P (k + 1)) := by show _ = _; rw [← sa.out, o2]
          have E := or_byte (av P k) v a0 a24 v0 v1
          rw [he] at CI
          clear nt st sa hA he hi o1 o2 hv
          go_wp2_with fail
          refine (CA _).mono ?_
          rintro e w2 ⟨rfl, b2'⟩
          have b2 := bel.trans (b2'.mono bel.size)
          have B2 := B.below b2' B.lt
          clear CA b2'
          go_wp2_with fail
          refine (CI _ (hE.below b2).tab).mono ?_
          rintro e w3 ⟨rfl, b3'⟩
          have b3 := b2.trans (b3'.mono b2.size)
          have B3 := B2.below b3' B2.lt
          clear CI b3'
          go_wp2_with fail
          go_roundw
          case rel => exact ⟨k + 1, by omega, by go_num, by rw [← sa'.out], ok', B3, b3⟩
          case measure => simp [intOf]; omega
        · have nk : ¬ okp q.data.toList := fun hk => by
            obtain ⟨v', hv', h0, h1, h2⟩ := okp_of _ hk
            rw [hA] at hv'; cases hv'
            exact he (ipm.bytes_ext (by rw [← h2]))
          have HN : Hid (¬ tok P) := nt.out nk
          clear nt st sa nk hA hv
          generalize (⟨(Lib.itoa v).toArray⟩ : ByteArray) = I at CI he
          have he' : (I.toList == q.toList) = false := by
            rw [beq_eq_false_iff_ne, ByteArray.toList_eq, ByteArray.toList_eq]
            exact fun hh => he (ipm.bytes_ext hh)
          clear he
          go_wp2_with fail
          refine (CA _).mono ?_
          rintro e w2 ⟨rfl, b2'⟩
          have b2 := bel.trans (b2'.mono bel.size)
          clear CA b2'
          go_wp2_with fail
          refine (CI _ (hE.below b2).tab).mono ?_
          rintro e w3 ⟨rfl, b3'⟩
          have b3 := b2.trans (b3'.mono b2.size)
          clear CI b3'
          go_wp2_with fail
          go_ret2
          exact ⟨Or.inr ⟨HN.out, rfl⟩, b3⟩
    · have e4 : k = 4 := by omega
      have tk : tok P := ⟨HT.out.1, by rw [e4] at ok; exact ok⟩
      have HK : Hid (tok P) := tk
      have H4 : Hid (av P k = av P 4) := by show _ = _; rw [e4]
      have hge : ¬ (k : Int) < 4 := by omega
      clear tk ok e4 hlt hk
      go_wp2_with fail
      go_ret2
      exact ⟨Or.inl ⟨HK.out, by rw [← H4.out]; rfl⟩, bel⟩
theorem parse_any (s : ByteArray) (w : World) (hE : Env w) :
    Calls Tryd.prog 9 #[.string s] w fun e w' => e = .returned (.tuple #[.int .u32 (pav s), .int .i64 (pae s)]) ∧ Below w.heap.size w w' := by
  by_cases h15 : 15 < s.size
  · have nt : ¬ tok (sp s.data.toList) := fun ht => by
      have := tok_len _ ht
      rw [ipm.size_list] at this; omega
    rw [show pav s = 0 by unfold pav; rw [if_neg nt], show pae s = 10 by unfold pae; rw [if_neg nt]]
    exact parse_long s w h15
  · by_cases h4 : (sp s.data.toList).length = 4
    · refine (parse_four s w h15 hE h4).mono ?_
      rintro e w' ⟨⟨ht, rfl⟩ | ⟨ht, rfl⟩, hb⟩
      · exact ⟨ret_u32 (by unfold pav; rw [if_pos ht]) (by unfold pae; rw [if_pos ht]), hb⟩
      · exact ⟨ret_u32 (by unfold pav; rw [if_neg ht]) (by unfold pae; rw [if_neg ht]), hb⟩
    · have nt : ¬ tok (sp s.data.toList) := fun ht => h4 ht.1
      rw [show pav s = 0 by unfold pav; rw [if_neg nt], show pae s = 10 by unfold pae; rw [if_neg nt]]
      exact parse_other s w h15 hE h4
/-- what is shown is read again -/
theorem shown_back (a : Int) (h0 : 0 ≤ a) (h1 : a ≤ 4294967295) : pav ⟨(shw a).toArray⟩ = a ∧ pae ⟨(shw a).toArray⟩ = 0 := by
  have b3 : (a / 16777216 % 256).toNat < 256 := by omega
  have b2 : (a / 65536 % 256).toNat < 256 := by omega
  have b1 : (a / 256 % 256).toNat < 256 := by omega
  have b0 : (a % 256).toNat < 256 := by omega
  have e : sp (⟨(shw a).toArray⟩ : ByteArray).data.toList = [decDigits (a / 16777216 % 256).toNat, decDigits (a / 65536 % 256).toNat, decDigits (a / 256 % 256).toNat, decDigits (a % 256).toNat] := by
    show sp (shw a) = _
    unfold shw
    exact sp_shown _ _ _ _ b3 b2 b1 b0
  have ht : tok (sp (⟨(shw a).toArray⟩ : ByteArray).data.toList) := by
    rw [e]
    refine ⟨rfl, fun j hj => ?_⟩
    match j, hj with
    | 0, _ => exact ⟨_, b3, rfl⟩
    | 1, _ => exact ⟨_, b2, rfl⟩
    | 2, _ => exact ⟨_, b1, rfl⟩
    | 3, _ => exact ⟨_, b0, rfl⟩
  refine ⟨?_, by unfold pae; rw [if_pos ht]⟩
  unfold pav
  rw [if_pos ht, e]
  simp only [av, List.getD_cons_zero, List.getD_cons_succ, vp_dec _ b3, vp_dec _ b2, vp_dec _ b1, vp_dec _ b0]
  omega
end Go.Proofs.YtedbjhpajpakpaaDoor.ipp
