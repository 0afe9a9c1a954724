/- custref.TrieOf: the trie of rows. -/
import Derived.Test.YtiddpkppfpdfhaaPrSmall
import Derived.Test.YtiddpkppfpdfhaaPfSame
namespace Go.Proofs.Ytiddpkppfpdfhaa.pf
open Go.ChangeShapes Go.WideShapes Go.ChangeAt Go.RowKit Go.BigFrame
open Go.Proofs.Ytiddpkppfpdfhaa Go.Proofs.Ytiddpkppfpdfhaa.pm Go.Proofs.Ytiddpkppfpdfhaa.boxes Go.Proofs.Ytiddpkppfpdfhaa.rwr Go.Proofs.Ytiddpkppfpdfhaa.rwat
open Go.Proofs.Ytiddpkppfpdfhaa.rws (Knd Own)

abbrev ZR : Array Value := #[.string ⟨#[]⟩, .int .i64 0]
abbrev ZT : Array Value := #[.slice none 0 0]
abbrev ZD : Array Value := #[.int .i64 0, .int .i64 0, .bool false, .int .i64 0]
theorem rw_info : (Try.prog.info? 45).map (·.size) = some 2 := by kernel_rfl
theorem tk_one (v : Value) (h : ∃ a m c, v = .slice a m c) : (TC v).all (·.oneCell') = true := by obtain ⟨a, m, c, rfl⟩ := h; simp [Value.oneCell']
theorem row_at {w : World} {b off n sc : Nat} {l : List Rw} (h : Rd RK w (.slice (some ⟨b, off, none⟩) n sc) l) {i : Nat} {x : Rw} (hi : l[i]? = some x) :
    b < w.heap.size ∧ w.cell? ⟨b, off + i * 2, none⟩ = some (.string (en x.1)) ∧ w.cell? ⟨b, off + i * 2 + 1, none⟩ = some (.int .i64 x.2) := by
  obtain ⟨b', off', e, hb, hc⟩ := rd_spot h (by have := (List.getElem?_eq_some_iff.1 hi).1; omega)
  cases e
  exact ⟨hb, hc i _ hi 0 (by decide), hc i _ hi 1 (by decide)⟩
theorem txt_at {w : World} {b off n sc : Nat} {l : List Pth} (h : Rd SK w (.slice (some ⟨b, off, none⟩) n sc) l) {i : Nat} {p : Pth} (hi : l[i]? = some p) :
    b < w.heap.size ∧ w.cell? ⟨b, off + i, none⟩ = some (.string (en p)) := by
  obtain ⟨b', off', e, hb, hc⟩ := rd_spot h (by have := (List.getElem?_eq_some_iff.1 hi).1; omega)
  cases e
  exact ⟨hb, by simpa [SK] using hc i _ hi 0 (by decide)⟩
theorem en_head (p : Pth) (n : Nat) (h : n ≤ p.length) (u : World) : (Instr.slice 9 (.string (en p)) none (some (.int .i64 (n : Int))) none).run Try.prog u = .ok (.string (en (p.take n))) u := by
  have hs : (en p).size = p.length := en_size p
  have := run_slice_string_h (P := Try.prog) u 9 (en p) Try.underlying9 .i64 (n : Int) (by omega) (by rw [hs]; omega)
  rw [this, en_take, Int.toNat_natCast]
theorem has_len : ∀ (t : T) (p : Pth), has t p → p.length + 1 ≤ ht t := by
  intro t
  induction t with
  | nil => intro p h; exact h.elim
  | nd s l r ihl ihr =>
    intro p h
    cases p with
    | nil => simp only [ht, List.length_nil]; omega
    | cons b p =>
      cases b
      · have := ihl p h; simp only [ht, List.length_cons]; omega
      · have := ihr p h; simp only [ht, List.length_cons]; omega
theorem of_node {rs : List Rw} {i : Nat} {p : Pth} (hp : (paths (ofR rs))[i]? = some p) : ∃ x, (lay 0 (ofR rs))[i]? = some x ∧ x.s = (lst rs p).isSome ∧ x.v = (lst rs p).getD 0 ∧
    ∀ b, (∃ j : Nat, bsI (paths (ofR rs)) (p ++ [b]) = j ∧ decide (bsI (paths (ofR rs)) (p ++ [b]) < (paths (ofR rs)).length ∧ Sx (paths (ofR rs)) (p ++ [b]) (bsI (paths (ofR rs)) (p ++ [b])) = en (p ++ [b])) = true ∧ nx x b = (j : Int)) ∨
      (decide (bsI (paths (ofR rs)) (p ++ [b]) < (paths (ofR rs)).length ∧ Sx (paths (ofR rs)) (p ++ [b]) (bsI (paths (ofR rs)) (p ++ [b])) = en (p ++ [b])) = false ∧ nx x b = 0) := by
  obtain ⟨x, h1, h2, h3, h4⟩ := lay_path (ofR rs) 0 i p hp
  rw [look_ofR] at h2 h3
  refine ⟨x, h1, h2, h3, fun b => ?_⟩
  by_cases hb : p ++ [b] ∈ paths (ofR rs)
  · obtain ⟨j, hj, e⟩ := List.mem_iff_getElem.1 hb
    have hj' : (paths (ofR rs))[j]? = some (p ++ [b]) := by rw [List.getElem?_eq_getElem hj, e]
    obtain ⟨g1, g2, g3⟩ := bs_hit (paths_sorted _) hj'
    refine Or.inl ⟨j, g1, decide_eq_true ⟨g2, g3⟩, ?_⟩
    have := (h4 b).1 j hj'
    rwa [Nat.zero_add] at this
  · refine Or.inr ⟨decide_eq_false (bs_miss hb), (h4 b).2 fun hh => hb ((mem_paths _ _).2 hh)⟩
theorem begs_take (x : Rw) (n : Nat) (h : n < x.1.length + 1) : (begs x).take (n + 1) = (begs x).take n ++ [x.1.take n] := by
  refine take_succ _ n _ ?_
  unfold begs
  rw [List.getElem?_map, List.getElem?_range h]; rfl
theorem txt_eq (y p : Pth) : ((en y).toList == (en p).toList) = decide (p = y) := by
  rw [Lib.toList_data, Lib.toList_data, en_data, en_data, Bool.eq_iff_iff, beq_iff_eq, decide_eq_true_eq]
  exact ⟨fun h => (enl_inj h).symm, fun h => by rw [h]⟩
set_option maxRecDepth 20000 in
set_option maxHeartbeats 8000000 in
theorem of_any (v : Value) (rs : List Rw) (w : World) (hr : Rd RK w v rs) (hlen : ∀ x ∈ rs, x.1.length ≤ 32) (hn : rs.length ≤ 1100) :
    Calls Try.prog 35 #[v] w fun e w' => ∃ v', e = .returned (.agg (TC v')) ∧ Own DK w' w.heap.size v' (lay 0 (ofR rs)) ∧ Below w.heap.size w w' := by
  have b0 := (Below.refl w.heap.size w).alloc (Nat.le_refl _) (.cells ZT 24)
  have R0 := Blk.new w ZT 24
  replace hr := hr.below b0
  have hab := allB_len hlen
  have hhl := ht_ofR (k := 32) rs hlen
  have HAL : Hid (∀ i, i ≤ rs.length → (allB (rs.take i)).length ≤ i * 33) := fun i hi => by
    have := allB_len (rs := rs.take i) fun x hx => hlen x (List.mem_of_mem_take hx)
    rw [List.length_take, Nat.min_eq_left hi] at this; exact this
  have HPL : Hid (∀ (i : Nat) (p : Pth), (paths (ofR rs))[i]? = some p → p.length ≤ 32) := fun i p hp => by
    have := has_len _ _ ((mem_paths _ _).1 (List.mem_of_getElem? hp)); omega
  have HALL : Hid (∀ qs zs : List Pth, zs.map enl = ((allB rs).map enl).mergeSort (fun x y => decide (x ≤ y)) → qs.map enl = Lib.compact (zs.map enl) → qs = paths (ofR rs)) := fun qs zs hz hq => by
    rw [hz, all_eq] at hq
    exact (List.map_inj_right (fun _ _ => enl_inj)).1 hq
  have HND : Hid (∀ (i : Nat) (p : Pth), (paths (ofR rs))[i]? = some p → _) := fun i p hp => of_node hp
  have hps : (paths (ofR rs)).length ≤ 1000000 := by
    rw [paths_length]
    have := sz_ofR (k := 32) rs hlen
    omega
  have hLp : (lay 0 (ofR rs)).length = (paths (ofR rs)).length := by rw [lay_length, paths_length]
  have HPG : Hid (∀ i, i < (paths (ofR rs)).length → ∃ p, (paths (ofR rs))[i]? = some p) := fun i hi => ⟨_, List.getElem?_eq_getElem hi⟩
  have HXL : Hid (∀ (i : Nat) (x : Rw), rs[i]? = some x → x.1.length ≤ 32) := fun i x hx => hlen x (List.mem_of_getElem? hx)
  have HG : Hid (∀ i, i < rs.length → ∃ x, rs[i]? = some x) := fun i hi => ⟨_, List.getElem?_eq_getElem hi⟩
  clear hlen hhl
  generalize lay 0 (ofR rs) = LL at *
  generalize paths (ofR rs) = ps at *
  obtain ⟨m, hm⟩ : ∃ m, m = rs.length := ⟨_, rfl⟩
  have HM : Hid (m = rs.length) := hm
  rw [← hm] at hab hn HAL HG
  obtain ⟨sa, sc, e_v⟩ := hr.form
  rw [← hm] at e_v
  subst e_v
  clear hm
  go_enter Try.func35, Try.ntmps35
  go_upto_region 1 with fail
  generalize hV : w.alloc (.cells ZT 24) = V at *
  clear hV
  have hw0 : w.heap.size < V.heap.size := R0.lt
  go_wp2_with fail
  go_loopw [3, 18] (fun s3 s18 wr => ∃ (i : Nat) (vs : Value), s3 = vs ∧ s18 = .int .i64 (i : Int) ∧ i ≤ m ∧ Own SK wr V.heap.size vs (allB (rs.take i)) ∧ Below V.heap.size V wr) (fun _ s _ => m - (intOf s).toNat)
  case atStart => exact ⟨0, _, rfl, rfl, Nat.zero_le _, Own.nil _ _ _, Below.refl _ _⟩
  case round =>
    obtain ⟨i, vs, rfl, rfl, hi, O3, bel⟩ := hrel
    by_cases hlt : i < m
    · have hlt' : (i : Int) < (m : Int) := by omega
      have q1 := hr.below bel
      obtain ⟨x, hx⟩ := HG.out i hlt
      obtain ⟨b1, o1, e1, hb1, _⟩ := rd_spot q1 (by have := HM.out; omega)
      subst e1
      obtain ⟨hb1, cx0, cx1⟩ := row_at q1 hx
      have hxl := HXL.out i x hx
      have dA := (Below.refl wr.heap.size wr).alloc (Nat.le_refl _) (.cells ZR 45)
      go_upto_region 5 with (refine blk_store _ rfl 45 _ _ rfl wr.heap.size (rwc x) rfl rfl _ _ (Blk.new wr ZR 45) 2 rw_info rfl rfl (rw_one x) ?_; intro W5 N5 p5)
      have zz := p5.below dA (Nat.le_refl _)
      have O5 := O3.kept zz
      have bel5 := bel.trans (zz.mono bel.size)
      have ne5 : u3.ownBlock ≠ some wr.heap.size := fun e => by have := own_lt O3 _ e; omega
      have hal := HAL.out i hi
      have HNX : Hid (allB (rs.take (i + 1)) = allB (rs.take i) ++ begs x) := by show _ = _; rw [take_succ rs i x hx, allB_snoc]
      clear dA p5 cx0 cx1 hb1 O3 bel zz q1 hx
      generalize wr.heap.size = bx at *
      have hbx := N5.lt
      generalize allB (rs.take i) = A0 at *
      have HSL : Hid (∀ n, n ≤ x.1.length → ∀ u, (Instr.slice 9 (.string (en x.1)) none (some (.int .i64 (n : Int))) none).run Try.prog u = .ok (.string (en (x.1.take n))) u) := fun n h u => en_head x.1 n h u
      have hxs : ((en x.1).size : Int) = (x.1.length : Int) := by rw [en_size]
      have HBT : Hid (∀ n, n < x.1.length + 1 → (begs x).take (n + 1) = (begs x).take n ++ [x.1.take n]) := fun n h => begs_take x n h
      have HBE : Hid ((begs x).take (x.1.length + 1) = begs x) := List.take_of_length_le (Nat.le_of_eq (begs_len x))
      have HBN : Hid (∀ n, ((begs x).take n).length ≤ n) := fun n => by rw [List.length_take]; omega
      generalize begs x = BG at *
      have N5' : Blk W5 bx #[.string (en x.1), .int .i64 x.2] 45 := N5
      replace N5 := N5'
      clear N5'
      have cN5 := N5.cell
      go_wp2_with fail
      clear cN5
      generalize x.1.length = xl at *
      generalize en x.1 = X at *
      generalize x.2 = xv at *
      clear hbx
      have HO0 : Hid (A0 ++ BG.take 0 = A0) := by show _ = _; simp
      go_loopw [3, 26] (fun s3 s26 wr => ∃ (n : Nat) (vs : Value), s3 = vs ∧ s26 = .int .i64 (n : Int) ∧ n ≤ xl + 1 ∧ Own SK wr V.heap.size vs (A0 ++ BG.take n) ∧ Below V.heap.size V wr ∧ vs.ownBlock ≠ some bx ∧ Blk wr bx #[.string X, .int .i64 xv] 45) (fun _ s _ => xl + 1 - (intOf s).toNat)
      case atStart => exact ⟨0, u3, rfl, rfl, Nat.zero_le _, by rw [HO0.out]; exact O5, bel5, ne5, N5⟩
      case round =>
        clear O5 bel5 ne5 N5
        obtain ⟨n, vt, rfl, rfl, hn2, O6, bel6, ne6, N6⟩ := hrel
        by_cases hlt2 : n < xl + 1
        · have hlt2' : (n : Int) < (xl : Int) + 1 := by omega
          have sl := HSL.out n (by omega)
          have cN := N6.cell
          have hBN := HBN.out n
          have HT2 : Hid (A0 ++ BG.take (n + 1) = (A0 ++ BG.take n) ++ [x.1.take n]) := by show _ = _; rw [HBT.out n hlt2, List.append_assoc]
          generalize x.1.take n = y at *
          have hl6 : (A0 ++ BG.take n).length ≤ 1000000 := by rw [List.length_append]; omega
          generalize A0 ++ BG.take n = A1 at *
          have O7 := O6.alloc (.cells (stc y) 9)
          have Y7 := Blk.new wr (stc y) 9
          have bW := (Below.refl wr.heap.size wr).alloc (Nat.le_refl _) (.cells (stc y) 9)
          have hB1 : V.heap.size ≤ (wr.alloc (.cells (stc y) 9)).heap.size := by have := bel6.size; simp; omega
          clear HBT HSL HBN
          go_wp2_with (at_builtin; refine app_at SK _ rfl _ _ rfl V.heap.size _ A1 rfl O7 wr.heap.size 1 y 9 rfl Y7 (by omega) (by show (A1.length + 1) * 16 ≤ _; omega) hB1 ?_)
          intro v8 W8 O8 g8 x8
          have o8 := (Only.of_below (v := u3) bW).trans (Only.of_app g8 (x8.imp id fun e => by rw [e]; simp))
          have N8 := o8.blk N6 ne6
          have hbx := N6.lt
          have ne8 : v8.ownBlock ≠ some bx := by
            rcases x8 with e | e
            · rw [e]; exact ne6
            · rw [e]; simp; omega
          have bel8 := bel6.trans (o8.below (own_ge O6) bel6.size)
          clear O7 Y7 bW hB1 g8 x8 o8 N6 ne6 bel6 O6 cN
          go_wp2_with fail
          go_roundw
          case rel => exact ⟨n + 1, v8, rfl, by go_num, by omega, by rw [HT2.out]; exact O8, bel8, ne8, N8⟩
          case measure => simp [intOf]; omega
        · obtain rfl : n = xl + 1 := by omega
          clear HBT HSL HBN
          have O7 : Own SK wr V.heap.size u3 (allB (rs.take (i + 1))) := by rw [HNX.out, ← HBE.out]; exact O6
          go_wp2_with fail
          go_roundw
          case rel => exact ⟨i + 1, u3, rfl, by go_num, by omega, O7, bel6⟩
          case measure => simp [intOf]; omega
    · obtain rfl : i = m := by omega
      have eA : allB (rs.take i) = allB rs := by rw [HM.out, List.take_length]
      rw [eA] at O3
      have CS := sort_any _ _ wr V.heap.size O3 (by omega)
      have bel' := b0.trans (bel.mono b0.size)
      have ge3 := own_ge O3
      clear eA HAL HXL
      go_wp2_with fail
      refine CS.mono ?_
      rintro e W2 ⟨rfl, qs, O4, hql, hqm, o4⟩
      have bel4 := bel.trans (o4.below ge3 bel.size)
      have CC := compact_any _ _ W2 V.heap.size O4 (by omega)
      have ge4 := own_ge O4
      clear CS bel o4 O3
      go_wp2_with fail
      refine CC.mono ?_
      rintro e W3 ⟨v5, zs, rfl, O5, hzm, o5⟩
      have bel5 := bel4.trans (o5.below ge4 bel4.size)
      obtain rfl := HALL.out zs qs hqm hzm
      clear CC bel4 o5 O4 HALL hqm hzm hql ge3 ge4
      have q5 := Own.rd O5
      have hr5 := hr.below bel5
      have R5 := R0.below bel5 R0.lt
      have b5 := b0.trans (bel5.mono b0.size)
      clear O5 hr R0 b0 bel5 bel' hw0
      obtain ⟨sb, sd, e5⟩ := q5.form
      obtain ⟨k, hk⟩ : ∃ k, k = zs.length := ⟨_, rfl⟩
      have HK : Hid (k = zs.length) := hk
      rw [← hk] at hps hLp HPG e5
      subst e5
      clear hk
      have b6 := (Below.refl W3.heap.size W3).alloc (Nat.le_refl _) (.cells ZT 24)
      have T6 := Blk.new W3 ZT 24
      go_upto_region 14 with fail
      go_wp2_with fail
      go_loopw [44] (fun s44 wr => ∃ (j : Nat) (vm : Value), s44 = .int .i64 (j : Int) ∧ j ≤ k ∧ Blk wr W3.heap.size (TC vm) 24 ∧ Own DK wr (W3.heap.size + 1) vm (LL.take j) ∧ Below W3.heap.size W3 wr) (fun s _ => k - (intOf s).toNat)
      case atStart => exact ⟨0, .slice none 0 0, rfl, Nat.zero_le _, T6, Own.nil _ _ _, b6⟩
      case round =>
        clear T6 b6
        obtain ⟨j, vm, rfl, hj, T7, O7, bel7⟩ := hrel
        by_cases hlt : j < k
        · have hlt' : (j : Int) < (k : Int) := by omega
          have q7 := q5.below bel7
          have hr7 := hr5.below bel7
          obtain ⟨p, hp⟩ := HPG.out j hlt
          obtain ⟨b1, o1, e1, hb1, _⟩ := rd_spot q7 (by have := HK.out; omega)
          subst e1
          obtain ⟨hb1, cp⟩ := txt_at q7 hp
          obtain ⟨x, hxL, hxs, hxv, hxb⟩ := HND.out j p hp
          have hpl := HPL.out j p hp
          have b8 := (Below.refl wr.heap.size wr).alloc (Nat.le_refl _) (.cells ZD 57)
          have X8 := Blk.new wr ZD 57
          go_upto_region 18 with fail
          clear cp
          generalize hW7 : wr = W7 at *
          clear hW7
          have hx0 : nx x false = x.a := rfl
          have hx1 : nx x true = x.b := rfl
          have HB0 := hxb false
          have HB1 := hxb true
          rw [hx0] at HB0
          rw [hx1] at HB1
          have HXE : Hid (DC x.a x.b x.s x.v = Nd.cells x) := rfl
          rw [hxs, hxv] at HXE
          have HLX : Hid (LL.take (j + 1) = LL.take j ++ [x]) := take_succ LL j x hxL
          have CN0 := fun W => num_any false W
          have CN1 := fun W => num_any true W
          simp only [Bool.false_eq_true, if_false, if_true] at CN0 CN1
          have SE0 := fun u hu => search_any (.slice (some ⟨b1, o1, none⟩) k sd) zs (p ++ [false]) u hu (by have := HK.out; omega)
          have SE1 := fun u hu => search_any (.slice (some ⟨b1, o1, none⟩) k sd) zs (p ++ [true]) u hu (by have := HK.out; omega)
          generalize decide (bsI zs (p ++ [false]) < zs.length ∧ Sx zs (p ++ [false]) (bsI zs (p ++ [false])) = en (p ++ [false])) = f0 at *
          generalize decide (bsI zs (p ++ [true]) < zs.length ∧ Sx zs (p ++ [true]) (bsI zs (p ++ [true])) = en (p ++ [true])) = f1 at *
          generalize bsI zs (p ++ [false]) = I0 at *
          generalize bsI zs (p ++ [true]) = I1 at *
          rw [en_append] at SE0 SE1
          have z1 : (en p).size ≤ 32 := by rw [en_size]; exact hpl
          have z2 : (en [false]).size ≤ 1 := Nat.le_of_eq (en_size _)
          have z3 : (en [true]).size ≤ 1 := Nat.le_of_eq (en_size _)
          obtain ⟨f, hf⟩ : ∃ f : Nat → Option Int, f = fun n => lst (rs.take n) p := ⟨_, rfl⟩
          have HF0 : Hid (f 0 = none) := by rw [hf]; rfl
          have HFS : Hid (∀ n y, rs[n]? = some y → f (n + 1) = if p = y.1 then some y.2 else f n) := fun n y hy => by
            rw [hf]; show lst (rs.take (n + 1)) p = _; rw [take_succ rs n y hy, lst_snoc]
          have HFE : Hid (f i = lst rs p) := by show _ = _; rw [hf]; show lst (rs.take i) p = _; rw [HM.out, List.take_length]
          rw [← HFE.out] at HXE
          clear hxb hx0 hx1 hxs hxv hf HFE HND HPL HPG
          generalize x.a = xa at *
          generalize x.b = xb at *
          generalize en [false] = S0 at *
          generalize en [true] = S1 at *
          have HE : Hid (∀ y : Pth, ((en y).toList == (en p).toList) = decide (p = y)) := fun y => txt_eq y p
          generalize hP : en p = P at *
          clear hP hpl
          go_wp2_with fail
          go_loopw [48] (fun s48 wr => (s48 = .int .i64 0 ∧ Blk wr W7.heap.size (DC 0 0 false 0) 57 ∧ Below W7.heap.size W7 wr) ∨ (s48 = .int .i64 1 ∧ Blk wr W7.heap.size (DC xa 0 false 0) 57 ∧ Below W7.heap.size W7 wr) ∨ (s48 = .int .i64 2 ∧ Blk wr W7.heap.size (DC xa xb false 0) 57 ∧ Below W7.heap.size W7 wr)) (fun s _ => 2 - (intOf s).toNat)
          case atStart => exact Or.inl ⟨rfl, X8, b8⟩
          case round =>
            clear X8 b8
            rcases hrel with ⟨rfl, X9, b9⟩ | ⟨rfl, X9, b9⟩ | ⟨rfl, X9, b9⟩
            · go_wp2_with fail
              refine (CN0 _).mono ?_
              rintro e wr ⟨rfl, rfl⟩
              have CB := SE0 wr (q7.below b9)
              go_wp2_with fail
              refine CB.mono ?_
              rintro e W9 ⟨rfl, z9⟩
              have b10 := b9.trans (z9.mono b9.size)
              have X10 := X9.below z9 X9.lt
              clear CB X9 b9 z9
              rcases HB0 with ⟨jj, hI, hf, hxj⟩ | ⟨hf, hxj⟩
              · subst hf
                rw [← hI] at hxj
                clear hI
                have cX := X10.cell 0
                have fX := X10.free 0
                go_wp2_with fail
                go_roundw
                case rel => exact Or.inr (Or.inl ⟨rfl, by rw [hxj]; exact X10.setCell _ _, (but_setCell _ _ _ _).below b10 (Nat.le_refl _)⟩)
                case measure => simp [intOf]
              · subst hf
                go_wp2_with fail
                go_roundw
                case rel => exact Or.inr (Or.inl ⟨rfl, by rw [hxj]; exact X10, b10⟩)
                case measure => simp [intOf]
            · go_wp2_with fail
              refine (CN1 _).mono ?_
              rintro e wr ⟨rfl, rfl⟩
              have CB := SE1 wr (q7.below b9)
              go_wp2_with fail
              refine CB.mono ?_
              rintro e W9 ⟨rfl, z9⟩
              have b10 := b9.trans (z9.mono b9.size)
              have X10 := X9.below z9 X9.lt
              clear CB X9 b9 z9
              rcases HB1 with ⟨jj, hI, hf, hxj⟩ | ⟨hf, hxj⟩
              · subst hf
                rw [← hI] at hxj
                clear hI
                have cX := X10.cell 1
                have fX := X10.free 1
                go_wp2_with fail
                go_roundw
                case rel => exact Or.inr (Or.inr ⟨rfl, by rw [hxj]; exact X10.setCell _ _, (but_setCell _ _ _ _).below b10 (Nat.le_refl _)⟩)
                case measure => simp [intOf]
              · subst hf
                go_wp2_with fail
                go_roundw
                case rel => exact Or.inr (Or.inr ⟨rfl, by rw [hxj]; exact X10, b10⟩)
                case measure => simp [intOf]
            · clear SE0 SE1 CN0 CN1 HB0 HB1 z1 z2 z3
              go_wp2_with fail
              go_loopw [68] (fun s68 wr => ∃ n : Nat, s68 = .int .i64 (n : Int) ∧ n ≤ i ∧ Blk wr W7.heap.size (DC xa xb (f n).isSome ((f n).getD 0)) 57 ∧ Below W7.heap.size W7 wr) (fun s _ => i - (intOf s).toNat)
              case atStart => exact ⟨0, rfl, Nat.zero_le _, by rw [HF0.out]; exact X9, b9⟩
              case round =>
                clear X9 b9
                obtain ⟨n, rfl, hn2, X9, b9⟩ := hrel
                by_cases hlt5 : n < i
                · have hlt5' : (n : Int) < (i : Int) := by omega
                  have hr9 := hr7.below b9
                  obtain ⟨y, hy⟩ := HG.out n hlt5
                  obtain ⟨b2, o2, e2, hb2, _⟩ := rd_spot hr9 (by have := HM.out; omega)
                  subst e2
                  obtain ⟨hb2, cy0, cy1⟩ := row_at hr9 hy
                  have hfs := HFS.out n y hy
                  have dA := (Below.refl wr.heap.size wr).alloc (Nat.le_refl _) (.cells ZR 45)
                  go_upto_region 28 with (refine blk_store _ rfl 45 _ _ rfl wr.heap.size (rwc y) rfl rfl _ _ (Blk.new wr ZR 45) 2 rw_info rfl rfl (rw_one y) ?_; intro W5 N5 p5)
                  have zz := p5.below dA (Nat.le_refl _)
                  have N5' : Blk W5 wr.heap.size #[.string (en y.1), .int .i64 y.2] 45 := N5
                  have X10 := X9.below zz X9.lt
                  have b10 := b9.trans (zz.mono b9.size)
                  have cN := N5'.cell
                  clear dA p5 cy0 cy1 hb2 zz N5 X9 b9
                  have hq := HE.out y.1
                  clear HFS HE hy
                  by_cases hpy : p = y.1
                  · rw [if_pos hpy] at hfs
                    rw [decide_eq_true hpy] at hq
                    clear hpy
                    generalize en y.1 = Y at *
                    generalize y.2 = yv at *
                    have HX : Hid (DC xa xb true yv = DC xa xb (f (n + 1)).isSome ((f (n + 1)).getD 0)) := by show _ = _; rw [hfs]; rfl
                    generalize (f n).isSome = fs at *
                    generalize (f n).getD 0 = fv at *
                    clear hfs
                    have cX := X10.cell
                    have fX := X10.free
                    go_upto_region 29 with fail
                    have HK : Hid (Blk ((W5.setCell ⟨W7.heap.size, 2, none⟩ (.bool true)).setCell ⟨W7.heap.size, 3, none⟩ (.int .i64 yv)) W7.heap.size (DC xa xb true yv) 57 ∧ Blk ((W5.setCell ⟨W7.heap.size, 3, none⟩ (.int .i64 yv)).setCell ⟨W7.heap.size, 2, none⟩ (.bool true)) W7.heap.size (DC xa xb true yv) 57) := ⟨(X10.setCell 2 _).setCell 3 _, (X10.setCell 3 _).setCell 2 _⟩
                    have HBl : Hid (Below W7.heap.size W7 ((W5.setCell ⟨W7.heap.size, 2, none⟩ (.bool true)).setCell ⟨W7.heap.size, 3, none⟩ (.int .i64 yv)) ∧ Below W7.heap.size W7 ((W5.setCell ⟨W7.heap.size, 3, none⟩ (.int .i64 yv)).setCell ⟨W7.heap.size, 2, none⟩ (.bool true))) := ⟨(but_setCell _ _ _ _).below ((but_setCell _ _ _ _).below b10 (Nat.le_refl _)) (Nat.le_refl _), (but_setCell _ _ _ _).below ((but_setCell _ _ _ _).below b10 (Nat.le_refl _)) (Nat.le_refl _)⟩
                    go_region
                    go_wp2_with fail
                    go_roundw
                    case rel => exact ⟨n + 1, by go_num, by omega, by rw [← HX.out]; first | exact HK.out.1 | exact HK.out.2, by first | exact Below.drew HBl.out.1 | exact Below.drew HBl.out.2⟩
                    case measure => simp [intOf]; omega
                  · rw [if_neg hpy] at hfs
                    rw [decide_eq_false hpy] at hq
                    clear hpy
                    go_wp2_with fail
                    go_roundw
                    case rel => exact ⟨n + 1, by go_num, by omega, by rw [hfs]; exact X10, b10⟩
                    case measure => simp [intOf]; omega
                · obtain rfl : n = i := by omega
                  rw [HXE.out] at X9
                  have T9 := T7.below b9 T7.lt
                  have O9 := O7.kept b9
                  have bel9 := bel7.trans (b9.mono bel7.size)
                  have hlj : (LL.take j).length ≤ 1000000 := by rw [List.length_take]; omega
                  clear HFS HE T7 O7 bel7 b9 q7 hr7
                  obtain ⟨sm, sn, em⟩ := (Own.rd O9).form
                  generalize LL.take j = L0 at *
                  have O10 := O9.alloc (.cells (Nd.cells x) 57)
                  have Y10 := Blk.new wr (Nd.cells x) 57
                  have d10 := (Below.refl wr.heap.size wr).alloc (Nat.le_refl _) (.cells (Nd.cells x) 57)
                  have hB10 : W3.heap.size + 1 ≤ (wr.alloc (.cells (Nd.cells x) 57)).heap.size := by have := T9.lt; simp; omega
                  have neT := own_ne O9 (show W3.heap.size < W3.heap.size + 1 by omega)
                  subst em
                  have cT := T9.cell
                  have cX := X9.cell
                  go_upto_region 31 with fail
                  go_wp2_with (at_builtin; refine app_at DK _ rfl _ _ rfl (W3.heap.size + 1) _ L0 rfl O10 wr.heap.size 1 x 57 rfl Y10 (by omega) (by show (L0.length + 1) * 32 ≤ _; omega) hB10 ?_)
                  intro v12 W12 O12 g12 x12
                  have o12 := (Only.of_below (v := .slice sm L0.length sn) d10).trans (Only.of_app g12 (x12.imp id fun e => by rw [e]; simp))
                  have T12 := o12.blk T9 neT
                  have bel12 := bel9.trans (o12.below (fun g hg => by have := own_ge O9 g hg; omega) bel9.size)
                  have ne12 := own_ne O12 (show W3.heap.size < W3.heap.size + 1 by omega)
                  have O13 := fun u => O12.setCell (i := 0) (u := u) ne12
                  have T13 := fun u => T12.setCell 0 u
                  have d13 := fun u => (but_setCell W12 W3.heap.size 0 u).below bel12 (Nat.le_refl _)
                  have c12 := T12.cell 0
                  have f12 := T12.free 0
                  clear o12 T12 bel12 ne12 g12 x12 T9 O9 bel9 O10 Y10 d10 hB10 neT cT cX X9
                  obtain ⟨sm2, sn2, em2⟩ := (Own.rd O12).form
                  clear O12
                  have HO13 := show Hid (∀ u, Own DK (W12.setCell ⟨W3.heap.size, 0, none⟩ u) (W3.heap.size + 1) v12 (L0 ++ [x])) from O13
                  clear O13
                  subst em2
                  generalize (L0 ++ [x]).length = ll at *
                  go_wp2_with fail
                  go_roundw
                  case rel => exact ⟨j + 1, _, by go_num, by omega, T13 _, by rw [HLX.out]; exact HO13.out _, d13 _⟩
                  case measure => simp [intOf]; omega
        · obtain rfl : j = k := by omega
          rw [List.take_of_length_le (by omega)] at O7
          have R7 := R5.below bel7 R5.lt
          have b7 := b5.trans (bel7.mono b5.size)
          have cT := T7.cell
          obtain ⟨sm, sn, em⟩ := (Own.rd O7).form
          clear HND HPL HPG q5 hr5 HG HK HM hLp hps
          subst em
          go_upto_region 33 with fail
          go_wp2_with (refine blk_store _ rfl 24 _ _ rfl w.heap.size (TC (.slice sm LL.length sn)) rfl rfl _ _ R7 1 tr_info rfl rfl (tk_one _ ⟨_, _, _, rfl⟩) ?_; intro W8 K8 p8)
          exact blk_one rfl rfl w.heap.size (TC (.slice sm LL.length sn)) 24 rfl K8 _ Try.underlying24 rfl 1 tr_info rfl ⟨_, rfl, (O7.but p8 (own_ne O7 (by have := b5.size; omega))).mono (by have := b5.size; omega), p8.below b7 (by omega)⟩
end Go.Proofs.Ytiddpkppfpdfhaa.pf
