/- What ip.Read answers, and that it changes nothing that was there. -/
import Derived.Test.YtedbjhpajpakpaaDoorIpWrite2
import Derived.Test.YtedbjhpajpakpaaDoorLast
import Derived.Test.YtedbjhpajpakpaaDoorIpMath
namespace Go.Proofs.YtedbjhpajpakpaaDoor.ipr
open Go.ChangeShapes Go.WideShapes Go.ChangeAt Go.RowKit Go.BigFrame
open Go.Proofs.YtedbjhpajpakpaaDoor Go.Proofs.YtedbjhpajpakpaaDoor.EM Go.Proofs.YtedbjhpajpakpaaDoor.ethb Go.Proofs.YtedbjhpajpakpaaDoor.SM Go.Proofs.YtedbjhpajpakpaaDoor.ipb Go.Proofs.YtedbjhpajpakpaaDoor.buf Go.Proofs.YtedbjhpajpakpaaDoor.boxes Go.Proofs.YtedbjhpajpakpaaDoor.ipi Go.Proofs.YtedbjhpajpakpaaDoor.ipw
open Go.Proofs.YtedbjhpajpakpaaDoor.sumw (Qd)
open Go.Proofs.YtedbjhpajpakpaaDoor.ipm (bytes_ext ext_list)

theorem pk_info : (Tryd.prog.info? 31).map (·.size) = some 11 := by kernel_rfl
theorem w64 (n : Int) (h0 : 0 ≤ n) (h1 : n ≤ 65535) : wrap64 n = n := by unfold wrap64; omega
theorem pk_one (p : Pk) : p.cells.all (·.oneCell') = true := by simp [Value.oneCell']
/-- the packet of a head and its data -/
def pof (s d : ByteArray) : Pk :=
  ⟨bt s 1, wd s 4, decide (wd s 6 / 16384 % 2 = 1), decide (wd s 6 / 8192 % 2 = 1), wd s 6 % 8192, bt s 8, bt s 9, 65536 * wd s 12 + wd s 14, 65536 * wd s 16 + wd s 18, s.extract 20 s.size, d⟩
theorem addressAt_int (s : ByteArray) (k : Int) (w : World) (hs : s.size ≤ 281474976710656) (h0 : 0 ≤ k) (h : k + 3 < s.size) :
    Calls Tryd.prog 53 #[.string s, .int .i64 k] w fun e w' => e = .returned (.int .u32 (65536 * wd s k.toNat + wd s (k.toNat + 2))) ∧ Qd w w' := by
  obtain ⟨n, rfl⟩ := Int.eq_ofNat_of_zero_le h0
  exact addressAt_any s n w hs (by omega)
/-- results: a block -/
theorem blk_ret1 {fn : Func} {p : Tmp} {ty : TypeId} {R : Ending → World → Prop} {a : Act} {W : World} (h : fn.results = #[.cell p ty]) (hd : a.defers = []) (b : Nat) (F : Array Value) (t : TypeId) (hp : a.tmps.getD p undef = .pointer (some ⟨b, 0, none⟩)) (k : Blk W b F t)
    (d : TypeDesc) (hu : Tryd.prog.underlying ty = some d) (hdd : wideD d = true) (n : Nat) (hi : (Tryd.prog.info? ty).map (·.size) = some n) (hn : F.size = n)
    (hR : R (.returned (.agg F)) W) : bodyPost Tryd.prog fn R .ret a W := by
  refine bodyPost_ret (v := .agg F) ?_ hd hR
  simp only [results, h]
  simp [Sem.run_bind, Result.andThen]
  rw [show a.tmps[p]?.getD undef = .pointer (some ⟨b, 0, none⟩) from (by simpa using hp)]
  simp [asAddr, run_loadVar_row W b t ty F (0, 0) d k hu (by cases d <;> first | rfl | cases hdd) (by rw [hn]; exact hi)]
set_option maxHeartbeats 2000000 in
theorem packetOf_any (s d : ByteArray) (w : World) (hs : s.size ≤ 281474976710656) (h : 20 ≤ s.size) :
    Calls Tryd.prog 38 #[.string s, .string d] w fun e w' => e = .returned (.agg (pof s d).cells) ∧ Below w.heap.size w w' := by
  have f0 := (wd_bd s 6).1
  have f1 := (wd_bd s 6).2
  have A1 := and_bit16 (wd s 6) 14 (by omega) 16384 (by decide) f0 f1
  have A2 := and_bit16 (wd s 6) 13 (by omega) 8192 (by decide) f0 f1
  have A3 := and_low (wd s 6) f0 f1
  have x1 : ∀ u, (Instr.index 9 (.string s) (.int .i64 1)).run Tryd.prog u = .ok (.int .u8 (bt s 1)) u := index_at s 1 (by omega)
  have x8 : ∀ u, (Instr.index 9 (.string s) (.int .i64 8)).run Tryd.prog u = .ok (.int .u8 (bt s 8)) u := index_at s 8 (by omega)
  have x9 : ∀ u, (Instr.index 9 (.string s) (.int .i64 9)).run Tryd.prog u = .ok (.int .u8 (bt s 9)) u := index_at s 9 (by omega)
  have h' : (20 : Int) ≤ s.size := by omega
  have y := fun u => run_slice_string_l u 9 s Tryd.underlying9 .i64 20 (by omega) h'
  go_enter Tryd.func38, Tryd.ntmps38
  go_wp2_with fail
  refine (wordAt_any s 6 _ hs (by omega)).mono ?_
  rintro e w1 ⟨rfl, m, rfl⟩
  go_upto_region 2 with fail
  have G : Blk ((w.alloc (.cells zeroP.cells 31)).drewN m) w.heap.size zeroP.cells 31 := Blk.drewN (Blk.new _ _ _) _
  have GB : Below w.heap.size w ((w.alloc (.cells zeroP.cells 31)).drewN m) := bdrewN ((Below.refl _ _).alloc (Nat.le_refl _) _) _
  have K : KP w zeroP ((w.alloc (.cells zeroP.cells 31)).drewN m) := ⟨G, GB⟩
  have ne : Nonempty (cls.In (KP w zeroP)) := ⟨⟨_, K⟩⟩
  have cw : ∀ (x : cls.In (KP w zeroP)) w', Qd x.W w' → KP w zeroP w' := fun x w' q => ⟨qd_blk q x.h.m, x.h.bel.trans (qd_below q)⟩
  refine lst.wp_region_last (KP w zeroP) (by kernel_rfl) (by simp only [List.dropLast]; exact rfl) (by simp only [List.getLast?_cons_cons, List.getLast?_singleton]; exact rfl) (by kernel_rfl) (by kernel_rfl) (KP.drew K) ?_
  repeat (go_big_quiet_step (first
    | (go_at_call 18; exact cls.call_class (wordAt_int s _ _ hs (by omega) (by omega)) fun _ hq => cw _ _ hq)
    | (go_at_call 53; exact cls.call_class (addressAt_int s _ _ hs (by omega) (by omega)) fun _ hq => cw _ _ hq)))
  refine wpQuiet_nil ?_
  intro _ hx
  obtain ⟨x, rfl⟩ := hx
  obtain ⟨W, Kx⟩ := x
  clear ne cw G GB K
  have E1 : Hid ((bits .and .u16 (wd s 6) 16384 != 0) = decide (wd s 6 / 16384 % 2 = 1)) := by
    show _ = _
    rw [A1]
    rcases Int.emod_two_eq (wd s 6 / 16384) with e | e <;> rw [e] <;> rfl
  have E2 : Hid ((bits .and .u16 (wd s 6) 8192 != 0) = decide (wd s 6 / 8192 % 2 = 1)) := by
    show _ = _
    rw [A2]
    rcases Int.emod_two_eq (wd s 6 / 8192) with e | e <;> rw [e] <;> rfl
  refine blk_store W rfl 31 _ _ rfl _ (pof s d).cells rfl ?e1 _ _ Kx.m 11 pk_info rfl rfl (pk_one _) ?_
  case e1 =>
    have r1 := bt_bd s 1
    have r8 := bt_bd s 8
    have r9 := bt_bd s 9
    have r4 := wd_bd s 4
    have E1 := E1.out
    have E2 := E2.out
    rw [A1] at E1
    rw [A2] at E2
    simp [Act.eval, pof]
    exact ⟨w64 _ (by omega) (by omega), w64 _ (by omega) (by omega), E1, E2, w64 _ (by omega) (by omega), w64 _ (by omega) (by omega)⟩
  intro W2 k2 p2
  clear x1 x8 x9 y
  go_wp2_with fail
  exact blk_ret1 rfl rfl _ _ _ rfl k2 _ Tryd.underlying31 rfl 11 pk_info rfl ⟨rfl, p2.below Kx.bel (Nat.le_refl _)⟩

theorem pof_rdp (s : ByteArray) (h : 20 ≤ hn s) (ha : hn s ≤ s.size) : pof (s.extract 0 (hn s)) (s.extract (hn s) (an s)) = rdp s := by
  have hb : ∀ k, k < hn s → bt (s.extract 0 (hn s)) k = bt s k := fun k hk => by
    unfold bt
    rw [ext_list, List.drop_zero, List.getD_eq_getElem?_getD, List.getD_eq_getElem?_getD, List.getElem?_take, if_pos hk]
  have hw : ∀ k, k + 1 < hn s → wd (s.extract 0 (hn s)) k = wd s k := fun k hk => by unfold wd; rw [hb k (by omega), hb (k + 1) hk]
  have hz : (s.extract 0 (hn s)).size = hn s := by rw [ByteArray.size_extract]; omega
  have ho : (s.extract 0 (hn s)).extract 20 (s.extract 0 (hn s)).size = s.extract 20 (hn s) := by
    rw [hz]
    apply bytes_ext
    rw [ext_list, ext_list, ext_list, List.drop_zero, List.take_take, Nat.min_self]
  unfold pof rdp
  rw [ho, hb 1 (by omega), hb 8 (by omega), hb 9 (by omega), hw 4 (by omega), hw 6 (by omega), hw 12 (by omega), hw 14 (by omega), hw 16 (by omega), hw 18 (by omega)]

theorem read_short (s : ByteArray) (w : World) (h : s.size < 20) :
    Calls Tryd.prog 14 #[.string s] w fun e w' => e = .returned (.tuple #[.agg zeroP.cells, .int .i64 3]) ∧ Below w.heap.size w w' := by
  have k := Blk.new w zeroP.cells 31
  go_enter Tryd.func14, Tryd.ntmps14
  go_wp2_with (refine blk_store _ rfl 31 _ _ rfl _ zeroP.cells rfl rfl _ _ k 11 pk_info rfl rfl (pk_one _) ?_; intro W2 k2 p2)
  exact blk_ret2 rfl rfl _ _ _ rfl k2 _ Tryd.underlying31 rfl 11 pk_info rfl ⟨rfl, p2.below ((Below.refl _ _).alloc (Nat.le_refl _) _) (Nat.le_refl _)⟩
end Go.Proofs.YtedbjhpajpakpaaDoor.ipr
