/- Texts that were joined: SgN, CrvS, CrvGroup, CrvN, SgTp. -/
import Derived.Test.YtfknkfninjjgbaaGreatDoorQCurvePkToSgF
import Derived.Test.YtfknkfninjjgbaaGreatDoorQCAssToRPt
import Derived.Test.YtfknkfninjjgbaaGreatDoorQUpA
import Derived.Test.YtfknkfninjjgbaaGreatDoorQFldCToROft
import Derived.Test.YtfknkfninjjgbaaGreatDoorQSgMToSgTb
import Derived.Test.YtfknkfninjjgbaaGreatDoorQHLawToSDig
import Derived.Test.YtfknkfninjjgbaaGreatDoorQHLaidToHRS
import Derived.Test.YtfknkfninjjgbaaGreatDoorQUp3ToSBy
import Derived.Test.YtfknkfninjjgbaaGreatDoorQKnToDNum
import Derived.Test.YtfknkfninjjgbaaGreatDoorQAdNToFiF
import Derived.Test.YtfknkfninjjgbaaGreatDoorQYcToIntN
import Derived.Test.YtfknkfninjjgbaaGreatDoorQFeL
import Derived.Test.YtfknkfninjjgbaaGreatDoorQUpToUpS
/- Package sign, as it landed: New. -/
namespace Go.Proofs.YtfknkfninjjgbaaGreatDoor
open Go.RowKit
attribute [local go_sem] World.cell?_alloc_some cell_alloc2 cell_alloc3 cell_alloc4 frozen?_alloc_cells frozen_out
attribute [local simp] MP.eq_p
set_option linter.unusedSimpArgs false
theorem cfHN (args : Array Value) (W : World) : (callFunc 16 args).run Tryz.prog W = .ok (.enter 16 args) W := cf_is (fn := Tryz.f16) (by kernel_rfl) (by decide) (by kernel_rfl) args W
theorem cfHW (args : Array Value) (W : World) : (callFunc 17 args).run Tryz.prog W = .ok (.enter 17 args) W := cf_is (fn := Tryz.f17) (by kernel_rfl) (by decide) (by kernel_rfl) args W
theorem cfHS (args : Array Value) (W : World) : (callFunc 18 args).run Tryz.prog W = .ok (.enter 18 args) W := cf_is (fn := Tryz.f18) (by kernel_rfl) (by decide) (by kernel_rfl) args W
theorem cfPB (args : Array Value) (W : World) : (callFunc 19 args).run Tryz.prog W = .ok (.enter 19 args) W := cf_is (fn := Tryz.f19) (by kernel_rfl) (by decide) (by kernel_rfl) args W
theorem yields_ld4 {o : Oper} {a : Act} {w : World} {k : Nat} {x : Nm} {L : List (Nat × List Value)} {i : Nat} (s : Operand) (ho : o.op = .load 26 s) (hs : a.eval s = .pointer (some ⟨k, 0, none⟩)) (h : Kn w L) (hi : L[i]? = some (k, c4 x)) : YieldsP Tryz.prog o a w (MP.eq (N x)).p := by
 have u0 := Kn.get h i 0 hi rfl
 have u1 := Kn.get h i 1 hi rfl
 have u2 := Kn.get h i 2 hi rfl
 have u3 := Kn.get h i 3 hi rfl
 have e : (execOp a.eval o).run Tryz.prog w = .ok (.value (N x)) w := by
  generalize a.eval = ev at *
  unfold execOp
  simp [ho, hs, go_sem, u0, u1, u2, u3]
 unfold YieldsP
 rw [e]
 exact ⟨rfl, Below.refl _ _⟩
theorem yields_by1 {o : Oper} {a : Act} {w : World} (x : Operand) (ho : o.op = .buildSlice 23 1 #[(0, x)]) (b : Nat) (hx : a.eval x = .int .u8 (b : Int)) : YieldsP Tryz.prog o a w (MP.byF [b]).p := by
 have e : (execOp a.eval o).run Tryz.prog w = .ok (.value (.slice (some ⟨w.heap.size, 0, none⟩) 1 1)) (w.alloc (.cells #[.int .u8 (b : Int)] 5)) := by
  generalize a.eval = ev at *
  unfold execOp
  simp [ho, hx, go_sem]
 unfold YieldsP
 rw [e]
 exact ⟨By.one (by rw [cell_top rfl]; rfl), (Below.refl _ _).alloc (Nat.le_refl _) _⟩
theorem yields_build3 {o : Oper} {a : Act} {w : World} (T : TypeId) (x y z : Operand) (ho : o.op = .build T #[(0, x), (1, y), (2, z)]) {u v t : Value} {cs : List Value} (hx : a.eval x = u) (hy : a.eval y = v) (hz : a.eval z = t) (hb : Tryz.prog.built T [(0, u), (1, v), (2, t)] = some cs.toArray) : YieldsP Tryz.prog o a w (MP.eq (.agg cs.toArray)).p := by
 have e1 : (Instr.build T ((#[(0, x), (1, y), (2, z)] : Array (Nat × Operand)).map fun x => (x.fst, a.eval x.snd))).run Tryz.prog w = .ok (.agg cs.toArray) w := run_build w T _ _ (by simpa [hx, hy, hz] using hb)
 have e : (execOp a.eval o).run Tryz.prog w = .ok (.value (.agg cs.toArray)) w := by
  simp only [execOp, ho, Sem.run_bind, e1, Result.andThen_ok, Sem.run_pure]
 unfold YieldsP
 rw [e]
 exact ⟨rfl, Below.refl _ _⟩
theorem pair_built (x : Nm) (m a : Nat) : Tryz.prog.built 28 [(0, N x), (1, bV m), (2, bV a)] = some (prR x m a).toArray := by kernel_rfl
set_option maxRecDepth 20000 in
set_option maxHeartbeats 2000000 in
theorem sgNew_walk (n m a : Nat) (d x : Nm) (sv0 sv1 sv2 : Value) (xs : List Nat) (hxs : S.by n = xs)
  (DG : Hid (∀ u w, By w u xs → KTab w → Calls Tryz.prog 15 #[.int .u8 1, u] w fun e w' => e = .returned (N d) ∧ Below w.heap.size w w'))
  (OO : ∀ w, Calls Tryz.prog 14 #[N d] w fun e w' => e = .returned (N x) ∧ Below w.heap.size w w')
  (N1 : Hid (∀ w, Calls Tryz.prog 16 #[] w fun e w' => e = .returned sv0 ∧ Below w.heap.size w w'))
  (W1 : Hid (∀ v w, By w v [2] → KTab w → Calls Tryz.prog 17 #[sv0, v] w fun e w' => e = .returned sv1 ∧ Below w.heap.size w w'))
  (W2 : Hid (∀ v w, By w v xs → KTab w → Calls Tryz.prog 17 #[sv1, v] w fun e w' => e = .returned sv2 ∧ Below w.heap.size w w'))
  (S1 : Hid (∀ w, KTab w → Calls Tryz.prog 18 #[sv2] w fun e w' => e = .returned (bV m) ∧ Below w.heap.size w w'))
  (PB : ∀ w, Calls Tryz.prog 19 #[N x] w fun e w' => e = .returned (.agg (bR (a)).toArray) ∧ Below w.heap.size w w')
  (w : World) (hT : KTab w) :
  Calls Tryz.prog 6 #[bV n] w fun e w' => e = .returned (prV x m a) ∧ Below w.heap.size w w' := by
 have HX : Hid _ := hxs
 have HT : Hid (KTab w) := hT
 clear hxs hT
 go_enter Tryz.func6, Tryz.ntmps6
 have s0 : Hid (Kn ((w.alloc (.cells (bR (n)).toArray 22)).alloc (.cells #[Value.int IntKind.u64 0, .int .u64 0, .int .u64 0, .int .u64 0, Value.int IntKind.u8 0, .int .u8 0, .int .u8 0, .int .u8 0, .int .u8 0, .int .u8 0, .int .u8 0, .int .u8 0, .int .u8 0, .int .u8 0, .int .u8 0, .int .u8 0, .int .u8 0, .int .u8 0, .int .u8 0, .int .u8 0, .int .u8 0, .int .u8 0, .int .u8 0, .int .u8 0, .int .u8 0, .int .u8 0, .int .u8 0, .int .u8 0, .int .u8 0, .int .u8 0, .int .u8 0, .int .u8 0, .int .u8 0, .int .u8 0, .int .u8 0, .int .u8 0, .int .u8 0, .int .u8 0, .int .u8 0, .int .u8 0, .int .u8 0, .int .u8 0, .int .u8 0, .int .u8 0, .int .u8 0, .int .u8 0, .int .u8 0, .int .u8 0, .int .u8 0, .int .u8 0, .int .u8 0, .int .u8 0, .int .u8 0, .int .u8 0, .int .u8 0, .int .u8 0, .int .u8 0, .int .u8 0, .int .u8 0, .int .u8 0, .int .u8 0, .int .u8 0, .int .u8 0, .int .u8 0, .int .u8 0, .int .u8 0, .int .u8 0, .int .u8 0] 28)) [(w.heap.size + 1, pairZ), (w.heap.size, (bR (n)))]) := (((Kn.nil w).al (bR (n)) 22 rfl).al pairZ 28 (by simp))
 have b0 : Hid (Below w.heap.size w ((w.alloc (.cells (bR (n)).toArray 22)).alloc (.cells #[Value.int IntKind.u64 0, .int .u64 0, .int .u64 0, .int .u64 0, Value.int IntKind.u8 0, .int .u8 0, .int .u8 0, .int .u8 0, .int .u8 0, .int .u8 0, .int .u8 0, .int .u8 0, .int .u8 0, .int .u8 0, .int .u8 0, .int .u8 0, .int .u8 0, .int .u8 0, .int .u8 0, .int .u8 0, .int .u8 0, .int .u8 0, .int .u8 0, .int .u8 0, .int .u8 0, .int .u8 0, .int .u8 0, .int .u8 0, .int .u8 0, .int .u8 0, .int .u8 0, .int .u8 0, .int .u8 0, .int .u8 0, .int .u8 0, .int .u8 0, .int .u8 0, .int .u8 0, .int .u8 0, .int .u8 0, .int .u8 0, .int .u8 0, .int .u8 0, .int .u8 0, .int .u8 0, .int .u8 0, .int .u8 0, .int .u8 0, .int .u8 0, .int .u8 0, .int .u8 0, .int .u8 0, .int .u8 0, .int .u8 0, .int .u8 0, .int .u8 0, .int .u8 0, .int .u8 0, .int .u8 0, .int .u8 0, .int .u8 0, .int .u8 0, .int .u8 0, .int .u8 0, .int .u8 0, .int .u8 0, .int .u8 0, .int .u8 0] 28))) := (((Below.refl _ _).alloc (Nat.le_refl _) _).alloc (by simp <;> omega) _)
 have Y0 := Kn.by32 s0.out 1 rfl
 rw [HX.out] at Y0
 go_wp2_with (first | simp only [zero_pair] | refine wp_all32 rfl _ rfl w.heap.size rfl ?_)
 refine (DG.out _ _ Y0 (HT.out.up b0.out HT.out.pos)).mono ?_
 rintro e w1 ⟨rfl, hb1⟩
 have s1 : Hid (Kn w1 _) := s0.out.up hb1
 have b1 : Hid (Below w.heap.size w w1) := b0.out.trans (hb1.mono b0.out.size)
 have z1 := b1.out.size
 clear hb1 s0 b0
 clear Y0
 go_wp2_with fail
 refine (OO _).mono ?_
 rintro e w2 ⟨rfl, hb2⟩
 have s2 : Hid (Kn w2 _) := s1.out.up hb2
 have b2 : Hid (Below w.heap.size w w2) := b1.out.trans (hb2.mono b1.out.size)
 have z2 := b2.out.size
 clear hb2 s1 b1
 have s3 : Hid (Kn (kal4 w2 (x)) [(w2.heap.size, (c4 (x))), (w.heap.size + 1, pairZ), (w.heap.size, (bR (n)))]) := s2.out.al (c4 (x)) 26 rfl
 have b3 : Hid (Below w.heap.size w (kal4 w2 (x))) := b2.out.alloc b2.out.size _
 have z3 := b2.out.size
 clear s2 b2
 go_wp2_with fail
 have G : Hid _ := s3
 have KU : Hid (∀ W, Below (kal4 w2 x).heap.size (kal4 w2 x) W → KTab W) := fun W hW => HT.out.up (b3.out.trans (hW.mono b3.out.size)) HT.out.pos
 refine wp_region_monoSE 10 [MP.eq (N x), MP.eq sv0, MP.byF [2], MP.eq sv1, MP.eq (.slice (some ⟨w.heap.size, 0, none⟩) 32 32), MP.eq sv2, MP.eq (bV m), MP.eq (N x), MP.eq (bV a), MP.eq (prV x m a)] (by kernel_rfl) (by kernel_rfl) rfl (by decide) (by kernel_rfl) ?_
 apply Exists.intro
 refine ⟨fun vals => ?_, ?_, fun vals4 w4 hb4 hF hO => ?_⟩
 ·simp only [putsV, dstL, List.length_cons, List.length_nil, Nat.zero_add, Nat.reduceAdd, List.getElem?_cons_zero, List.getElem?_cons_succ, Option.bind_some, Act.put, List.setIfInBounds_toArray, List.set_cons_succ, List.set_cons_zero]
  rfl
 ·refine ⟨?_, ?_, ?_, ?_, ?_, ?_, ?_, ?_, ?_, ?_, trivial⟩
  ·intro vals W hW hw hd
   try simp [Region.binds] at hd
   refine ⟨by first | rfl | simp [Region.wanted, yielded, hd], ?_⟩
   exact yields_ld4 (.tmp 3) rfl rfl (G.out.up hW.out) (i := 0) rfl
  ·intro vals W hW hw hd
   try simp [Region.binds] at hd
   refine ⟨by first | rfl | simp [Region.wanted, yielded, hd], ?_⟩
   exact yields_call0 cfHN _ rfl ((N1.out W).mono fun e w' ⟨he, hb⟩ => ⟨_, he, rfl, hb⟩)
  ·intro vals W hW hw hd
   try simp [Region.binds] at hd
   refine ⟨by first | rfl | simp [Region.wanted, yielded, hd], ?_⟩
   exact yields_by1 (.const (.int .u8 2)) rfl 2 rfl
  ·intro vals W hW hw hd
   try simp [Region.binds] at hd
   refine ⟨by first | rfl | simp [Region.wanted, yielded, hd], ?_⟩
   exact yields_call2 cfHW (.tmp 8) (.tmp 9) _ rfl sv0 _ (by first | exact hd | exact hd.1 | exact hd.2 | exact hd.2.1 | exact hd.2.2 | exact hd.2.2.1 | exact hd.2.2.2 | exact hd.2.2.2.1 | exact hd.2.2.2.2) rfl ((W1.out _ W (by first | exact hd | exact hd.1 | exact hd.2 | exact hd.2.1 | exact hd.2.2 | exact hd.2.2.1 | exact hd.2.2.2 | exact hd.2.2.2.1 | exact hd.2.2.2.2) (KU.out W hW.out)).mono fun e w' ⟨he, hb⟩ => ⟨_, he, rfl, hb⟩)
  ·intro vals W hW hw hd
   try simp [Region.binds] at hd
   refine ⟨by first | rfl | simp [Region.wanted, yielded, hd], ?_⟩
   exact yields_all u_b32 u_b32r (by decide) (.tmp 1) rfl w.heap.size 0 rfl rfl
  ·intro vals W hW hw hd
   try simp [Region.binds] at hd
   refine ⟨by first | rfl | simp [Region.wanted, yielded, hd], ?_⟩
   exact yields_call2 cfHW (.tmp 10) (.tmp 11) _ rfl sv1 _ (by first | exact hd | exact hd.1 | exact hd.2 | exact hd.2.1 | exact hd.2.2 | exact hd.2.2.1 | exact hd.2.2.2 | exact hd.2.2.2.1 | exact hd.2.2.2.2) (by first | exact hd | exact hd.1 | exact hd.2 | exact hd.2.1 | exact hd.2.2 | exact hd.2.2.1 | exact hd.2.2.2 | exact hd.2.2.2.1 | exact hd.2.2.2.2) ((W2.out _ W (by have := Kn.by32 (G.out.up hW.out) 2 rfl; rwa [HX.out] at this) (KU.out W hW.out)).mono fun e w' ⟨he, hb⟩ => ⟨_, he, rfl, hb⟩)
  ·intro vals W hW hw hd
   try simp [Region.binds] at hd
   refine ⟨by first | rfl | simp [Region.wanted, yielded, hd], ?_⟩
   exact yields_call1 cfHS (.tmp 12) _ rfl sv2 (by first | exact hd | exact hd.1 | exact hd.2 | exact hd.2.1 | exact hd.2.2 | exact hd.2.2.1 | exact hd.2.2.2 | exact hd.2.2.2.1 | exact hd.2.2.2.2) ((S1.out W (KU.out W hW.out)).mono fun e w' ⟨he, hb⟩ => ⟨_, he, rfl, hb⟩)
  ·intro vals W hW hw hd
   try simp [Region.binds] at hd
   refine ⟨by first | rfl | simp [Region.wanted, yielded, hd], ?_⟩
   exact yields_ld4 (.tmp 3) rfl rfl (G.out.up hW.out) (i := 0) rfl
  ·intro vals W hW hw hd
   try simp [Region.binds] at hd
   refine ⟨by first | rfl | simp [Region.wanted, yielded, hd], ?_⟩
   exact yields_call1 cfPB (.tmp 14) _ rfl (N x) (by first | exact hd | exact hd.1 | exact hd.2 | exact hd.2.1 | exact hd.2.2 | exact hd.2.2.1 | exact hd.2.2.2 | exact hd.2.2.2.1 | exact hd.2.2.2.2) ((PB W).mono fun e w' ⟨he, hb⟩ => ⟨_, he, rfl, hb⟩)
  ·intro vals W hW hw hd
   try simp [Region.binds] at hd
   refine ⟨by first | rfl | simp [Region.wanted, yielded, hd], ?_⟩
   exact yields_build3 28 (.tmp 7) (.tmp 13) (.tmp 15) rfl (by first | exact hd | exact hd.1 | exact hd.2 | exact hd.2.1 | exact hd.2.2 | exact hd.2.2.1 | exact hd.2.2.2 | exact hd.2.2.2.1 | exact hd.2.2.2.2) (by first | exact hd | exact hd.1 | exact hd.2 | exact hd.2.1 | exact hd.2.2 | exact hd.2.2.1 | exact hd.2.2.2 | exact hd.2.2.2.1 | exact hd.2.2.2.2) (by first | exact hd | exact hd.1 | exact hd.2 | exact hd.2.1 | exact hd.2.2 | exact hd.2.2.1 | exact hd.2.2.2 | exact hd.2.2.2.1 | exact hd.2.2.2.2) (pair_built x m a)
 obtain ⟨f0, f1, f2, f3, f4, f5, f6, f7, f8, f9, _⟩ := hF
 simp only [MP.eq_p] at f0 f1 f3 f4 f5 f6 f7 f8 f9
 rw [f9]
 simp only [List.drop_succ_cons, List.drop_zero]
 have s4 : Hid (Kn w4 _) := s3.out.up hb4.out
 have b4 : Hid (Below w.heap.size w w4) := b3.out.trans (hb4.out.mono b3.out.size)
 clear f0 f1 f2 f3 f4 f5 f6 f7 f8 f9 hO hb4 s3 b3 G KU
 have s5x : Hid (Kn w4 [(w.heap.size + 1, pairZ), (w2.heap.size, (c4 (x))), (w.heap.size, (bR (n)))]) := s4.out.front 1 rfl
 have b5x : Hid (Below w.heap.size w w4) := b4.out
 have TT5 : Hid (w4.there (w.heap.size + 1) 0 (prR (x) (m) (a)).length) := Kn.there s5x.out 0 rfl (by rw [(prR_length (x) (m) (a)), pairZ_length])
 go_wp2_with (first | refine I.wp_store_eq rfl 28 _ _ rfl (w.heap.size + 1) 0 (prR (x) (m) (a)) rfl rfl TT5.out (info_prR (x) (m) (a)) (prR_one (x) (m) (a)) ?_)
 intro w5 hw5
 try simp only [Act.put, List.setIfInBounds_toArray, List.set_cons_succ, List.set_cons_zero]
 have s5 : Hid (Kn w5 [(w.heap.size + 1, (prR (x) (m) (a))), (w2.heap.size, (c4 (x))), (w.heap.size, (bR (n)))]) := by rw [hw5.out]; exact Kn.put s5x.out (by rw [(prR_length (x) (m) (a)), pairZ_length])
 have b5 : Hid (Below w.heap.size w w5) := by rw [hw5.out]; exact I.below_setCells _ _ _ b5x.out (by omega)
 have z5 := b5.out.size
 clear hw5 s5x b5x TT5 s4 b4
 go_wp2_with fail
 exact bodyPost_ret (v := prV x m a) (I.results_cell (b := w.heap.size + 1) rfl rfl (Kn.rng s5.out 0 rfl) Tryz.underlying28 rfl (info_prR (x) (m) (a))) rfl ⟨rfl, b5.out⟩
theorem sgNewC : SgNewC := fun n hn w hT => by
 have lo : ∀ x ∈ S.by n, x < 256 := S.by_low n
 have l2 : ∀ x ∈ [2], x < 256 := by simp
 have lo2 : ∀ x ∈ 2 :: S.by n, x < 256 := fun x hx => by
  rcases List.mem_cons.1 hx with rfl | hx
  ·decide
  ·exact lo x hx
 have hd : dgN 1 (S.by n) < 2 ^ 256 := Nat.lt_trans (Nat.mod_lt _ ord_pos) ord_lt
 have S1 := sum_fun IV 0 rfl (2 :: S.by n) lo2
 refine sgNew_walk n (mskN n) (pubN n) (nm (dgN 1 (S.by n))) (nm (secN n)) (stV IV 0 []) (stV IV 0 [2]) (stV IV 0 (2 :: S.by n)) (S.by n) rfl (fun u w hu hT => sDig_fun 1 (by decide) (S.by n) lo (by rw [S.by_length]; decide) u w hu hT) (sgOne_fun _ hd) new_fun (fun v w hv hT => write_fun IV 0 rfl [] [2] (by simp) l2 (by simp) v w hv hT) (fun v w hv hT => write_fun IV 0 rfl [2] (S.by n) l2 lo (by rw [S.by_length]; decide) v w hv hT) (fun w hT => ?_) (sgBase_fun _ (Nat.lt_trans (sec_lt n) ord_lt)) w hT
 have := S1 w hT
 unfold mskN
 rw [← vB_num (sumS_length _) (sumS_low _)]
 exact this
end Go.Proofs.YtfknkfninjjgbaaGreatDoor

/- The contracts of the verifier's calls sum, times and curves, out of package curve's. -/
namespace Go.Proofs.YtfknkfninjjgbaaGreatDoor
open Go.RowKit
attribute [local go_sem] World.cell?_alloc_some cell_alloc2 cell_alloc3 cell_alloc4 frozen?_alloc_cells frozen_out
set_option linter.unusedSimpArgs false
end Go.Proofs.YtfknkfninjjgbaaGreatDoor

/- CurveGroup, out of what package curve must keep. -/
namespace Go.Proofs.YtfknkfninjjgbaaGreatDoor
open Go.RowKit
attribute [local go_sem] World.cell?_alloc_some cell_alloc2 cell_alloc3 cell_alloc4 frozen?_alloc_cells frozen_out
set_option linter.unusedSimpArgs false
end Go.Proofs.YtfknkfninjjgbaaGreatDoor

/- What package curve must keep where a point is none; a fraction as its point. -/
namespace Go.Proofs.YtfknkfninjjgbaaGreatDoor
open Go.RowKit
set_option linter.unusedSimpArgs false
/-- A fraction's point. -/
theorem fr_point {t : Cv.Tr} {P : Cv.Pt} (hP : Cv.On P) (h : Cv.FrN t P) : F.mul t.1 (F.inv t.2.2) = P.1 ∧ F.mul t.2.1 (F.inv t.2.2) = P.2 := by
 have ht : t.2.2 % F.p ≠ 0 := fun e => h.nz ((Cv.Z_nat _).2 e)
 have ki : Cv.K ((t.2.2 : Int) * (F.inv t.2.2 : Nat)) 1 := by
  have := (Cv.K_mul t.2.2 (F.inv t.2.2)).symm
  rw [F.mul_inv ht] at this
  exact this
 have fin : ∀ (X : Nat) (q : Nat), q < F.p → Cv.K (X : Int) ((q : Int) * t.2.2) → F.mul X (F.inv t.2.2) = q := fun X q hq hk => by
  have k1 := (Cv.K_mul X (F.inv t.2.2)).trans (hk.mul (Cv.K.refl ((F.inv t.2.2 : Nat) : Int)))
  have k2 : Cv.K ((q : Int) * t.2.2 * (F.inv t.2.2 : Nat)) ((q : Int) * 1) := by
   rw [Int.mul_assoc]
   exact (Cv.K.refl _).mul ki
  have k3 := k1.trans k2
  rw [Int.mul_one] at k3
  have := Cv.Z_eq.1 k3
  rwa [Nat.mod_eq_of_lt (F.mul_lt _ _), Nat.mod_eq_of_lt hq] at this
 exact ⟨fin _ _ hP.1 h.x, fin _ _ hP.2.1 h.y⟩
theorem often_lt : ∀ (k n : Nat) (a t : Cv.Tr), (a.1 < F.p ∧ a.2.1 < F.p ∧ a.2.2 < F.p) → (t.1 < F.p ∧ t.2.1 < F.p ∧ t.2.2 < F.p) → (Cv.often k n a t).1 < F.p ∧ (Cv.often k n a t).2.1 < F.p ∧ (Cv.often k n a t).2.2 < F.p
 | 0, _, _, _, ha, _ => ha
 | k + 1, n, a, t, ha, _ => by
  rw [Cv.often]
  refine often_lt k _ _ _ ?_ (padd_lt _ _)
  split
  ·exact padd_lt _ _
  ·exact ha
theorem oft_is (n : Nat) (Q : Cv.Pt) (hP : Cv.On Q) : Cv.FrN (Cv.often (16 * (P.dg n).length) n (0, 1, 1) (Q.1, Q.2, 1)) (Cv.times n Q) := by
 have h := Cv.often_fr (16 * (P.dg n).length) n (0, 1, 1) (Q.1, Q.2, 1) Cv.zero Q (by
  have := P.dv_lt _ (P.dg_Dg n)
  rw [P.dv_dg, show (65536 : Nat) = 2 ^ 16 from rfl, ← Nat.pow_mul] at this
  exact this) Cv.zero_on hP Cv.zero_fr (Cv.Fr.one Q)
 rwa [Cv.add_comm Cv.zero_on (Cv.times_on hP n), Cv.add_zero (Cv.times_on hP n)] at h
end Go.Proofs.YtfknkfninjjgbaaGreatDoor

/- The document's PairOf. -/
namespace Go.Proofs.YtfknkfninjjgbaaGreatDoor
open Go.RowKit
attribute [local go_sem] World.cell?_alloc_some cell_alloc2 cell_alloc3 cell_alloc4 frozen?_alloc_cells frozen_out
attribute [local simp] MP.eq_p
set_option linter.unusedSimpArgs false
theorem yields_convT {o : Oper} {a : Act} {w : World} (x : Operand) (ho : o.op = .convert 23 9 x) {v : Value} {xs : List Nat} {t : ByteArray} (ht : sOf xs = t) (hx : a.eval x = v) (hv : By w v xs) : YieldsP Tryz.prog o a w (MP.eq (.string t)).p :=
 yields_run (by
  subst ht
  have e1 := bytes_conv hv
  generalize a.eval = ev at *
  unfold execOp
  simp [ho, hx, e1])
theorem yields_addS {o : Oper} {a : Act} {w : World} (x y : Operand) (T U : TypeId) (ho : o.op = .binOp .add T x y U) {s t u : ByteArray} (hx : a.eval x = .string s) (hy : a.eval y = .string t) (hu : s ++ t = u) (hz : ¬ 9223372036854775807 < s.size + t.size) : YieldsP Tryz.prog o a w (MP.eq (.string u)).p :=
 yields_run (by
  subst hu
  generalize a.eval = ev at *
  unfold execOp
  simp [ho, hx, hy, go_sem, hz])
theorem cfTN (args : Array Value) (W : World) : (callFunc 22 args).run Tryz.prog W = .ok (.enter 22 args) W := cf_is (fn := Tryz.f22) (by kernel_rfl) (by decide) (by kernel_rfl) args W
theorem cfSu (args : Array Value) (W : World) : (callFunc 23 args).run Tryz.prog W = .ok (.enter 23 args) W := cf_is (fn := Tryz.f23) (by kernel_rfl) (by decide) (by kernel_rfl) args W
theorem cfPB0 (args : Array Value) (W : World) : (callFunc 25 args).run Tryz.prog W = .ok (.enter 25 args) W := cf_is (fn := Tryz.f25) (by kernel_rfl) (by decide) (by kernel_rfl) args W
theorem cfOft (args : Array Value) (W : World) : (callFunc 26 args).run Tryz.prog W = .ok (.enter 26 args) W := cf_is (fn := Tryz.f26) (by kernel_rfl) (by decide) (by kernel_rfl) args W
theorem cfPtP (args : Array Value) (W : World) : (callFunc 27 args).run Tryz.prog W = .ok (.enter 27 args) W := cf_is (fn := Tryz.f27) (by kernel_rfl) (by decide) (by kernel_rfl) args W
theorem cfPkd (args : Array Value) (W : World) : (callFunc 24 args).run Tryz.prog W = .ok (.enter 24 args) W := cf_is (fn := Tryz.f24) (by kernel_rfl) (by decide) (by kernel_rfl) args W
set_option maxRecDepth 20000 in
set_option maxHeartbeats 2000000 in
theorem pairOf_walk (n m a D A gx gy rx ry rt : Nat) (x px py : Nm) (xs : List Nat) (us ts : ByteArray) (hxs : S.by n = xs) (U0 : Hid (sOf xs = us)) (C0 : Hid ((ByteArray.mk #[2]) ++ us = ts)) (z0 : ¬ 9223372036854775807 < (ByteArray.mk #[2]).size + us.size)
  (DG : Hid (∀ w, RTab w → Calls Tryz.prog 21 #[.int .u8 1, .string us] w fun e w' => (∃ v', e = .returned v' ∧ Sl w' v' (P.dg D)) ∧ Below w.heap.size w w'))
  (NO : Hid (∀ v w, Sl w v (P.dg D) → Calls Tryz.prog 20 #[v] w fun e w' => (∃ v', e = .returned v' ∧ Sl w' v' (P.dg A)) ∧ Below w.heap.size w w'))
  (TN : Hid (∀ v w, Sl w v (P.dg A) → Calls Tryz.prog 22 #[v] w fun e w' => e = .returned (N x) ∧ Below w.heap.size w w'))
  (SU : Hid (∀ w, RTab w → Calls Tryz.prog 23 #[.string ts] w fun e w' => e = .returned (bV m) ∧ Below w.heap.size w w'))
  (PB : ∀ w, Calls Tryz.prog 25 #[] w fun e w' => e = .returned (.agg (pR (gx) (gy) (1)).toArray) ∧ Below w.heap.size w w')
  (OF : Hid (∀ v w, Sl w v (P.dg A) → Calls Tryz.prog 26 #[pV gx gy 1, v] w fun e w' => e = .returned (pV rx ry rt) ∧ Below w.heap.size w w'))
  (PP : ∀ w, Calls Tryz.prog 27 #[.agg (pR (rx) (ry) (rt)).toArray] w fun e w' => e = .returned (Wv px py) ∧ Below w.heap.size w w')
  (PK : ∀ w, Calls Tryz.prog 24 #[Wv px py] w fun e w' => e = .returned (.agg (bR (a)).toArray) ∧ Below w.heap.size w w')
  (w : World) (hT : RTab w) :
  Calls Tryz.prog 7 #[bV n] w fun e w' => e = .returned (prV x m a) ∧ Below w.heap.size w w' := by
 have HX : Hid _ := hxs
 have HT : Hid (RTab w) := hT
 have Z0 : Hid (¬ 9223372036854775807 < (ByteArray.mk #[2]).size + us.size) := z0
 clear hxs hT z0
 go_enter Tryz.func7, Tryz.ntmps7
 have s0 : Hid (Kn ((w.alloc (.cells (bR (n)).toArray 22)).alloc (.cells #[Value.int IntKind.u64 0, .int .u64 0, .int .u64 0, .int .u64 0, Value.int IntKind.u8 0, .int .u8 0, .int .u8 0, .int .u8 0, .int .u8 0, .int .u8 0, .int .u8 0, .int .u8 0, .int .u8 0, .int .u8 0, .int .u8 0, .int .u8 0, .int .u8 0, .int .u8 0, .int .u8 0, .int .u8 0, .int .u8 0, .int .u8 0, .int .u8 0, .int .u8 0, .int .u8 0, .int .u8 0, .int .u8 0, .int .u8 0, .int .u8 0, .int .u8 0, .int .u8 0, .int .u8 0, .int .u8 0, .int .u8 0, .int .u8 0, .int .u8 0, .int .u8 0, .int .u8 0, .int .u8 0, .int .u8 0, .int .u8 0, .int .u8 0, .int .u8 0, .int .u8 0, .int .u8 0, .int .u8 0, .int .u8 0, .int .u8 0, .int .u8 0, .int .u8 0, .int .u8 0, .int .u8 0, .int .u8 0, .int .u8 0, .int .u8 0, .int .u8 0, .int .u8 0, .int .u8 0, .int .u8 0, .int .u8 0, .int .u8 0, .int .u8 0, .int .u8 0, .int .u8 0, .int .u8 0, .int .u8 0, .int .u8 0, .int .u8 0] 28)) [(w.heap.size + 1, pairZ), (w.heap.size, (bR (n)))]) := (((Kn.nil w).al (bR (n)) 22 rfl).al pairZ 28 (by simp))
 have b0 : Hid (Below w.heap.size w ((w.alloc (.cells (bR (n)).toArray 22)).alloc (.cells #[Value.int IntKind.u64 0, .int .u64 0, .int .u64 0, .int .u64 0, Value.int IntKind.u8 0, .int .u8 0, .int .u8 0, .int .u8 0, .int .u8 0, .int .u8 0, .int .u8 0, .int .u8 0, .int .u8 0, .int .u8 0, .int .u8 0, .int .u8 0, .int .u8 0, .int .u8 0, .int .u8 0, .int .u8 0, .int .u8 0, .int .u8 0, .int .u8 0, .int .u8 0, .int .u8 0, .int .u8 0, .int .u8 0, .int .u8 0, .int .u8 0, .int .u8 0, .int .u8 0, .int .u8 0, .int .u8 0, .int .u8 0, .int .u8 0, .int .u8 0, .int .u8 0, .int .u8 0, .int .u8 0, .int .u8 0, .int .u8 0, .int .u8 0, .int .u8 0, .int .u8 0, .int .u8 0, .int .u8 0, .int .u8 0, .int .u8 0, .int .u8 0, .int .u8 0, .int .u8 0, .int .u8 0, .int .u8 0, .int .u8 0, .int .u8 0, .int .u8 0, .int .u8 0, .int .u8 0, .int .u8 0, .int .u8 0, .int .u8 0, .int .u8 0, .int .u8 0, .int .u8 0, .int .u8 0, .int .u8 0, .int .u8 0, .int .u8 0] 28))) := (((Below.refl _ _).alloc (Nat.le_refl _) _).alloc (by simp <;> omega) _)
 have Y0 := Kn.by32 s0.out 1 rfl
 rw [HX.out] at Y0
 go_wp2_with (first | simp only [zero_pair] | refine wp_all32 rfl _ rfl w.heap.size rfl ?_ | refine wp_convT rfl _ rfl _ xs us U0.out rfl Y0 ?_)
 clear Y0
 refine (DG.out _ (HT.out.up b0.out HT.out.pos)).mono ?_
 rintro e w1 ⟨⟨v1, rfl, h1⟩, hb1⟩
 have s1 : Hid (Kn w1 _) := s0.out.up hb1
 have b1 : Hid (Below w.heap.size w w1) := b0.out.trans (hb1.mono b0.out.size)
 have z1 := b1.out.size
 clear hb1 s0 b0
 go_wp2_with fail
 refine (NO.out _ _ h1).mono ?_
 rintro e w2 ⟨⟨v2, rfl, h2⟩, hb2⟩
 have s2 : Hid (Kn w2 _) := s1.out.up hb2
 have b2 : Hid (Below w.heap.size w w2) := b1.out.trans (hb2.mono b1.out.size)
 have z2 := b2.out.size
 clear hb2 s1 b1
 clear h1
 go_wp2_with fail
 have G : Hid _ := s2
 have H2 : Hid (Sl w2 v2 (P.dg A)) := h2
 have KU : Hid (∀ W, Below w2.heap.size w2 W → RTab W) := fun W hW => HT.out.up (b2.out.trans (hW.mono b2.out.size)) HT.out.pos
 have SL : Hid (∀ W, Below w2.heap.size w2 W → Sl W v2 (P.dg A)) := fun W hW => Sl.up (xs := P.dg A) H2.out hW
 clear h2
 refine wp_region_monoSE 12 [MP.eq v2, MP.eq (N x), MP.eq (.slice (some ⟨w.heap.size, 0, none⟩) 32 32), MP.eq (.string us), MP.eq (.string ts), MP.eq (bV m), MP.eq (pV gx gy 1), MP.eq v2, MP.eq (pV rx ry rt), MP.eq (Wv px py), MP.eq (bV a), MP.eq (prV x m a)] (by kernel_rfl) (by kernel_rfl) rfl (by decide) (by kernel_rfl) ?_
 apply Exists.intro
 refine ⟨fun vals => ?_, ?_, fun vals3 w3 hb3 hF hO => ?_⟩
 ·simp only [putsV, dstL, List.length_cons, List.length_nil, Nat.zero_add, Nat.reduceAdd, List.getElem?_cons_zero, List.getElem?_cons_succ, Option.bind_some, Act.put, List.setIfInBounds_toArray, List.set_cons_succ, List.set_cons_zero]
  rfl
 ·refine ⟨?_, ?_, ?_, ?_, ?_, ?_, ?_, ?_, ?_, ?_, ?_, ?_, trivial⟩
  ·intro vals W hW hw hd
   try simp [Region.binds] at hd
   refine ⟨by first | rfl | simp [Region.wanted, yielded, hd], ?_⟩
   exact yields_mv (.tmp 3) rfl rfl
  ·intro vals W hW hw hd
   try simp [Region.binds] at hd
   refine ⟨by first | rfl | simp [Region.wanted, yielded, hd], ?_⟩
   exact yields_call1 cfTN (.tmp 8) _ rfl v2 (by first | exact hd | exact hd.1 | exact hd.2 | exact hd.2.1 | exact hd.2.2 | exact hd.2.2.1 | exact hd.2.2.2 | exact hd.2.2.2.1 | exact hd.2.2.2.2) ((TN.out _ W (SL.out W hW.out)).mono fun e w' ⟨he, hb⟩ => ⟨_, he, rfl, hb⟩)
  ·intro vals W hW hw hd
   try simp [Region.binds] at hd
   refine ⟨by first | rfl | simp [Region.wanted, yielded, hd], ?_⟩
   exact I.yields_all u_b32 u_b32r (by decide) (.tmp 1) rfl w.heap.size 0 rfl rfl
  ·intro vals W hW hw hd
   try simp [Region.binds] at hd
   refine ⟨by first | rfl | simp [Region.wanted, yielded, hd], ?_⟩
   exact yields_convT (.tmp 10) rfl U0.out (by first | exact hd | exact hd.1 | exact hd.2 | exact hd.2.1 | exact hd.2.2 | exact hd.2.2.1 | exact hd.2.2.2 | exact hd.2.2.2.1 | exact hd.2.2.2.2) (by have := Kn.by32 (G.out.up hW.out) 1 rfl; rwa [HX.out] at this)
  ·intro vals W hW hw hd
   try simp [Region.binds] at hd
   refine ⟨by first | rfl | simp [Region.wanted, yielded, hd], ?_⟩
   exact yields_addS (.const (.string (ByteArray.mk #[2]))) (.tmp 11) _ _ rfl rfl (by first | exact hd | exact hd.1 | exact hd.2 | exact hd.2.1 | exact hd.2.2 | exact hd.2.2.1 | exact hd.2.2.2 | exact hd.2.2.2.1 | exact hd.2.2.2.2) C0.out Z0.out
  ·intro vals W hW hw hd
   try simp [Region.binds] at hd
   refine ⟨by first | rfl | simp [Region.wanted, yielded, hd], ?_⟩
   exact yields_call1 cfSu (.tmp 12) _ rfl _ (by first | exact hd | exact hd.1 | exact hd.2 | exact hd.2.1 | exact hd.2.2 | exact hd.2.2.1 | exact hd.2.2.2 | exact hd.2.2.2.1 | exact hd.2.2.2.2) ((SU.out W (KU.out W hW.out)).mono fun e w' ⟨he, hb⟩ => ⟨_, he, rfl, hb⟩)
  ·intro vals W hW hw hd
   try simp [Region.binds] at hd
   refine ⟨by first | rfl | simp [Region.wanted, yielded, hd], ?_⟩
   exact yields_call0 cfPB0 _ rfl ((PB W).mono fun e w' ⟨he, hb⟩ => ⟨_, he, rfl, hb⟩)
  ·intro vals W hW hw hd
   try simp [Region.binds] at hd
   refine ⟨by first | rfl | simp [Region.wanted, yielded, hd], ?_⟩
   exact yields_mv (.tmp 3) rfl rfl
  ·intro vals W hW hw hd
   try simp [Region.binds] at hd
   refine ⟨by first | rfl | simp [Region.wanted, yielded, hd], ?_⟩
   exact yields_call2 cfOft (.tmp 14) (.tmp 15) _ rfl _ v2 (by first | exact hd | exact hd.1 | exact hd.2 | exact hd.2.1 | exact hd.2.2 | exact hd.2.2.1 | exact hd.2.2.2 | exact hd.2.2.2.1 | exact hd.2.2.2.2) (by first | exact hd | exact hd.1 | exact hd.2 | exact hd.2.1 | exact hd.2.2 | exact hd.2.2.1 | exact hd.2.2.2 | exact hd.2.2.2.1 | exact hd.2.2.2.2) ((OF.out _ W (SL.out W hW.out)).mono fun e w' ⟨he, hb⟩ => ⟨_, he, rfl, hb⟩)
  ·intro vals W hW hw hd
   try simp [Region.binds] at hd
   refine ⟨by first | rfl | simp [Region.wanted, yielded, hd], ?_⟩
   exact yields_call1 cfPtP (.tmp 16) _ rfl _ (by first | exact hd | exact hd.1 | exact hd.2 | exact hd.2.1 | exact hd.2.2 | exact hd.2.2.1 | exact hd.2.2.2 | exact hd.2.2.2.1 | exact hd.2.2.2.2) ((PP W).mono fun e w' ⟨he, hb⟩ => ⟨_, he, rfl, hb⟩)
  ·intro vals W hW hw hd
   try simp [Region.binds] at hd
   refine ⟨by first | rfl | simp [Region.wanted, yielded, hd], ?_⟩
   exact yields_call1 cfPkd (.tmp 17) _ rfl _ (by first | exact hd | exact hd.1 | exact hd.2 | exact hd.2.1 | exact hd.2.2 | exact hd.2.2.1 | exact hd.2.2.2 | exact hd.2.2.2.1 | exact hd.2.2.2.2) ((PK W).mono fun e w' ⟨he, hb⟩ => ⟨_, he, rfl, hb⟩)
  ·intro vals W hW hw hd
   try simp [Region.binds] at hd
   refine ⟨by first | rfl | simp [Region.wanted, yielded, hd], ?_⟩
   exact yields_build3 28 (.tmp 9) (.tmp 13) (.tmp 18) rfl (by first | exact hd | exact hd.1 | exact hd.2 | exact hd.2.1 | exact hd.2.2 | exact hd.2.2.1 | exact hd.2.2.2 | exact hd.2.2.2.1 | exact hd.2.2.2.2) (by first | exact hd | exact hd.1 | exact hd.2 | exact hd.2.1 | exact hd.2.2 | exact hd.2.2.1 | exact hd.2.2.2 | exact hd.2.2.2.1 | exact hd.2.2.2.2) (by first | exact hd | exact hd.1 | exact hd.2 | exact hd.2.1 | exact hd.2.2 | exact hd.2.2.1 | exact hd.2.2.2 | exact hd.2.2.2.1 | exact hd.2.2.2.2) (pair_built x m a)
 obtain ⟨f0, f1, f2, f3, f4, f5, f6, f7, f8, f9, f10, f11, _⟩ := hF
 simp only [MP.eq_p] at f0 f1 f2 f3 f4 f5 f6 f7 f8 f9 f10 f11
 rw [f11]
 simp only [List.drop_succ_cons, List.drop_zero]
 have s3 : Hid (Kn w3 _) := s2.out.up hb3.out
 have b3 : Hid (Below w.heap.size w w3) := b2.out.trans (hb3.out.mono b2.out.size)
 clear f0 f1 f2 f3 f4 f5 f6 f7 f8 f9 f10 f11 hO hb3 s2 b2 G KU SL H2
 have s4x : Hid (Kn w3 [(w.heap.size + 1, pairZ), (w.heap.size, (bR (n)))]) := s3.out.front 0 rfl
 have b4x : Hid (Below w.heap.size w w3) := b3.out
 have TT4 : Hid (w3.there (w.heap.size + 1) 0 (prR (x) (m) (a)).length) := Kn.there s4x.out 0 rfl (by rw [(prR_length (x) (m) (a)), pairZ_length])
 go_wp2_with (first | refine I.wp_store_eq rfl 28 _ _ rfl (w.heap.size + 1) 0 (prR (x) (m) (a)) rfl rfl TT4.out (info_prR (x) (m) (a)) (prR_one (x) (m) (a)) ?_)
 intro w4 hw4
 try simp only [Act.put, List.setIfInBounds_toArray, List.set_cons_succ, List.set_cons_zero]
 have s4 : Hid (Kn w4 [(w.heap.size + 1, (prR (x) (m) (a))), (w.heap.size, (bR (n)))]) := by rw [hw4.out]; exact Kn.put s4x.out (by rw [(prR_length (x) (m) (a)), pairZ_length])
 have b4 : Hid (Below w.heap.size w w4) := by rw [hw4.out]; exact I.below_setCells _ _ _ b4x.out (by omega)
 have z4 := b4.out.size
 clear hw4 s4x b4x TT4 s3 b3
 go_wp2_with fail
 exact bodyPost_ret (v := prV x m a) (I.results_cell (b := w.heap.size + 1) rfl rfl (Kn.rng s4.out 0 rfl) Tryz.underlying28 rfl (info_prR (x) (m) (a))) rfl ⟨rfl, b4.out⟩
theorem often_fun (k : Nat) (hk : k < 2 ^ 256) : ∃ rx ry rt, (∀ v w, Sl w v (P.dg k) → Calls Tryz.prog 26 #[pV Cv.base.1 Cv.base.2 1, v] w fun e w' => e = .returned (pV rx ry rt) ∧ Below w.heap.size w w') ∧ (∀ w, Calls Tryz.prog 27 #[pV rx ry rt] w fun e w' => e = .returned (Wv (nm (Cv.times k Cv.base).1) (nm (Cv.times k Cv.base).2)) ∧ Below w.heap.size w w') := by
 have hb := Cv.base_on
 have h1 : (1 : Nat) < F.p := by decide
 have lt := often_lt (16 * (P.dg k).length) k (0, 1, 1) (Cv.base.1, Cv.base.2, 1) (by decide) ⟨hb.1, hb.2.1, h1⟩
 have PP := ptPoint_n _ _ _ lt.1 lt.2.1 lt.2.2
 have e := fr_point (Cv.times_on hb k) (oft_is k Cv.base hb)
 rw [e.1, e.2] at PP
 exact ⟨_, _, _, fun v w sv => oft_n k hk (Cv.base.1, Cv.base.2, 1) ⟨hb.1, hb.2.1, h1⟩ v w sv, PP⟩
theorem pairOf_fun (n : Nat) (w : World) (hT : RTab w) : Calls Tryz.prog 7 #[bV n] w fun e w' => e = .returned (prV (nm (secN n)) (mskN n) (pubN n)) ∧ Below w.heap.size w w' := by
 have lo : ∀ x ∈ S.by n, x < 256 := S.by_low n
 have lo2 : ∀ x ∈ 2 :: S.by n, x < 256 := fun x hx => by
  rcases List.mem_cons.1 hx with rfl | hx
  ·decide
  ·exact lo x hx
 have hs : secN n < 2 ^ 256 := Nat.lt_trans (sec_lt n) ord_lt
 obtain ⟨rx, ry, rt, OF, PP⟩ := often_fun (secN n) hs
 refine pairOf_walk n (mskN n) (pubN n) (dgN 1 (S.by n)) (secN n) _ _ rx ry rt (nm (secN n)) _ _ (S.by n) (sOf (S.by n)) (sOf (2 :: S.by n)) rfl rfl (sOf_append [2] (S.by n)) (by rw [sOf_size, S.by_length]; decide) (fun w hT => rDig_fun 1 (by decide) (S.by n) lo (by rw [S.by_length]; decide) w hT) (fun v w h => nought_fun _ v w h) (fun v w h => toNum_of _ hs v w h) (fun w hT => ?_) ptBase_n OF PP (rPacked_fun _ (Cv.times_on Cv.base_on _)) w hT
 have := rsum_fun (2 :: S.by n) lo2 (by simp [S.by_length]) w hT
 rw [vB_num (sumS_length _) (sumS_low _)] at this
 exact this
end Go.Proofs.YtfknkfninjjgbaaGreatDoor
