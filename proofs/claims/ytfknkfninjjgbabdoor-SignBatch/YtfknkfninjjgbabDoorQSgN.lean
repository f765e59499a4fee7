/- Package sign, as it landed: New. -/
import Derived.Test.YtfknkfninjjgbabDoorQLenToSgF
namespace Go.Proofs.YtfknkfninjjgbabDoor
open Go.RowKit
attribute [local go_sem] World.cell?_alloc_some cell_alloc2 cell_alloc3 cell_alloc4 frozen?_alloc_cells frozen_out
attribute [local simp] MP.eq_p
set_option linter.unusedSimpArgs false
theorem cfHN (args : Array Value) (W : World) : (callFunc 18 args).run Tryd.prog W = .ok (.enter 18 args) W := cf_is (fn := Tryd.f18) (by kernel_rfl) (by decide) (by kernel_rfl) args W
theorem cfHW (args : Array Value) (W : World) : (callFunc 19 args).run Tryd.prog W = .ok (.enter 19 args) W := cf_is (fn := Tryd.f19) (by kernel_rfl) (by decide) (by kernel_rfl) args W
theorem cfHS (args : Array Value) (W : World) : (callFunc 20 args).run Tryd.prog W = .ok (.enter 20 args) W := cf_is (fn := Tryd.f20) (by kernel_rfl) (by decide) (by kernel_rfl) args W
theorem cfPB (args : Array Value) (W : World) : (callFunc 21 args).run Tryd.prog W = .ok (.enter 21 args) W := cf_is (fn := Tryd.f21) (by kernel_rfl) (by decide) (by kernel_rfl) args W
theorem yields_ld4 {o : Oper} {a : Act} {w : World} {k : Nat} {x : Nm} {L : List (Nat × List Value)} {i : Nat} (s : Operand) (ho : o.op = .load 26 s) (hs : a.eval s = .pointer (some ⟨k, 0, none⟩)) (h : Kn w L) (hi : L[i]? = some (k, c4 x)) : YieldsP Tryd.prog o a w (MP.eq (N x)).p := by
  have u0 := Kn.get h i 0 hi rfl
  have u1 := Kn.get h i 1 hi rfl
  have u2 := Kn.get h i 2 hi rfl
  have u3 := Kn.get h i 3 hi rfl
  have e : (execOp a.eval o).run Tryd.prog w = .ok (.value (N x)) w := by
    generalize a.eval = ev at *
    unfold execOp
    simp [ho, hs, go_sem, u0, u1, u2, u3]
  unfold YieldsP
  rw [e]
  exact ⟨rfl, Below.refl _ _⟩
theorem yields_by1 {o : Oper} {a : Act} {w : World} (x : Operand) (ho : o.op = .buildSlice 23 1 #[(0, x)]) (b : Nat) (hx : a.eval x = .int .u8 (b : Int)) : YieldsP Tryd.prog o a w (MP.byF [b]).p := by
  have e : (execOp a.eval o).run Tryd.prog w = .ok (.value (.slice (some ⟨w.heap.size, 0, none⟩) 1 1)) (w.alloc (.cells #[.int .u8 (b : Int)] 5)) := by
    generalize a.eval = ev at *
    unfold execOp
    simp [ho, hx, go_sem]
  unfold YieldsP
  rw [e]
  exact ⟨By.one (by rw [cell_top rfl]; rfl), (Below.refl _ _).alloc (Nat.le_refl _) _⟩
theorem yields_build3 {o : Oper} {a : Act} {w : World} (T : TypeId) (x y z : Operand) (ho : o.op = .build T #[(0, x), (1, y), (2, z)]) {u v t : Value} {cs : List Value} (hx : a.eval x = u) (hy : a.eval y = v) (hz : a.eval z = t) (hb : Tryd.prog.built T [(0, u), (1, v), (2, t)] = some cs.toArray) : YieldsP Tryd.prog o a w (MP.eq (.agg cs.toArray)).p := by
  have e1 : (Instr.build T ((#[(0, x), (1, y), (2, z)] : Array (Nat × Operand)).map fun x => (x.fst, a.eval x.snd))).run Tryd.prog w = .ok (.agg cs.toArray) w := run_build w T _ _ (by simpa [hx, hy, hz] using hb)
  have e : (execOp a.eval o).run Tryd.prog w = .ok (.value (.agg cs.toArray)) w := by
    simp only [execOp, ho, Sem.run_bind, e1, Result.andThen_ok, Sem.run_pure]
  unfold YieldsP
  rw [e]
  exact ⟨rfl, Below.refl _ _⟩
theorem pair_built (x : Nm) (m a : Nat) : Tryd.prog.built 28 [(0, N x), (1, bV m), (2, bV a)] = some (prR x m a).toArray := by kernel_rfl
set_option maxRecDepth 20000 in
set_option maxHeartbeats 2000000 in
theorem sgNew_walk (n m a : Nat) (d x : Nm) (sv0 sv1 sv2 : Value) (xs : List Nat) (hxs : S.by n = xs)
    (DG : Hid (∀ u w, By w u xs → KTab w → Calls Tryd.prog 17 #[.int .u8 1, u] w fun e w' => e = .returned (N d) ∧ Below w.heap.size w w'))
    (OO : ∀ w, Calls Tryd.prog 16 #[N d] w fun e w' => e = .returned (N x) ∧ Below w.heap.size w w')
    (N1 : Hid (∀ w, Calls Tryd.prog 18 #[] w fun e w' => e = .returned sv0 ∧ Below w.heap.size w w'))
    (W1 : Hid (∀ v w, By w v [2] → KTab w → Calls Tryd.prog 19 #[sv0, v] w fun e w' => e = .returned sv1 ∧ Below w.heap.size w w'))
    (W2 : Hid (∀ v w, By w v xs → KTab w → Calls Tryd.prog 19 #[sv1, v] w fun e w' => e = .returned sv2 ∧ Below w.heap.size w w'))
    (S1 : Hid (∀ w, KTab w → Calls Tryd.prog 20 #[sv2] w fun e w' => e = .returned (bV m) ∧ Below w.heap.size w w'))
    (PB : ∀ w, Calls Tryd.prog 21 #[N x] w fun e w' => e = .returned (.agg (bR (a)).toArray) ∧ Below w.heap.size w w')
    (w : World) (hT : KTab w) :
    Calls Tryd.prog 6 #[bV n] w fun e w' => e = .returned (prV x m a) ∧ Below w.heap.size w w' := by
  have HX : Hid _ := hxs
  have HT : Hid (KTab w) := hT
  clear hxs hT
  go_enter Tryd.func6, Tryd.ntmps6
  have s0 : Hid (Kn ((w.alloc (.cells (bR (n)).toArray 22)).alloc (.cells #[Value.int IntKind.u64 0, Value.int IntKind.u64 0, Value.int IntKind.u64 0, Value.int IntKind.u64 0, Value.int IntKind.u8 0, Value.int IntKind.u8 0, Value.int IntKind.u8 0, Value.int IntKind.u8 0, Value.int IntKind.u8 0, Value.int IntKind.u8 0, Value.int IntKind.u8 0, Value.int IntKind.u8 0, Value.int IntKind.u8 0, Value.int IntKind.u8 0, Value.int IntKind.u8 0, Value.int IntKind.u8 0, Value.int IntKind.u8 0, Value.int IntKind.u8 0, Value.int IntKind.u8 0, Value.int IntKind.u8 0, Value.int IntKind.u8 0, Value.int IntKind.u8 0, Value.int IntKind.u8 0, Value.int IntKind.u8 0, Value.int IntKind.u8 0, Value.int IntKind.u8 0, Value.int IntKind.u8 0, Value.int IntKind.u8 0, Value.int IntKind.u8 0, Value.int IntKind.u8 0, Value.int IntKind.u8 0, Value.int IntKind.u8 0, Value.int IntKind.u8 0, Value.int IntKind.u8 0, Value.int IntKind.u8 0, Value.int IntKind.u8 0, Value.int IntKind.u8 0, Value.int IntKind.u8 0, Value.int IntKind.u8 0, Value.int IntKind.u8 0, Value.int IntKind.u8 0, Value.int IntKind.u8 0, Value.int IntKind.u8 0, Value.int IntKind.u8 0, Value.int IntKind.u8 0, Value.int IntKind.u8 0, Value.int IntKind.u8 0, Value.int IntKind.u8 0, Value.int IntKind.u8 0, Value.int IntKind.u8 0, Value.int IntKind.u8 0, Value.int IntKind.u8 0, Value.int IntKind.u8 0, Value.int IntKind.u8 0, Value.int IntKind.u8 0, Value.int IntKind.u8 0, Value.int IntKind.u8 0, Value.int IntKind.u8 0, Value.int IntKind.u8 0, Value.int IntKind.u8 0, Value.int IntKind.u8 0, Value.int IntKind.u8 0, Value.int IntKind.u8 0, Value.int IntKind.u8 0, Value.int IntKind.u8 0, Value.int IntKind.u8 0, Value.int IntKind.u8 0, Value.int IntKind.u8 0] 28)) [(w.heap.size + 1, pairZ), (w.heap.size, (bR (n)))]) := (((Kn.nil w).al (bR (n)) 22 rfl).al pairZ 28 (by simp))
  have b0 : Hid (Below w.heap.size w ((w.alloc (.cells (bR (n)).toArray 22)).alloc (.cells #[Value.int IntKind.u64 0, Value.int IntKind.u64 0, Value.int IntKind.u64 0, Value.int IntKind.u64 0, Value.int IntKind.u8 0, Value.int IntKind.u8 0, Value.int IntKind.u8 0, Value.int IntKind.u8 0, Value.int IntKind.u8 0, Value.int IntKind.u8 0, Value.int IntKind.u8 0, Value.int IntKind.u8 0, Value.int IntKind.u8 0, Value.int IntKind.u8 0, Value.int IntKind.u8 0, Value.int IntKind.u8 0, Value.int IntKind.u8 0, Value.int IntKind.u8 0, Value.int IntKind.u8 0, Value.int IntKind.u8 0, Value.int IntKind.u8 0, Value.int IntKind.u8 0, Value.int IntKind.u8 0, Value.int IntKind.u8 0, Value.int IntKind.u8 0, Value.int IntKind.u8 0, Value.int IntKind.u8 0, Value.int IntKind.u8 0, Value.int IntKind.u8 0, Value.int IntKind.u8 0, Value.int IntKind.u8 0, Value.int IntKind.u8 0, Value.int IntKind.u8 0, Value.int IntKind.u8 0, Value.int IntKind.u8 0, Value.int IntKind.u8 0, Value.int IntKind.u8 0, Value.int IntKind.u8 0, Value.int IntKind.u8 0, Value.int IntKind.u8 0, Value.int IntKind.u8 0, Value.int IntKind.u8 0, Value.int IntKind.u8 0, Value.int IntKind.u8 0, Value.int IntKind.u8 0, Value.int IntKind.u8 0, Value.int IntKind.u8 0, Value.int IntKind.u8 0, Value.int IntKind.u8 0, Value.int IntKind.u8 0, Value.int IntKind.u8 0, Value.int IntKind.u8 0, Value.int IntKind.u8 0, Value.int IntKind.u8 0, Value.int IntKind.u8 0, Value.int IntKind.u8 0, Value.int IntKind.u8 0, Value.int IntKind.u8 0, Value.int IntKind.u8 0, Value.int IntKind.u8 0, Value.int IntKind.u8 0, Value.int IntKind.u8 0, Value.int IntKind.u8 0, Value.int IntKind.u8 0, Value.int IntKind.u8 0, Value.int IntKind.u8 0, Value.int IntKind.u8 0, Value.int IntKind.u8 0] 28))) := (((Below.refl _ _).alloc (Nat.le_refl _) _).alloc (by simp <;> omega) _)
  have Y0 := Kn.by32 s0.out 1 rfl
  rw [HX.out] at Y0
  go_wp2_with (first | simp only [zero_pair] | refine wp_all32 rfl _ rfl w.heap.size rfl ?_)
  refine (DG.out _ _ Y0 (HT.out.up b0.out HT.out.pos)).mono ?_
  rintro e w1 ⟨rfl, hb1⟩
  have s1 : Hid (Kn w1 [(w.heap.size + 1, pairZ), (w.heap.size, (bR (n)))]) := s0.out.up hb1
  have b1 : Hid (Below w.heap.size w w1) := b0.out.trans (hb1.mono b0.out.size)
  have z1 := b1.out.size
  clear hb1 s0 b0
  clear Y0
  go_wp2_with fail
  refine (OO _).mono ?_
  rintro e w2 ⟨rfl, hb2⟩
  have s2 : Hid (Kn w2 [(w.heap.size + 1, pairZ), (w.heap.size, (bR (n)))]) := s1.out.up hb2
  have b2 : Hid (Below w.heap.size w w2) := b1.out.trans (hb2.mono b1.out.size)
  have z2 := b2.out.size
  clear hb2 s1 b1
  have s3 : Hid (Kn (kal4 w2 (x)) [(w2.heap.size, (c4 (x))), (w.heap.size + 1, pairZ), (w.heap.size, (bR (n)))]) := s2.out.al (c4 (x)) 26 rfl
  have b3 : Hid (Below w.heap.size w (kal4 w2 (x))) := b2.out.alloc b2.out.size _
  have z3 := b2.out.size
  clear s2 b2
  go_wp2_with fail
  have G : Hid _ := s3
  have KU : Hid (∀ W, Below (kal4 w2 x).heap.size (kal4 w2 x) W → KTab W) := fun W hW => HT.out.up (b3.out.trans (hW.mono b3.out.size)) HT.out.pos
  refine wp_region_monoSE 10 [MP.eq (N x), MP.eq sv0, MP.byF [2], MP.eq sv1, MP.eq (.slice (some ⟨w.heap.size, 0, none⟩) 32 32), MP.eq sv2, MP.eq (bV m), MP.eq (N x), MP.eq (bV a), MP.eq (prV x m a)] (by kernel_rfl) (by kernel_rfl) rfl (by decide) (by kernel_rfl) ?_
  apply Exists.intro
  refine ⟨fun vals => ?_, ?_, fun vals4 w4 hb4 hF hO => ?_⟩
  · simp only [putsV, dstL, List.length_cons, List.length_nil, Nat.zero_add, Nat.reduceAdd, List.getElem?_cons_zero, List.getElem?_cons_succ, Option.bind_some, Act.put, List.setIfInBounds_toArray, List.set_cons_succ, List.set_cons_zero]
    rfl
  · refine ⟨?_, ?_, ?_, ?_, ?_, ?_, ?_, ?_, ?_, ?_, trivial⟩
    · intro vals W hW hw hd
      try simp [Region.binds] at hd
      refine ⟨by first | rfl | simp [Region.wanted, yielded, hd], ?_⟩
      exact yields_ld4 (.tmp 3) rfl rfl (G.out.up hW.out) (i := 0) rfl
    · intro vals W hW hw hd
      try simp [Region.binds] at hd
      refine ⟨by first | rfl | simp [Region.wanted, yielded, hd], ?_⟩
      exact yields_call0 cfHN _ rfl ((N1.out W).mono fun e w' ⟨he, hb⟩ => ⟨_, he, rfl, hb⟩)
    · intro vals W hW hw hd
      try simp [Region.binds] at hd
      refine ⟨by first | rfl | simp [Region.wanted, yielded, hd], ?_⟩
      exact yields_by1 (.const (.int .u8 2)) rfl 2 rfl
    · intro vals W hW hw hd
      try simp [Region.binds] at hd
      refine ⟨by first | rfl | simp [Region.wanted, yielded, hd], ?_⟩
      exact yields_call2 cfHW (.tmp 8) (.tmp 9) _ rfl sv0 _ (by first | exact hd | exact hd.1 | exact hd.2 | exact hd.2.1 | exact hd.2.2 | exact hd.2.2.1 | exact hd.2.2.2 | exact hd.2.2.2.1 | exact hd.2.2.2.2) rfl ((W1.out _ W (by first | exact hd | exact hd.1 | exact hd.2 | exact hd.2.1 | exact hd.2.2 | exact hd.2.2.1 | exact hd.2.2.2 | exact hd.2.2.2.1 | exact hd.2.2.2.2) (KU.out W hW.out)).mono fun e w' ⟨he, hb⟩ => ⟨_, he, rfl, hb⟩)
    · intro vals W hW hw hd
      try simp [Region.binds] at hd
      refine ⟨by first | rfl | simp [Region.wanted, yielded, hd], ?_⟩
      exact yields_all u_b32 u_b32r (by decide) (.tmp 1) rfl w.heap.size 0 rfl rfl
    · intro vals W hW hw hd
      try simp [Region.binds] at hd
      refine ⟨by first | rfl | simp [Region.wanted, yielded, hd], ?_⟩
      exact yields_call2 cfHW (.tmp 10) (.tmp 11) _ rfl sv1 _ (by first | exact hd | exact hd.1 | exact hd.2 | exact hd.2.1 | exact hd.2.2 | exact hd.2.2.1 | exact hd.2.2.2 | exact hd.2.2.2.1 | exact hd.2.2.2.2) (by first | exact hd | exact hd.1 | exact hd.2 | exact hd.2.1 | exact hd.2.2 | exact hd.2.2.1 | exact hd.2.2.2 | exact hd.2.2.2.1 | exact hd.2.2.2.2) ((W2.out _ W (by have := Kn.by32 (G.out.up hW.out) 2 rfl; rwa [HX.out] at this) (KU.out W hW.out)).mono fun e w' ⟨he, hb⟩ => ⟨_, he, rfl, hb⟩)
    · intro vals W hW hw hd
      try simp [Region.binds] at hd
      refine ⟨by first | rfl | simp [Region.wanted, yielded, hd], ?_⟩
      exact yields_call1 cfHS (.tmp 12) _ rfl sv2 (by first | exact hd | exact hd.1 | exact hd.2 | exact hd.2.1 | exact hd.2.2 | exact hd.2.2.1 | exact hd.2.2.2 | exact hd.2.2.2.1 | exact hd.2.2.2.2) ((S1.out W (KU.out W hW.out)).mono fun e w' ⟨he, hb⟩ => ⟨_, he, rfl, hb⟩)
    · intro vals W hW hw hd
      try simp [Region.binds] at hd
      refine ⟨by first | rfl | simp [Region.wanted, yielded, hd], ?_⟩
      exact yields_ld4 (.tmp 3) rfl rfl (G.out.up hW.out) (i := 0) rfl
    · intro vals W hW hw hd
      try simp [Region.binds] at hd
      refine ⟨by first | rfl | simp [Region.wanted, yielded, hd], ?_⟩
      exact yields_call1 cfPB (.tmp 14) _ rfl (N x) (by first | exact hd | exact hd.1 | exact hd.2 | exact hd.2.1 | exact hd.2.2 | exact hd.2.2.1 | exact hd.2.2.2 | exact hd.2.2.2.1 | exact hd.2.2.2.2) ((PB W).mono fun e w' ⟨he, hb⟩ => ⟨_, he, rfl, hb⟩)
    · intro vals W hW hw hd
      try simp [Region.binds] at hd
      refine ⟨by first | rfl | simp [Region.wanted, yielded, hd], ?_⟩
      exact yields_build3 28 (.tmp 7) (.tmp 13) (.tmp 15) rfl (by first | exact hd | exact hd.1 | exact hd.2 | exact hd.2.1 | exact hd.2.2 | exact hd.2.2.1 | exact hd.2.2.2 | exact hd.2.2.2.1 | exact hd.2.2.2.2) (by first | exact hd | exact hd.1 | exact hd.2 | exact hd.2.1 | exact hd.2.2 | exact hd.2.2.1 | exact hd.2.2.2 | exact hd.2.2.2.1 | exact hd.2.2.2.2) (by first | exact hd | exact hd.1 | exact hd.2 | exact hd.2.1 | exact hd.2.2 | exact hd.2.2.1 | exact hd.2.2.2 | exact hd.2.2.2.1 | exact hd.2.2.2.2) (pair_built x m a)
  obtain ⟨f0, f1, f2, f3, f4, f5, f6, f7, f8, f9, _⟩ := hF
  simp only [MP.eq_p] at f0 f1 f3 f4 f5 f6 f7 f8 f9
  rw [f9]
  simp only [List.drop_succ_cons, List.drop_zero]
  have s4 : Hid (Kn w4 [(w2.heap.size, c4 x), (w.heap.size + 1, pairZ), (w.heap.size, bR n)]) := s3.out.up hb4.out
  have b4 : Hid (Below w.heap.size w w4) := b3.out.trans (hb4.out.mono b3.out.size)
  clear f0 f1 f2 f3 f4 f5 f6 f7 f8 f9 hO hb4 s3 b3 G KU
  have s5x : Hid (Kn w4 [(w.heap.size + 1, pairZ), (w2.heap.size, (c4 (x))), (w.heap.size, (bR (n)))]) := s4.out.front 1 rfl
  have b5x : Hid (Below w.heap.size w w4) := b4.out
  have TT5 : Hid (w4.there (w.heap.size + 1) 0 (prR (x) (m) (a)).length) := Kn.there s5x.out 0 rfl (by rw [(prR_length (x) (m) (a)), pairZ_length])
  go_wp2_with (first | refine I.wp_store_eq rfl 28 _ _ rfl (w.heap.size + 1) 0 (prR (x) (m) (a)) rfl rfl TT5.out (info_prR (x) (m) (a)) (prR_one (x) (m) (a)) ?_)
  intro w5 hw5
  try simp only [Act.put, List.setIfInBounds_toArray, List.set_cons_succ, List.set_cons_zero]
  have s5 : Hid (Kn w5 [(w.heap.size + 1, (prR (x) (m) (a))), (w2.heap.size, (c4 (x))), (w.heap.size, (bR (n)))]) := by rw [hw5.out]; exact Kn.put s5x.out (by rw [(prR_length (x) (m) (a)), pairZ_length])
  have b5 : Hid (Below w.heap.size w w5) := by rw [hw5.out]; exact I.below_setCells _ _ _ b5x.out (by omega)
  have z5 := b5.out.size
  clear hw5 s5x b5x TT5 s4 b4
  go_wp2_with fail
  exact bodyPost_ret (v := prV x m a) (I.results_cell (b := w.heap.size + 1) rfl rfl (Kn.rng s5.out 0 rfl) Tryd.underlying28 rfl (info_prR (x) (m) (a))) rfl ⟨rfl, b5.out⟩
theorem sgNewC : SgNewC := fun n hn w hT => by
  have lo : ∀ x ∈ S.by n, x < 256 := S.by_low n
  have l2 : ∀ x ∈ [2], x < 256 := by simp
  have lo2 : ∀ x ∈ 2 :: S.by n, x < 256 := fun x hx => by
    rcases List.mem_cons.1 hx with rfl | hx
    · decide
    · exact lo x hx
  have hd : dgN 1 (S.by n) < 2 ^ 256 := Nat.lt_trans (Nat.mod_lt _ ord_pos) ord_lt
  have S1 := sum_fun IV 0 rfl (2 :: S.by n) lo2
  refine sgNew_walk n (mskN n) (pubN n) (nm (dgN 1 (S.by n))) (nm (secN n)) (stV IV 0 []) (stV IV 0 [2]) (stV IV 0 (2 :: S.by n)) (S.by n) rfl (fun u w hu hT => sDig_fun 1 (by decide) (S.by n) lo (by rw [S.by_length]; decide) u w hu hT) (sgOne_fun _ hd) new_fun (fun v w hv hT => write_fun IV 0 rfl [] [2] (by simp) l2 (by simp) v w hv hT) (fun v w hv hT => write_fun IV 0 rfl [2] (S.by n) l2 lo (by rw [S.by_length]; decide) v w hv hT) (fun w hT => ?_) (sgBase_fun _ (Nat.lt_trans (sec_lt n) ord_lt)) w hT
  have := S1 w hT
  unfold mskN
  rw [← vB_num (sumS_length _) (sumS_low _)]
  exact this
end Go.Proofs.YtfknkfninjjgbabDoor
