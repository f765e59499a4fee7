/- GfTells returns true for every two bytes, every number and every column. -/
import Derived.Test.YtohgnkpaaocjmaaRCol
namespace Go.Proofs.Ytohgnkpaaocjmaa
open Go.RowKit
set_option linter.unusedSimpArgs false
attribute [local go_sem] YieldsP execOp
attribute [local simp] MP.eq_p
theorem guard_a4 : Try.prog.eqGuardType Try.prog.depth 23 = false := by kernel_rfl
theorem unboxL_length : G.unboxL.length = 256 := by simp [G.unboxL]
theorem boxL_length : G.boxL.length = 256 := by simp [G.boxL]
theorem yields_build4 {o : Oper} {a : Act} {w : World} {φ : Value → World → Prop} (x y z u : Nat) (ho : o.op = .build 23 #[(0, .const (.int .u8 (x : Int))), (1, .const (.int .u8 (y : Int))), (2, .const (.int .u8 (z : Int))), (3, .const (.int .u8 (u : Int)))]) (hb : Try.prog.built 23 [(0, b8 x), (1, b8 y), (2, b8 z), (3, b8 u)] = some #[b8 x, b8 y, b8 z, b8 u])
    (h : φ (aB [x, y, z, u]) w) : YieldsP Try.prog o a w φ := by
  have e : (execOp a.eval o).run Try.prog w = .ok (.value (aB [x, y, z, u])) w := by
    have e1 : (Instr.build 23 ((#[(0, .const (.int .u8 (x : Int))), (1, .const (.int .u8 (y : Int))), (2, .const (.int .u8 (z : Int))), (3, .const (.int .u8 (u : Int)))] : Array (Nat × Operand)).map fun x => (x.fst, a.eval x.snd))).run Try.prog w = .ok (.agg #[b8 x, b8 y, b8 z, b8 u]) w := run_build w 23 _ _ (by simpa [Act.eval] using hb)
    unfold execOp
    simp only [ho, Sem.run_bind, e1, Result.andThen_ok, Sem.run_pure]
    rfl
  unfold YieldsP
  rw [e]
  exact ⟨h, Below.refl _ _⟩
set_option maxRecDepth 20000 in
set_option maxHeartbeats 4000000 in
theorem gfTells_of {Tb : World → Prop} (C : GfC Tb) (a : Nat) (ha : a < 256) (b : Nat) (hb : b < 256) (n : Nat) (hn : n < 18446744073709551616) (c0 c1 c2 c3 : Nat) (h0 : c0 < 256) (h1 : c1 < 256) (h2 : c2 < 256) (h3 : c3 < 256) (w : World) (hT : Tb w) :
    Calls Try.prog 3 #[b8 a, b8 b, .int .u64 (n : Int), aB [c0, c1, c2, c3]] w fun e w' => e = .returned (.bool true) ∧ Below w.heap.size w w' := by
  have TB : Hid (∀ W, Below w.heap.size w W → Tb W) := C.all hT
  have lowE : ∀ {e : Ending} {w' W : World} {v : Value}, (e = .returned v ∧ w' = W) → (e = .returned v ∧ Below W.heap.size W w') := fun ⟨he, hw⟩ => ⟨he, by rw [hw]; exact Below.refl _ _⟩
  have M1 : Hid _ := C.mul a b ha hb
  have M2 : Hid (∀ W, Calls Try.prog 11 #[b8 a, b8 b] W fun e w' => e = .returned (b8 (G.mul a b)) ∧ Below W.heap.size W w') := fun W => (rgf_fun a b ha hb W).mono fun e w' h => lowE h
  have P1 : Hid _ := C.pow a n ha hn
  have P2 : Hid (∀ W, Calls Try.prog 13 #[b8 a, .int .u64 (n : Int)] W fun e w' => e = .returned (b8 (G.pow a n)) ∧ Below W.heap.size W w') := fun W => (rgpow_fun a n ha hn W).mono fun e w' h => lowE h
  have I1 : Hid _ := C.inv a ha
  have I2 : Hid (∀ W, Calls Try.prog 15 #[b8 a] W fun e w' => e = .returned (b8 (G.inv a)) ∧ Below W.heap.size W w') := fun W => (rginv_fun a ha W).mono fun e w' h => lowE h
  have S1 : Hid _ := C.sub a ha
  have S2 : Hid _ := C.unsub a ha
  have X1 : Hid _ := C.mix c0 c1 c2 c3 h0 h1 h2 h3
  have X2 : Hid _ := C.unmix c0 c1 c2 c3 h0 h1 h2 h3
  have lc : ∀ x ∈ [c0, c1, c2, c3], x < 256 := by
    intro x hx
    simp only [List.mem_cons, List.not_mem_nil, or_false] at hx
    rcases hx with rfl | rfl | rfl | rfl <;> assumption
  have K1 : Hid _ := rcol_fun [c0, c1, c2, c3] [2, 3, 1, 1] rfl rfl lc (by decide)
  have K2 : Hid _ := rcol_fun [c0, c1, c2, c3] [14, 11, 13, 9] rfl rfl lc (by decide)
  rw [G.colL_mix h0 h1 h2 h3] at K1
  rw [G.colL_unmix] at K2
  have BX : Hid _ := rbox_fun
  have UX : Hid _ := runbox_fun
  have GB : Hid (G.boxL.getD a 0 = G.sub a ∧ G.boxL.length = 256) := ⟨box_get ha, boxL_length⟩
  have GU : Hid (G.unboxL.getD a 0 = G.unsub a ∧ G.unboxL.length = 256) := ⟨unbox_get ha, unboxL_length⟩
  have HA : Hid (a < 256) := ha
  have a1 : (a : Int) < 256 := by omega
  clear hT C ha hb h0 h1 h2 h3 lc lowE
  generalize G.mul a b = m1 at *
  generalize G.pow a n = p1 at *
  generalize G.inv a = i1 at *
  generalize G.sub a = s1 at *
  generalize G.unsub a = s2 at *
  generalize G.boxL = bx at *
  generalize G.unboxL = ux at *
  generalize hmx : [G.m2 c0 c1 c2 c3, G.m2 c1 c2 c3 c0, G.m2 c2 c3 c0 c1, G.m2 c3 c0 c1 c2] = mx at *
  have X1' : Hid (∀ W, Tb W → Calls Try.prog 19 #[aB [c0, c1, c2, c3]] W fun e w' => e = .returned (aB mx) ∧ Below W.heap.size W w') := by rw [← hmx]; exact X1
  have ML : Hid (mx.length = 4) := by rw [← hmx]; exact rfl
  generalize hux : [G.u2 c0 c1 c2 c3, G.u2 c1 c2 c3 c0, G.u2 c2 c3 c0 c1, G.u2 c3 c0 c1 c2] = nx at *
  have X2' : Hid (∀ W, Tb W → Calls Try.prog 21 #[aB [c0, c1, c2, c3]] W fun e w' => e = .returned (aB nx) ∧ Below W.heap.size W w') := by rw [← hux]; exact X2
  have NL : Hid (nx.length = 4) := by rw [← hux]; exact rfl
  clear X1 X2 hmx hux
  generalize hcc : [c0, c1, c2, c3] = cc at *
  have CL : Hid (cc.length = 4) := by rw [← hcc]; exact rfl
  clear hcc c0 c1 c2 c3
  have IC : Hid _ := info_a4.trans (congrArg some (show 4 = (cc.map b8).length by rw [List.length_map, CL.out]))
  have IB : Hid _ := info_a256.trans (congrArg some (show 256 = (bx.map b8).length by rw [List.length_map, GB.out.2]))
  obtain ⟨x0, x1⟩ := al1 w (cc.map b8).toArray 23
  have A0 : Hid (Blk _ w.heap.size (cc.map b8)) := x0
  have A1 : Hid (Below w.heap.size w _) := x1
  clear x0 x1
  go_enter Try.func3, Try.ntmps3
  go_wp2_with fail
  generalize w.alloc _ = w1 at *
  refine Calls.mono (BX.out w1) ?_
  rintro e w2 ⟨rfl, hb2⟩
  have A2 : Hid (Blk w2 w.heap.size (cc.map b8)) := A0.out.up hb2 A0.out.lt
  have D2 : Hid (Below w.heap.size w w2) := A1.out.trans (hb2.mono A1.out.size)
  clear hb2 A0 A1 BX
  have T2 : Hid (∀ C t, C.size = 256 → World.there (w2.alloc (.cells C t)) w2.heap.size 0 (bx.map b8).length) := fun C t hC => (al1 w2 C t).1.there (by rw [List.length_map, GB.out.2, Array.length_toList, hC]; omega)
  go_wp2_with (first | simp only [zero_a256] | refine wp_store_eq rfl 24 (.tmp 9) (.tmp 10) rfl w2.heap.size 0 (bx.map b8) rfl rfl (T2.out _ _ (by rw [List.size_toArray, zB_length])) IB.out (one_b8 _) ?_)
  intro w3 hw3
  obtain ⟨b3, h3⟩ : Blk w3 w2.heap.size (bx.map b8) ∧ Below w2.heap.size w2 w3 := by
    rw [hw3.out]
    exact alst w2 _ _ _ (by rw [List.length_map, GB.out.2, List.size_toArray, zB_length])
  have A3 : Hid (Blk w3 w.heap.size (cc.map b8)) := A2.out.up h3 A2.out.lt
  have B3 : Hid (Blk w3 w2.heap.size (bx.map b8)) := b3
  have D3 : Hid (Below w.heap.size w w3) := D2.out.trans (h3.mono D2.out.size)
  clear hw3 b3 h3 T2 A2 D2
  generalize w2.heap.size = g at *
  have TW : Hid (∀ W, Below w3.heap.size w3 W → Tb W) := fun W hW => TB.out W (D3.out.trans (hW.mono D3.out.size))
  go_wp2_with fail
  refine wp_region_monoE [MP.eq (b8 a), MP.eq (b8 b), MP.eq (b8 m1), MP.eq (b8 a), MP.eq (b8 b), MP.eq (b8 m1), MP.eq (.bool true), MP.eq (.bool true), MP.eq (b8 a), MP.eq (.int .u64 (n : Int)), MP.eq (b8 p1), MP.eq (b8 a), MP.eq (.int .u64 (n : Int)), MP.eq (b8 p1), MP.eq (.bool true), MP.eq (.bool true), MP.eq (.bool true), MP.eq (b8 a), MP.eq (b8 i1), MP.eq (b8 a), MP.eq (b8 i1), MP.eq (.bool true), MP.eq (.bool true), MP.eq (.bool true), MP.eq (b8 a), MP.eq (b8 s1), MP.eq (b8 a), MP.eq (.pointer (some ⟨g, a, none⟩)), MP.eq (b8 s1), MP.eq (.bool true), MP.eq (.bool true), MP.eq (.bool true), MP.eq (b8 a), MP.eq (b8 s2), MP.eq (aB bx), MP.eq (aB ux), MP.eq (b8 a), MP.eq (b8 s2), MP.eq (.bool true), MP.eq (.bool true), MP.eq (.bool true), MP.eq (aB cc), MP.eq (aB mx), MP.eq (aB cc), MP.eq (aB [2, 3, 1, 1]), MP.eq (aB mx), MP.eq (.bool true), MP.eq (.bool true), MP.eq (.bool true), MP.eq (aB cc), MP.eq (aB nx), MP.eq (aB cc), MP.eq (aB [14, 11, 13, 9]), MP.eq (aB nx), MP.eq (.bool true), MP.eq (.bool true), MP.eq (.bool true)] (by kernel_rfl) (by kernel_rfl) rfl ?_
  apply Exists.intro
  refine ⟨fun vals => ?_, ?_, fun vals4 w4 hb4 hF => ?_⟩
  · simp only [putsV, dstL, List.length_cons, List.length_nil, Nat.zero_add, Nat.reduceAdd, List.getElem?_cons_zero, List.getElem?_cons_succ, Option.bind_some, Act.put, List.setIfInBounds_toArray, List.set_cons_succ, List.set_cons_zero]
    rfl
  · refine ⟨?_, ?_, ?_, ?_, ?_, ?_, ?_, ?_, ?_, ?_, ?_, ?_, ?_, ?_, ?_, ?_, ?_, ?_, ?_, ?_, ?_, ?_, ?_, ?_, ?_, ?_, ?_, ?_, ?_, ?_, ?_, ?_, ?_, ?_, ?_, ?_, ?_, ?_, ?_, ?_, ?_, ?_, ?_, ?_, ?_, ?_, ?_, ?_, ?_, ?_, ?_, ?_, ?_, ?_, ?_, ?_, ?_, trivial⟩
    · intro vals W hW hw hd
      try simp [Region.binds] at hd
      refine ⟨by first | rfl | simp [Region.wanted, yielded, hd], ?_⟩
      simp [go_sem, hd]
      exact Below.refl _ _
    · intro vals W hW hw hd
      try simp [Region.binds] at hd
      refine ⟨by first | rfl | simp [Region.wanted, yielded, hd], ?_⟩
      simp [go_sem, hd]
      exact Below.refl _ _
    · intro vals W hW hw hd
      try simp [Region.binds] at hd
      refine ⟨by first | rfl | simp [Region.wanted, yielded, hd], ?_⟩
      simp [go_sem, hd]
      exact (M1.out W (TW.out W hW.out)).mono fun e w' ⟨he, hb⟩ => ⟨_, he, rfl, hb⟩
    · intro vals W hW hw hd
      try simp [Region.binds] at hd
      refine ⟨by first | rfl | simp [Region.wanted, yielded, hd], ?_⟩
      simp [go_sem, hd]
      exact Below.refl _ _
    · intro vals W hW hw hd
      try simp [Region.binds] at hd
      refine ⟨by first | rfl | simp [Region.wanted, yielded, hd], ?_⟩
      simp [go_sem, hd]
      exact Below.refl _ _
    · intro vals W hW hw hd
      try simp [Region.binds] at hd
      refine ⟨by first | rfl | simp [Region.wanted, yielded, hd], ?_⟩
      simp [go_sem, hd]
      exact (M2.out W).mono fun e w' ⟨he, hb⟩ => ⟨_, he, rfl, hb⟩
    · intro vals W hW hw hd
      try simp [Region.binds] at hd
      refine ⟨by first | rfl | simp [Region.wanted, yielded, hd], ?_⟩
      simp [go_sem, hd]
      exact Below.refl _ _
    · intro vals W hW hw hd
      try simp [Region.binds] at hd
      refine ⟨by first | rfl | simp [Region.wanted, yielded, hd], ?_⟩
      simp [go_sem, hd]
      exact Below.refl _ _
    · intro vals W hW hw hd
      try simp [Region.binds] at hd
      refine ⟨by first | rfl | simp [Region.wanted, yielded, hd], ?_⟩
      simp [go_sem, hd]
      exact Below.refl _ _
    · intro vals W hW hw hd
      try simp [Region.binds] at hd
      refine ⟨by first | rfl | simp [Region.wanted, yielded, hd], ?_⟩
      simp [go_sem, hd]
      exact Below.refl _ _
    · intro vals W hW hw hd
      try simp [Region.binds] at hd
      refine ⟨by first | rfl | simp [Region.wanted, yielded, hd], ?_⟩
      simp [go_sem, hd]
      exact (P1.out W (TW.out W hW.out)).mono fun e w' ⟨he, hb⟩ => ⟨_, he, rfl, hb⟩
    · intro vals W hW hw hd
      try simp [Region.binds] at hd
      refine ⟨by first | rfl | simp [Region.wanted, yielded, hd], ?_⟩
      simp [go_sem, hd]
      exact Below.refl _ _
    · intro vals W hW hw hd
      try simp [Region.binds] at hd
      refine ⟨by first | rfl | simp [Region.wanted, yielded, hd], ?_⟩
      simp [go_sem, hd]
      exact Below.refl _ _
    · intro vals W hW hw hd
      try simp [Region.binds] at hd
      refine ⟨by first | rfl | simp [Region.wanted, yielded, hd], ?_⟩
      simp [go_sem, hd]
      exact (P2.out W).mono fun e w' ⟨he, hb⟩ => ⟨_, he, rfl, hb⟩
    · intro vals W hW hw hd
      try simp [Region.binds] at hd
      refine ⟨by first | rfl | simp [Region.wanted, yielded, hd], ?_⟩
      simp [go_sem, hd]
      exact Below.refl _ _
    · intro vals W hW hw hd
      try simp [Region.binds] at hd
      refine ⟨by first | rfl | simp [Region.wanted, yielded, hd], ?_⟩
      simp [go_sem, hd]
      exact Below.refl _ _
    · intro vals W hW hw hd
      try simp [Region.binds] at hd
      refine ⟨by first | rfl | simp [Region.wanted, yielded, hd], ?_⟩
      simp [go_sem, hd]
      exact Below.refl _ _
    · intro vals W hW hw hd
      try simp [Region.binds] at hd
      refine ⟨by first | rfl | simp [Region.wanted, yielded, hd], ?_⟩
      simp [go_sem, hd]
      exact Below.refl _ _
    · intro vals W hW hw hd
      try simp [Region.binds] at hd
      refine ⟨by first | rfl | simp [Region.wanted, yielded, hd], ?_⟩
      simp [go_sem, hd]
      exact (I1.out W (TW.out W hW.out)).mono fun e w' ⟨he, hb⟩ => ⟨_, he, rfl, hb⟩
    · intro vals W hW hw hd
      try simp [Region.binds] at hd
      refine ⟨by first | rfl | simp [Region.wanted, yielded, hd], ?_⟩
      simp [go_sem, hd]
      exact Below.refl _ _
    · intro vals W hW hw hd
      try simp [Region.binds] at hd
      refine ⟨by first | rfl | simp [Region.wanted, yielded, hd], ?_⟩
      simp [go_sem, hd]
      exact (I2.out W).mono fun e w' ⟨he, hb⟩ => ⟨_, he, rfl, hb⟩
    · intro vals W hW hw hd
      try simp [Region.binds] at hd
      refine ⟨by first | rfl | simp [Region.wanted, yielded, hd], ?_⟩
      simp [go_sem, hd]
      exact Below.refl _ _
    · intro vals W hW hw hd
      try simp [Region.binds] at hd
      refine ⟨by first | rfl | simp [Region.wanted, yielded, hd], ?_⟩
      simp [go_sem, hd]
      exact Below.refl _ _
    · intro vals W hW hw hd
      try simp [Region.binds] at hd
      refine ⟨by first | rfl | simp [Region.wanted, yielded, hd], ?_⟩
      simp [go_sem, hd]
      exact Below.refl _ _
    · intro vals W hW hw hd
      try simp [Region.binds] at hd
      refine ⟨by first | rfl | simp [Region.wanted, yielded, hd], ?_⟩
      simp [go_sem, hd]
      exact Below.refl _ _
    · intro vals W hW hw hd
      try simp [Region.binds] at hd
      refine ⟨by first | rfl | simp [Region.wanted, yielded, hd], ?_⟩
      simp [go_sem, hd]
      exact (S1.out W (TW.out W hW.out)).mono fun e w' ⟨he, hb⟩ => ⟨_, he, rfl, hb⟩
    · intro vals W hW hw hd
      try simp [Region.binds] at hd
      refine ⟨by first | rfl | simp [Region.wanted, yielded, hd], ?_⟩
      simp [go_sem, hd]
      exact Below.refl _ _
    · intro vals W hW hw hd
      try simp [Region.binds] at hd
      refine ⟨by first | rfl | simp [Region.wanted, yielded, hd], ?_⟩
      simp [go_sem, hd, a1]
      exact Below.refl _ _
    · intro vals W hW hw hd
      try simp [Region.binds] at hd
      refine ⟨by first | rfl | simp [Region.wanted, yielded, hd], ?_⟩
      have cc' := (B3.out.up hW.out B3.out.lt).byte a (by rw [GB.out.2]; exact HA.out)
      rw [GB.out.1] at cc'
      simp [go_sem, hd, cc']
      exact Below.refl _ _
    · intro vals W hW hw hd
      try simp [Region.binds] at hd
      refine ⟨by first | rfl | simp [Region.wanted, yielded, hd], ?_⟩
      simp [go_sem, hd]
      exact Below.refl _ _
    · intro vals W hW hw hd
      try simp [Region.binds] at hd
      refine ⟨by first | rfl | simp [Region.wanted, yielded, hd], ?_⟩
      simp [go_sem, hd]
      exact Below.refl _ _
    · intro vals W hW hw hd
      try simp [Region.binds] at hd
      refine ⟨by first | rfl | simp [Region.wanted, yielded, hd], ?_⟩
      simp [go_sem, hd]
      exact Below.refl _ _
    · intro vals W hW hw hd
      try simp [Region.binds] at hd
      refine ⟨by first | rfl | simp [Region.wanted, yielded, hd], ?_⟩
      simp [go_sem, hd]
      exact Below.refl _ _
    · intro vals W hW hw hd
      try simp [Region.binds] at hd
      refine ⟨by first | rfl | simp [Region.wanted, yielded, hd], ?_⟩
      simp [go_sem, hd]
      exact (S2.out W (TW.out W hW.out)).mono fun e w' ⟨he, hb⟩ => ⟨_, he, rfl, hb⟩
    · intro vals W hW hw hd
      try simp [Region.binds] at hd
      refine ⟨by first | rfl | simp [Region.wanted, yielded, hd], ?_⟩
      exact yieldsA_load 24 (.tmp 9) rfl g 0 rfl (bx.map b8) _ (B3.out.up hW.out B3.out.lt).all u_a256 rfl IB.out rfl
    · intro vals W hW hw hd
      try simp [Region.binds] at hd
      refine ⟨by first | rfl | simp [Region.wanted, yielded, hd], ?_⟩
      simp [go_sem, hd]
      exact (UX.out W).mono fun e w' ⟨he, hb⟩ => ⟨_, he, rfl, hb⟩
    · intro vals W hW hw hd
      try simp [Region.binds] at hd
      refine ⟨by first | rfl | simp [Region.wanted, yielded, hd], ?_⟩
      simp [go_sem, hd]
      exact Below.refl _ _
    · intro vals W hW hw hd
      try simp [Region.binds] at hd
      refine ⟨by first | rfl | simp [Region.wanted, yielded, hd], ?_⟩
      exact yieldsA_idx u_a256 (.tmp 46) (.tmp 47) rfl ux GU.out.2 a .u8 HA.out hd.1 hd.2.1 (by rw [GU.out.1]; rfl)
    · intro vals W hW hw hd
      try simp [Region.binds] at hd
      refine ⟨by first | rfl | simp [Region.wanted, yielded, hd], ?_⟩
      simp [go_sem, hd]
      exact Below.refl _ _
    · intro vals W hW hw hd
      try simp [Region.binds] at hd
      refine ⟨by first | rfl | simp [Region.wanted, yielded, hd], ?_⟩
      simp [go_sem, hd]
      exact Below.refl _ _
    · intro vals W hW hw hd
      try simp [Region.binds] at hd
      refine ⟨by first | rfl | simp [Region.wanted, yielded, hd], ?_⟩
      simp [go_sem, hd]
      exact Below.refl _ _
    · intro vals W hW hw hd
      try simp [Region.binds] at hd
      refine ⟨by first | rfl | simp [Region.wanted, yielded, hd], ?_⟩
      exact yieldsA_load 23 (.tmp 7) rfl w.heap.size 0 rfl (cc.map b8) _ (A3.out.up hW.out A3.out.lt).all u_a4 rfl IC.out rfl
    · intro vals W hW hw hd
      try simp [Region.binds] at hd
      refine ⟨by first | rfl | simp [Region.wanted, yielded, hd], ?_⟩
      simp [go_sem, hd]
      exact (X1'.out W (TW.out W hW.out)).mono fun e w' ⟨he, hb⟩ => ⟨_, he, rfl, hb⟩
    · intro vals W hW hw hd
      try simp [Region.binds] at hd
      refine ⟨by first | rfl | simp [Region.wanted, yielded, hd], ?_⟩
      exact yieldsA_load 23 (.tmp 7) rfl w.heap.size 0 rfl (cc.map b8) _ (A3.out.up hW.out A3.out.lt).all u_a4 rfl IC.out rfl
    · intro vals W hW hw hd
      try simp [Region.binds] at hd
      refine ⟨by first | rfl | simp [Region.wanted, yielded, hd], ?_⟩
      exact yields_build4 2 3 1 1 rfl (by kernel_rfl) rfl
    · intro vals W hW hw hd
      try simp [Region.binds] at hd
      refine ⟨by first | rfl | simp [Region.wanted, yielded, hd], ?_⟩
      simp [go_sem, hd]
      exact (K1.out W).mono fun e w' ⟨he, hb⟩ => ⟨_, he, rfl, hb⟩
    · intro vals W hW hw hd
      try simp [Region.binds] at hd
      refine ⟨by first | rfl | simp [Region.wanted, yielded, hd], ?_⟩
      exact yieldsA_eq u_a4 guard_a4 (.tmp 53) (.tmp 56) rfl mx mx ML.out ML.out hd.1 hd.2.1 (by simp)
    · intro vals W hW hw hd
      try simp [Region.binds] at hd
      refine ⟨by first | rfl | simp [Region.wanted, yielded, hd], ?_⟩
      simp [go_sem, hd]
      exact Below.refl _ _
    · intro vals W hW hw hd
      try simp [Region.binds] at hd
      refine ⟨by first | rfl | simp [Region.wanted, yielded, hd], ?_⟩
      simp [go_sem, hd]
      exact Below.refl _ _
    · intro vals W hW hw hd
      try simp [Region.binds] at hd
      refine ⟨by first | rfl | simp [Region.wanted, yielded, hd], ?_⟩
      exact yieldsA_load 23 (.tmp 7) rfl w.heap.size 0 rfl (cc.map b8) _ (A3.out.up hW.out A3.out.lt).all u_a4 rfl IC.out rfl
    · intro vals W hW hw hd
      try simp [Region.binds] at hd
      refine ⟨by first | rfl | simp [Region.wanted, yielded, hd], ?_⟩
      simp [go_sem, hd]
      exact (X2'.out W (TW.out W hW.out)).mono fun e w' ⟨he, hb⟩ => ⟨_, he, rfl, hb⟩
    · intro vals W hW hw hd
      try simp [Region.binds] at hd
      refine ⟨by first | rfl | simp [Region.wanted, yielded, hd], ?_⟩
      exact yieldsA_load 23 (.tmp 7) rfl w.heap.size 0 rfl (cc.map b8) _ (A3.out.up hW.out A3.out.lt).all u_a4 rfl IC.out rfl
    · intro vals W hW hw hd
      try simp [Region.binds] at hd
      refine ⟨by first | rfl | simp [Region.wanted, yielded, hd], ?_⟩
      exact yields_build4 14 11 13 9 rfl (by kernel_rfl) rfl
    · intro vals W hW hw hd
      try simp [Region.binds] at hd
      refine ⟨by first | rfl | simp [Region.wanted, yielded, hd], ?_⟩
      simp [go_sem, hd]
      exact (K2.out W).mono fun e w' ⟨he, hb⟩ => ⟨_, he, rfl, hb⟩
    · intro vals W hW hw hd
      try simp [Region.binds] at hd
      refine ⟨by first | rfl | simp [Region.wanted, yielded, hd], ?_⟩
      exact yieldsA_eq u_a4 guard_a4 (.tmp 61) (.tmp 64) rfl nx nx NL.out NL.out hd.1 hd.2.1 (by simp)
    · intro vals W hW hw hd
      try simp [Region.binds] at hd
      refine ⟨by first | rfl | simp [Region.wanted, yielded, hd], ?_⟩
      simp [go_sem, hd]
      exact Below.refl _ _
    · intro vals W hW hw hd
      try simp [Region.binds] at hd
      refine ⟨by first | rfl | simp [Region.wanted, yielded, hd], ?_⟩
      simp [go_sem, hd]
      exact Below.refl _ _
  obtain ⟨f0, f1, f2, f3, f4, f5, f6, f7, f8, f9, f10, f11, f12, f13, f14, f15, f16, f17, f18, f19, f20, f21, f22, f23, f24, f25, f26, f27, f28, f29, f30, f31, f32, f33, f34, f35, f36, f37, f38, f39, f40, f41, f42, f43, f44, f45, f46, f47, f48, f49, f50, f51, f52, f53, f54, f55, f56, _⟩ := hF
  simp only [MP.eq_p] at f0 f1 f2 f3 f4 f5 f6 f7 f8 f9 f10 f11 f12 f13 f14 f15 f16 f17 f18 f19 f20 f21 f22 f23 f24 f25 f26 f27 f28 f29 f30 f31 f32 f33 f34 f35 f36 f37 f38 f39 f40 f41 f42 f43 f44 f45 f46 f47 f48 f49 f50 f51 f52 f53 f54 f55 f56
  rw [f56]
  have D4 : Hid (Below w.heap.size w w4) := D3.out.trans (hb4.out.mono D3.out.size)
  clear hb4 D3 A3 B3
  go_wp2_with fail
  go_ret
  exact ⟨rfl, D4.out⟩
end Go.Proofs.Ytohgnkpaaocjmaa
