/- SignPairs, out of what package sign must keep. -/
import Derived.Test.YtfknkfninjjgbabDoorQSgR
import Derived.Test.YtfknkfninjjgbabDoorQUpMG
import Derived.Test.YtfknkfninjjgbabDoorQYo
import Derived.Test.YtfknkfninjjgbabDoorQCrvS
import Derived.Test.YtfknkfninjjgbabDoorQUpV
namespace Go.Proofs.YtfknkfninjjgbabDoor
open Go.RowKit
attribute [local go_sem] World.cell?_alloc_some cell_alloc2 cell_alloc3 cell_alloc4 frozen?_alloc_cells frozen_out
attribute [local simp] MP.eq_p
set_option linter.unusedSimpArgs false
theorem yields_pub0 {o : Oper} {a : Act} {w : World} (x : Operand) (ho : o.op = .fieldAddr 28 x 0) (b : Nat) (hx : a.eval x = .pointer (some ⟨b, 0, none⟩)) : YieldsP Tryd.prog o a w (MP.eq (.pointer (some ⟨b, 0, none⟩))).p :=
  yields_run (by
    generalize a.eval = ev at *
    unfold execOp
    simp [ho, hx, go_sem])
theorem cfSL (args : Array Value) (W : World) : (callFunc 11 args).run Tryd.prog W = .ok (.enter 11 args) W := cf_is (fn := Tryd.f11) (by kernel_rfl) (by decide) (by kernel_rfl) args W
theorem cfCm (args : Array Value) (W : World) : (callFunc 10 args).run Tryd.prog W = .ok (.enter 10 args) W := cf_is (fn := Tryd.f10) (by kernel_rfl) (by decide) (by kernel_rfl) args W
theorem cfVf (args : Array Value) (W : World) : (callFunc 12 args).run Tryd.prog W = .ok (.enter 12 args) W := cf_is (fn := Tryd.f12) (by kernel_rfl) (by decide) (by kernel_rfl) args W
theorem num_zero : Tryd.prog.built 26 [] = some (c4 nO).toArray := by kernel_rfl
theorem guard_num : Tryd.prog.eqGuardType Tryd.prog.depth 26 = false := by kernel_rfl
theorem guard_b32 : Tryd.prog.eqGuardType Tryd.prog.depth 22 = false := by kernel_rfl
set_option maxRecDepth 20000 in
set_option maxHeartbeats 2000000 in
theorem signPairs_64 (n m a nq : Nat) (x lm bx by_ tx ty : Nm) (v : Value) (aq : Option Addr) (cq : Nat) (p q : List Nat) (eb : ∀ w, (binOp .eql 22 (bV a) (bV a)).run Tryd.prog w = .ok (.bool true) w) (nx0 : ∀ w, (binOp .neq 26 (N x) (N nO)).run Tryd.prog w = .ok (.bool true) w) (hn : Hid (((nq : Int) == 64) = true))
    (NW : ∀ w, KTab w → Calls Tryd.prog 6 #[bV n] w fun e w' => e = .returned (prV x m a) ∧ Below w.heap.size w w')
    (CB : ∀ w, Calls Tryd.prog 9 #[] w fun e w' => e = .returned (Wv bx by_) ∧ Below w.heap.size w w')
    (TM : ∀ w, Calls Tryd.prog 8 #[N x, Wv bx by_] w fun e w' => e = .returned (Wv tx ty) ∧ Below w.heap.size w w')
    (PK : ∀ w, Calls Tryd.prog 7 #[Wv tx ty] w fun e w' => e = .returned (.tuple #[.agg (bR (a)).toArray, .int .i64 0]) ∧ Below w.heap.size w w')
    (SL : ∀ w, Calls Tryd.prog 11 #[] w fun e w' => e = .returned (N lm) ∧ Below w.heap.size w w')
    (CM : ∀ w, Calls Tryd.prog 10 #[N x, N lm] w fun e w' => e = .returned (.int .i64 (-1)) ∧ Below w.heap.size w w')
    (w : World) (hv : By w v p) (hu : By w (.slice aq nq cq) q) (hK : KTab w) :
    Calls Tryd.prog 3 #[bV n, v, .slice aq nq cq] w fun e w' => e = .returned (.bool true) ∧ Below w.heap.size w w' := by
  have HV : Hid (By w v p) := hv
  have HU : Hid (By w (.slice aq nq cq) q) := hu
  have HK : Hid (KTab w) := hK
  clear hv hu hK
  go_enter Tryd.func3, Tryd.ntmps3
  have s0 : Hid (Kn (w.alloc (.cells (bR (n)).toArray 22)) [(w.heap.size, (bR (n)))]) := ((Kn.nil w).al (bR (n)) 22 rfl)
  have b0 : Hid (Below w.heap.size w (w.alloc (.cells (bR (n)).toArray 22))) := ((Below.refl _ _).alloc (Nat.le_refl _) _)
  go_wp2_with (first | refine wp_ldW rfl 22 _ rfl (w.heap.size) 0 rfl (bR (n)) _ (Kn.rng s0.out 0 rfl) Tryd.underlying22 rfl (info_bR (n)) ?_)
  refine (NW _ (HK.out.up b0.out HK.out.pos)).mono ?_
  rintro e w1 ⟨rfl, hb1⟩
  have s1 : Hid (Kn w1 [(w.heap.size, (bR (n)))]) := s0.out.up hb1
  have b1 : Hid (Below w.heap.size w w1) := b0.out.trans (hb1.mono b0.out.size)
  have z1 := b1.out.size
  clear hb1 s0 b0
  have s2x : Hid (Kn (w1.alloc (.cells #[Value.int IntKind.u64 0, Value.int IntKind.u64 0, Value.int IntKind.u64 0, Value.int IntKind.u64 0, Value.int IntKind.u8 0, Value.int IntKind.u8 0, Value.int IntKind.u8 0, Value.int IntKind.u8 0, Value.int IntKind.u8 0, Value.int IntKind.u8 0, Value.int IntKind.u8 0, Value.int IntKind.u8 0, Value.int IntKind.u8 0, Value.int IntKind.u8 0, Value.int IntKind.u8 0, Value.int IntKind.u8 0, Value.int IntKind.u8 0, Value.int IntKind.u8 0, Value.int IntKind.u8 0, Value.int IntKind.u8 0, Value.int IntKind.u8 0, Value.int IntKind.u8 0, Value.int IntKind.u8 0, Value.int IntKind.u8 0, Value.int IntKind.u8 0, Value.int IntKind.u8 0, Value.int IntKind.u8 0, Value.int IntKind.u8 0, Value.int IntKind.u8 0, Value.int IntKind.u8 0, Value.int IntKind.u8 0, Value.int IntKind.u8 0, Value.int IntKind.u8 0, Value.int IntKind.u8 0, Value.int IntKind.u8 0, Value.int IntKind.u8 0, Value.int IntKind.u8 0, Value.int IntKind.u8 0, Value.int IntKind.u8 0, Value.int IntKind.u8 0, Value.int IntKind.u8 0, Value.int IntKind.u8 0, Value.int IntKind.u8 0, Value.int IntKind.u8 0, Value.int IntKind.u8 0, Value.int IntKind.u8 0, Value.int IntKind.u8 0, Value.int IntKind.u8 0, Value.int IntKind.u8 0, Value.int IntKind.u8 0, Value.int IntKind.u8 0, Value.int IntKind.u8 0, Value.int IntKind.u8 0, Value.int IntKind.u8 0, Value.int IntKind.u8 0, Value.int IntKind.u8 0, Value.int IntKind.u8 0, Value.int IntKind.u8 0, Value.int IntKind.u8 0, Value.int IntKind.u8 0, Value.int IntKind.u8 0, Value.int IntKind.u8 0, Value.int IntKind.u8 0, Value.int IntKind.u8 0, Value.int IntKind.u8 0, Value.int IntKind.u8 0, Value.int IntKind.u8 0, Value.int IntKind.u8 0] 28)) [(w1.heap.size, pairZ), (w.heap.size, (bR (n)))]) := s1.out.al pairZ 28 rfl
  have b2x : Hid (Below w.heap.size w (w1.alloc (.cells #[Value.int IntKind.u64 0, Value.int IntKind.u64 0, Value.int IntKind.u64 0, Value.int IntKind.u64 0, Value.int IntKind.u8 0, Value.int IntKind.u8 0, Value.int IntKind.u8 0, Value.int IntKind.u8 0, Value.int IntKind.u8 0, Value.int IntKind.u8 0, Value.int IntKind.u8 0, Value.int IntKind.u8 0, Value.int IntKind.u8 0, Value.int IntKind.u8 0, Value.int IntKind.u8 0, Value.int IntKind.u8 0, Value.int IntKind.u8 0, Value.int IntKind.u8 0, Value.int IntKind.u8 0, Value.int IntKind.u8 0, Value.int IntKind.u8 0, Value.int IntKind.u8 0, Value.int IntKind.u8 0, Value.int IntKind.u8 0, Value.int IntKind.u8 0, Value.int IntKind.u8 0, Value.int IntKind.u8 0, Value.int IntKind.u8 0, Value.int IntKind.u8 0, Value.int IntKind.u8 0, Value.int IntKind.u8 0, Value.int IntKind.u8 0, Value.int IntKind.u8 0, Value.int IntKind.u8 0, Value.int IntKind.u8 0, Value.int IntKind.u8 0, Value.int IntKind.u8 0, Value.int IntKind.u8 0, Value.int IntKind.u8 0, Value.int IntKind.u8 0, Value.int IntKind.u8 0, Value.int IntKind.u8 0, Value.int IntKind.u8 0, Value.int IntKind.u8 0, Value.int IntKind.u8 0, Value.int IntKind.u8 0, Value.int IntKind.u8 0, Value.int IntKind.u8 0, Value.int IntKind.u8 0, Value.int IntKind.u8 0, Value.int IntKind.u8 0, Value.int IntKind.u8 0, Value.int IntKind.u8 0, Value.int IntKind.u8 0, Value.int IntKind.u8 0, Value.int IntKind.u8 0, Value.int IntKind.u8 0, Value.int IntKind.u8 0, Value.int IntKind.u8 0, Value.int IntKind.u8 0, Value.int IntKind.u8 0, Value.int IntKind.u8 0, Value.int IntKind.u8 0, Value.int IntKind.u8 0, Value.int IntKind.u8 0, Value.int IntKind.u8 0, Value.int IntKind.u8 0, Value.int IntKind.u8 0] 28))) := b1.out.alloc b1.out.size _
  have g2 : w.heap.size ≤ w1.heap.size := b1.out.size
  have TT2 : Hid ((w1.alloc (.cells #[Value.int IntKind.u64 0, Value.int IntKind.u64 0, Value.int IntKind.u64 0, Value.int IntKind.u64 0, Value.int IntKind.u8 0, Value.int IntKind.u8 0, Value.int IntKind.u8 0, Value.int IntKind.u8 0, Value.int IntKind.u8 0, Value.int IntKind.u8 0, Value.int IntKind.u8 0, Value.int IntKind.u8 0, Value.int IntKind.u8 0, Value.int IntKind.u8 0, Value.int IntKind.u8 0, Value.int IntKind.u8 0, Value.int IntKind.u8 0, Value.int IntKind.u8 0, Value.int IntKind.u8 0, Value.int IntKind.u8 0, Value.int IntKind.u8 0, Value.int IntKind.u8 0, Value.int IntKind.u8 0, Value.int IntKind.u8 0, Value.int IntKind.u8 0, Value.int IntKind.u8 0, Value.int IntKind.u8 0, Value.int IntKind.u8 0, Value.int IntKind.u8 0, Value.int IntKind.u8 0, Value.int IntKind.u8 0, Value.int IntKind.u8 0, Value.int IntKind.u8 0, Value.int IntKind.u8 0, Value.int IntKind.u8 0, Value.int IntKind.u8 0, Value.int IntKind.u8 0, Value.int IntKind.u8 0, Value.int IntKind.u8 0, Value.int IntKind.u8 0, Value.int IntKind.u8 0, Value.int IntKind.u8 0, Value.int IntKind.u8 0, Value.int IntKind.u8 0, Value.int IntKind.u8 0, Value.int IntKind.u8 0, Value.int IntKind.u8 0, Value.int IntKind.u8 0, Value.int IntKind.u8 0, Value.int IntKind.u8 0, Value.int IntKind.u8 0, Value.int IntKind.u8 0, Value.int IntKind.u8 0, Value.int IntKind.u8 0, Value.int IntKind.u8 0, Value.int IntKind.u8 0, Value.int IntKind.u8 0, Value.int IntKind.u8 0, Value.int IntKind.u8 0, Value.int IntKind.u8 0, Value.int IntKind.u8 0, Value.int IntKind.u8 0, Value.int IntKind.u8 0, Value.int IntKind.u8 0, Value.int IntKind.u8 0, Value.int IntKind.u8 0, Value.int IntKind.u8 0, Value.int IntKind.u8 0] 28)).there (w1.heap.size) 0 (prR (x) (m) (a)).length) := Kn.there s2x.out 0 rfl (by rw [(prR_length (x) (m) (a)), pairZ_length])
  go_wp2_with (first | simp only [zero_pair] | refine I.wp_store_eq rfl 28 _ _ rfl (w1.heap.size) 0 (prR (x) (m) (a)) rfl rfl TT2.out (info_prR (x) (m) (a)) (prR_one (x) (m) (a)) ?_)
  intro w2 hw2
  try simp only [Act.put, List.setIfInBounds_toArray, List.set_cons_succ, List.set_cons_zero]
  have s2 : Hid (Kn w2 [(w1.heap.size, (prR (x) (m) (a))), (w.heap.size, (bR (n)))]) := by rw [hw2.out]; exact Kn.put s2x.out (by rw [(prR_length (x) (m) (a)), pairZ_length])
  have b2 : Hid (Below w.heap.size w w2) := by rw [hw2.out]; exact I.below_setCells _ _ _ b2x.out g2
  have z2 := b2.out.size
  clear hw2 s2x b2x TT2 s1 b1
  go_wp2_with fail
  refine wp_region_alloc1 8 (.cells #[Value.int IntKind.u8 0, Value.int IntKind.u8 0, Value.int IntKind.u8 0, Value.int IntKind.u8 0, Value.int IntKind.u8 0, Value.int IntKind.u8 0, Value.int IntKind.u8 0, Value.int IntKind.u8 0, Value.int IntKind.u8 0, Value.int IntKind.u8 0, Value.int IntKind.u8 0, Value.int IntKind.u8 0, Value.int IntKind.u8 0, Value.int IntKind.u8 0, Value.int IntKind.u8 0, Value.int IntKind.u8 0, Value.int IntKind.u8 0, Value.int IntKind.u8 0, Value.int IntKind.u8 0, Value.int IntKind.u8 0, Value.int IntKind.u8 0, Value.int IntKind.u8 0, Value.int IntKind.u8 0, Value.int IntKind.u8 0, Value.int IntKind.u8 0, Value.int IntKind.u8 0, Value.int IntKind.u8 0, Value.int IntKind.u8 0, Value.int IntKind.u8 0, Value.int IntKind.u8 0, Value.int IntKind.u8 0, Value.int IntKind.u8 0] 22) (by kernel_rfl) (by kernel_rfl) (by kernel_rfl) (by kernel_rfl) (by decide) (fun _ _ d _ _ h => by cases d <;> exact h) rfl rfl (fun _ _ => by kernel_rfl) ?_
  apply Exists.intro
  refine ⟨fun U hU f hf hcl => ?_, fun k3 w3 hb3 hk3 hc3 => ?_⟩
  · skip
    have ra_k_0 := fun nx => (Kn.rng (s2.out.up (hf nx).out) 0 rfl : (f nx).rangeAt (w1.heap.size) 0 (prR (x) (m) (a)))
    have ra_k_1 := fun nx => (Kn.png0 (s2.out.up (hf nx).out) 0 rfl : (f nx).rangeAt (w1.heap.size) 0 [Value.int IntKind.u64 x.a, Value.int IntKind.u64 x.b, Value.int IntKind.u64 x.c, Value.int IntKind.u64 x.d])
    have ra_k_2 := fun nx => (Kn.png1 (s2.out.up (hf nx).out) 0 rfl : (f nx).rangeAt (w1.heap.size) 4 (bR (m)))
    have ra_k_3 := fun nx => (Kn.png2 (s2.out.up (hf nx).out) 0 rfl : (f nx).rangeAt (w1.heap.size) 36 (bR (a)))
    clear hf
    simp only [List.take_succ_cons, List.take_zero]
    repeat (first | (refine I.quiet_load rfl 28 _ rfl (w1.heap.size) 0 rfl (prR (x) (m) (a)) _ (fun W hW => by obtain ⟨nx, rfl⟩ := hW; exact ra_k_0 nx) Tryd.underlying28 rfl (info_prR (x) (m) (a)) ?_; simp only [Act.put, List.setIfInBounds_toArray, List.set_cons_succ, List.set_cons_zero]) | (refine I.quiet_load rfl 26 _ rfl (w1.heap.size) 0 rfl [Value.int IntKind.u64 x.a, Value.int IntKind.u64 x.b, Value.int IntKind.u64 x.c, Value.int IntKind.u64 x.d] _ (fun W hW => by obtain ⟨nx, rfl⟩ := hW; exact ra_k_1 nx) Tryd.underlying26 rfl (info_c4 (x)) ?_; simp only [Act.put, List.setIfInBounds_toArray, List.set_cons_succ, List.set_cons_zero]) | (refine I.quiet_load rfl 22 _ rfl (w1.heap.size) 4 rfl (bR (m)) _ (fun W hW => by obtain ⟨nx, rfl⟩ := hW; exact ra_k_2 nx) Tryd.underlying22 rfl (info_bR (m)) ?_; simp only [Act.put, List.setIfInBounds_toArray, List.set_cons_succ, List.set_cons_zero]) | (refine I.quiet_load rfl 22 _ rfl (w1.heap.size) 36 rfl (bR (a)) _ (fun W hW => by obtain ⟨nx, rfl⟩ := hW; exact ra_k_3 nx) Tryd.underlying22 rfl (info_bR (a)) ?_; simp only [Act.put, List.setIfInBounds_toArray, List.set_cons_succ, List.set_cons_zero]) | go_big_quiet_step (first | (go_at_call 9; exact (CB _).mono fun e w'' ⟨he, hb⟩ => ⟨he, hcl.out _ _ hb⟩) | (go_at_call 8; exact (TM _).mono fun e w'' ⟨he, hb⟩ => ⟨he, hcl.out _ _ hb⟩) | (go_at_call 7; exact (PK _).mono fun e w'' ⟨he, hb⟩ => ⟨he, hcl.out _ _ hb⟩)))
    exact wpQuiet_nil rfl
  simp only [List.drop_succ_cons, List.drop_zero]
  have z3 := b2.out.size
  have s3 : Hid (Kn w3 [(k3, bZ), (w1.heap.size, (prR (x) (m) (a))), (w.heap.size, (bR (n)))]) := s2.out.fresh (vs := bZ) hb3.out hk3 hc3.out
  have g3 : w.heap.size ≤ k3 := Nat.le_trans b2.out.size hk3
  have b3 : Hid (Below w.heap.size w w3) := b2.out.trans (hb3.out.mono b2.out.size)
  clear s2 b2 hb3 hc3 hk3
  have s4x : Hid (Kn w3 [(k3, bZ), (w1.heap.size, (prR (x) (m) (a))), (w.heap.size, (bR (n)))]) := s3.out.front 0 rfl
  have b4x : Hid (Below w.heap.size w w3) := b3.out
  have TT4 : Hid (w3.there k3 0 (bR (a)).length) := Kn.there s4x.out 0 rfl (by rw [(bR_length (a)), bZ_length])
  go_wp2_with (first | refine I.wp_store_eq rfl 22 _ _ rfl k3 0 (bR (a)) rfl rfl TT4.out (info_bR (a)) (bR_one (a)) ?_)
  intro w4 hw4
  try simp only [Act.put, List.setIfInBounds_toArray, List.set_cons_succ, List.set_cons_zero]
  have s4 : Hid (Kn w4 [(k3, (bR (a))), (w1.heap.size, (prR (x) (m) (a))), (w.heap.size, (bR (n)))]) := by rw [hw4.out]; exact Kn.put s4x.out (by rw [(bR_length (a)), bZ_length])
  have b4 : Hid (Below w.heap.size w w4) := by rw [hw4.out]; exact I.below_setCells _ _ _ b4x.out g3
  have z4 := b4.out.size
  clear hw4 s4x b4x TT4 s3 b3
  go_wp2_with fail
  have G : Hid _ := s4
  have KU : Hid (∀ W, Below w4.heap.size w4 W → KTab W) := fun W hW => HK.out.up (b4.out.trans (hW.mono b4.out.size)) HK.out.pos
  have VU : Hid (∀ W, Below w4.heap.size w4 W → By W v p) := fun W hW => HV.out.up (b4.out.trans (hW.mono b4.out.size)) (Nat.le_refl _)
  have UU : Hid (∀ W, Below w4.heap.size w4 W → By W (.slice aq nq cq) q) := fun W hW => HU.out.up (b4.out.trans (hW.mono b4.out.size)) (Nat.le_refl _)
  have gz := z4
  generalize w1.heap.size = kk at *
  refine wp_region_monoGE [MP.eq (.int .i64 0), MP.eq (.bool true), MP.eq (.bool true), MP.eq (bV a), MP.eq (.pointer (some ⟨kk, 36, none⟩)), MP.eq (bV a), MP.eq (.bool true), MP.eq (.bool true), MP.eq (.bool true), MP.eq (.pointer (some ⟨kk, 0, none⟩)), MP.eq (N x), MP.eq (N nO), MP.eq (.bool true), MP.eq (.bool true), MP.eq (.bool true), MP.eq (.pointer (some ⟨kk, 0, none⟩)), MP.eq (N x), MP.eq (N lm), MP.eq (.int .i64 (-1)), MP.eq (.bool true), MP.eq (.bool true), MP.eq (.bool true), MP.eq (.slice aq nq cq), MP.eq (.int .i64 nq), MP.eq (.bool true), MP.eq (.bool true), MP.eq undef, MP.eq undef, MP.eq undef, MP.eq undef, MP.eq undef, MP.eq undef, MP.eq (.bool true), MP.eq (.bool true), MP.eq (.bool true)] (by kernel_rfl) (by kernel_rfl) rfl ?_
  apply Exists.intro
  refine ⟨fun vals => ?_, ?_, fun vals5 w5 hb5 hF => ?_⟩
  · simp only [putsV, dstL, List.length_cons, List.length_nil, Nat.zero_add, Nat.reduceAdd, List.getElem?_cons_zero, List.getElem?_cons_succ, Option.bind_some, Act.put, List.setIfInBounds_toArray, List.set_cons_succ, List.set_cons_zero]
    rfl
  · refine ⟨?_, ?_, ?_, ?_, ?_, ?_, ?_, ?_, ?_, ?_, ?_, ?_, ?_, ?_, ?_, ?_, ?_, ?_, ?_, ?_, ?_, ?_, ?_, ?_, ?_, ?_, ?_, ?_, ?_, ?_, ?_, ?_, ?_, ?_, ?_, trivial⟩
    · intro vals W hW hw hd
      try simp [Region.binds] at hd
      refine .inl ⟨by first | rfl | simp [Region.wanted, yielded, hd], ?_⟩
      exact yields_mv (.tmp 9) rfl rfl
    · intro vals W hW hw hd
      try simp [Region.binds] at hd
      refine .inl ⟨by first | rfl | simp [Region.wanted, yielded, hd], ?_⟩
      exact yields_binI (.tmp 20) (.const (.int .i64 0)) rfl (by first | exact hd | exact hd.1 | exact hd.2 | exact hd.2.1 | exact hd.2.2 | exact hd.2.2.1 | exact hd.2.2.2 | exact hd.2.2.2.1 | exact hd.2.2.2.2) rfl (fun w => by simp [go_sem])
    · intro vals W hW hw hd
      try simp [Region.binds] at hd
      refine .inl ⟨by first | rfl | simp [Region.wanted, yielded, hd], ?_⟩
      exact yields_mv (.tmp 21) rfl (by first | exact hd | exact hd.1 | exact hd.2 | exact hd.2.1 | exact hd.2.2 | exact hd.2.2.1 | exact hd.2.2.2 | exact hd.2.2.2.1 | exact hd.2.2.2.2)
    · intro vals W hW hw hd
      try simp [Region.binds] at hd
      refine .inl ⟨by first | rfl | simp [Region.wanted, yielded, hd], ?_⟩
      exact yields_ldR 22 (.tmp 8) rfl k3 0 rfl (bR a) _ (Kn.rng (G.out.up hW.out) 0 rfl) Tryd.underlying22 rfl (info_bR a)
    · intro vals W hW hw hd
      try simp [Region.binds] at hd
      refine .inl ⟨by first | rfl | simp [Region.wanted, yielded, hd], ?_⟩
      exact yields_pub2 (.tmp 7) rfl kk rfl
    · intro vals W hW hw hd
      try simp [Region.binds] at hd
      refine .inl ⟨by first | rfl | simp [Region.wanted, yielded, hd], ?_⟩
      exact yields_ldR 22 (.tmp 24) rfl kk 36 (by first | exact hd | exact hd.1 | exact hd.2 | exact hd.2.1 | exact hd.2.2 | exact hd.2.2.1 | exact hd.2.2.2 | exact hd.2.2.2.1 | exact hd.2.2.2.2) (bR a) _ (Kn.png2 (G.out.up hW.out) 1 rfl) Tryd.underlying22 rfl (info_bR a)
    · intro vals W hW hw hd
      try simp [Region.binds] at hd
      refine .inl ⟨by first | rfl | simp [Region.wanted, yielded, hd], ?_⟩
      exact yields_binA (.tmp 23) (.tmp 25) rfl (by first | exact hd | exact hd.1 | exact hd.2 | exact hd.2.1 | exact hd.2.2 | exact hd.2.2.1 | exact hd.2.2.2 | exact hd.2.2.2.1 | exact hd.2.2.2.2) (by first | exact hd | exact hd.1 | exact hd.2 | exact hd.2.1 | exact hd.2.2 | exact hd.2.2.1 | exact hd.2.2.2 | exact hd.2.2.2.1 | exact hd.2.2.2.2) guard_b32 eb
    · intro vals W hW hw hd
      try simp [Region.binds] at hd
      refine .inl ⟨by first | rfl | simp [Region.wanted, yielded, hd], ?_⟩
      exact yields_pickT (.tmp 22) (.tmp 26) (.const (.bool false)) rfl (by first | exact hd | exact hd.1 | exact hd.2 | exact hd.2.1 | exact hd.2.2 | exact hd.2.2.1 | exact hd.2.2.2 | exact hd.2.2.2.1 | exact hd.2.2.2.2) (by first | exact hd | exact hd.1 | exact hd.2 | exact hd.2.1 | exact hd.2.2 | exact hd.2.2.1 | exact hd.2.2.2 | exact hd.2.2.2.1 | exact hd.2.2.2.2)
    · intro vals W hW hw hd
      try simp [Region.binds] at hd
      refine .inl ⟨by first | rfl | simp [Region.wanted, yielded, hd], ?_⟩
      exact yields_mv (.tmp 27) rfl (by first | exact hd | exact hd.1 | exact hd.2 | exact hd.2.1 | exact hd.2.2 | exact hd.2.2.1 | exact hd.2.2.2 | exact hd.2.2.2.1 | exact hd.2.2.2.2)
    · intro vals W hW hw hd
      try simp [Region.binds] at hd
      refine .inl ⟨by first | rfl | simp [Region.wanted, yielded, hd], ?_⟩
      exact yields_pub0 (.tmp 7) rfl kk rfl
    · intro vals W hW hw hd
      try simp [Region.binds] at hd
      refine .inl ⟨by first | rfl | simp [Region.wanted, yielded, hd], ?_⟩
      exact yields_ldR 26 (.tmp 29) rfl kk 0 (by first | exact hd | exact hd.1 | exact hd.2 | exact hd.2.1 | exact hd.2.2 | exact hd.2.2.1 | exact hd.2.2.2 | exact hd.2.2.2.1 | exact hd.2.2.2.2) (c4 x) _ (Kn.png0 (G.out.up hW.out) 1 rfl) Tryd.underlying26 rfl (info_c4 x)
    · intro vals W hW hw hd
      try simp [Region.binds] at hd
      refine .inl ⟨by first | rfl | simp [Region.wanted, yielded, hd], ?_⟩
      exact yields_b0 rfl num_zero
    · intro vals W hW hw hd
      try simp [Region.binds] at hd
      refine .inl ⟨by first | rfl | simp [Region.wanted, yielded, hd], ?_⟩
      exact yields_binA (.tmp 30) (.tmp 31) rfl (by first | exact hd | exact hd.1 | exact hd.2 | exact hd.2.1 | exact hd.2.2 | exact hd.2.2.1 | exact hd.2.2.2 | exact hd.2.2.2.1 | exact hd.2.2.2.2) (by first | exact hd | exact hd.1 | exact hd.2 | exact hd.2.1 | exact hd.2.2 | exact hd.2.2.1 | exact hd.2.2.2 | exact hd.2.2.2.1 | exact hd.2.2.2.2) guard_num nx0
    · intro vals W hW hw hd
      try simp [Region.binds] at hd
      refine .inl ⟨by first | rfl | simp [Region.wanted, yielded, hd], ?_⟩
      exact yields_pickT (.tmp 28) (.tmp 32) (.const (.bool false)) rfl (by first | exact hd | exact hd.1 | exact hd.2 | exact hd.2.1 | exact hd.2.2 | exact hd.2.2.1 | exact hd.2.2.2 | exact hd.2.2.2.1 | exact hd.2.2.2.2) (by first | exact hd | exact hd.1 | exact hd.2 | exact hd.2.1 | exact hd.2.2 | exact hd.2.2.1 | exact hd.2.2.2 | exact hd.2.2.2.1 | exact hd.2.2.2.2)
    · intro vals W hW hw hd
      try simp [Region.binds] at hd
      refine .inl ⟨by first | rfl | simp [Region.wanted, yielded, hd], ?_⟩
      exact yields_mv (.tmp 33) rfl (by first | exact hd | exact hd.1 | exact hd.2 | exact hd.2.1 | exact hd.2.2 | exact hd.2.2.1 | exact hd.2.2.2 | exact hd.2.2.2.1 | exact hd.2.2.2.2)
    · intro vals W hW hw hd
      try simp [Region.binds] at hd
      refine .inl ⟨by first | rfl | simp [Region.wanted, yielded, hd], ?_⟩
      exact yields_pub0 (.tmp 7) rfl kk rfl
    · intro vals W hW hw hd
      try simp [Region.binds] at hd
      refine .inl ⟨by first | rfl | simp [Region.wanted, yielded, hd], ?_⟩
      exact yields_ldR 26 (.tmp 35) rfl kk 0 (by first | exact hd | exact hd.1 | exact hd.2 | exact hd.2.1 | exact hd.2.2 | exact hd.2.2.1 | exact hd.2.2.2 | exact hd.2.2.2.1 | exact hd.2.2.2.2) (c4 x) _ (Kn.png0 (G.out.up hW.out) 1 rfl) Tryd.underlying26 rfl (info_c4 x)
    · intro vals W hW hw hd
      try simp [Region.binds] at hd
      refine .inl ⟨by first | rfl | simp [Region.wanted, yielded, hd], ?_⟩
      exact yields_call0 cfSL _ rfl ((SL W).mono fun e w' ⟨he, hb⟩ => ⟨_, he, rfl, hb⟩)
    · intro vals W hW hw hd
      try simp [Region.binds] at hd
      refine .inl ⟨by first | rfl | simp [Region.wanted, yielded, hd], ?_⟩
      exact yields_call2 cfCm (.tmp 36) (.tmp 37) _ rfl (N x) (N lm) (by first | exact hd | exact hd.1 | exact hd.2 | exact hd.2.1 | exact hd.2.2 | exact hd.2.2.1 | exact hd.2.2.2 | exact hd.2.2.2.1 | exact hd.2.2.2.2) (by first | exact hd | exact hd.1 | exact hd.2 | exact hd.2.1 | exact hd.2.2 | exact hd.2.2.1 | exact hd.2.2.2 | exact hd.2.2.2.1 | exact hd.2.2.2.2) ((CM W).mono fun e w' ⟨he, hb⟩ => ⟨_, he, rfl, hb⟩)
    · intro vals W hW hw hd
      try simp [Region.binds] at hd
      refine .inl ⟨by first | rfl | simp [Region.wanted, yielded, hd], ?_⟩
      exact yields_binI (.tmp 38) (.const (.int .i64 0)) rfl (by first | exact hd | exact hd.1 | exact hd.2 | exact hd.2.1 | exact hd.2.2 | exact hd.2.2.1 | exact hd.2.2.2 | exact hd.2.2.2.1 | exact hd.2.2.2.2) rfl (fun w => by simp [go_sem])
    · intro vals W hW hw hd
      try simp [Region.binds] at hd
      refine .inl ⟨by first | rfl | simp [Region.wanted, yielded, hd], ?_⟩
      exact yields_pickT (.tmp 34) (.tmp 39) (.const (.bool false)) rfl (by first | exact hd | exact hd.1 | exact hd.2 | exact hd.2.1 | exact hd.2.2 | exact hd.2.2.1 | exact hd.2.2.2 | exact hd.2.2.2.1 | exact hd.2.2.2.2) (by first | exact hd | exact hd.1 | exact hd.2 | exact hd.2.1 | exact hd.2.2 | exact hd.2.2.1 | exact hd.2.2.2 | exact hd.2.2.2.1 | exact hd.2.2.2.2)
    · intro vals W hW hw hd
      try simp [Region.binds] at hd
      refine .inl ⟨by first | rfl | simp [Region.wanted, yielded, hd], ?_⟩
      exact yields_mv (.tmp 40) rfl (by first | exact hd | exact hd.1 | exact hd.2 | exact hd.2.1 | exact hd.2.2 | exact hd.2.2.1 | exact hd.2.2.2 | exact hd.2.2.2.1 | exact hd.2.2.2.2)
    · intro vals W hW hw hd
      try simp [Region.binds] at hd
      refine .inl ⟨by first | rfl | simp [Region.wanted, yielded, hd], ?_⟩
      exact yields_mv (.tmp 2) rfl rfl
    · intro vals W hW hw hd
      try simp [Region.binds] at hd
      refine .inl ⟨by first | rfl | simp [Region.wanted, yielded, hd], ?_⟩
      exact yields_len (.tmp 42) rfl (by first | exact hd | exact hd.1 | exact hd.2 | exact hd.2.1 | exact hd.2.2 | exact hd.2.2.1 | exact hd.2.2.2 | exact hd.2.2.2.1 | exact hd.2.2.2.2)
    · intro vals W hW hw hd
      try simp [Region.binds] at hd
      refine .inl ⟨by first | rfl | simp [Region.wanted, yielded, hd], ?_⟩
      exact yields_binI (.tmp 43) (.const (.int .i64 64)) rfl (by first | exact hd | exact hd.1 | exact hd.2 | exact hd.2.1 | exact hd.2.2 | exact hd.2.2.1 | exact hd.2.2.2 | exact hd.2.2.2.1 | exact hd.2.2.2.2) rfl (fun w => by simp [go_sem, hn.out])
    · intro vals W hW hw hd
      try simp [Region.binds] at hd
      refine .inl ⟨by first | rfl | simp [Region.wanted, yielded, hd], ?_⟩
      exact yields_mv (.tmp 44) rfl (by first | exact hd | exact hd.1 | exact hd.2 | exact hd.2.1 | exact hd.2.2 | exact hd.2.2.1 | exact hd.2.2.2 | exact hd.2.2.2.1 | exact hd.2.2.2.2)
    · intro vals W hW hw hd
      try simp [Region.binds] at hd
      exact .inr ⟨by simp [Region.wanted, yielded, hd], rfl⟩
    · intro vals W hW hw hd
      try simp [Region.binds] at hd
      exact .inr ⟨by simp [Region.wanted, yielded, hd], rfl⟩
    · intro vals W hW hw hd
      try simp [Region.binds] at hd
      exact .inr ⟨by simp [Region.wanted, yielded, hd], rfl⟩
    · intro vals W hW hw hd
      try simp [Region.binds] at hd
      exact .inr ⟨by simp [Region.wanted, yielded, hd], rfl⟩
    · intro vals W hW hw hd
      try simp [Region.binds] at hd
      exact .inr ⟨by simp [Region.wanted, yielded, hd], rfl⟩
    · intro vals W hW hw hd
      try simp [Region.binds] at hd
      exact .inr ⟨by simp [Region.wanted, yielded, hd], rfl⟩
    · intro vals W hW hw hd
      try simp [Region.binds] at hd
      refine .inl ⟨by first | rfl | simp [Region.wanted, yielded, hd], ?_⟩
      exact yields_pickT (.tmp 45) (.const (.bool true)) (.tmp 51) rfl (by first | exact hd | exact hd.1 | exact hd.2 | exact hd.2.1 | exact hd.2.2 | exact hd.2.2.1 | exact hd.2.2.2 | exact hd.2.2.2.1 | exact hd.2.2.2.2) rfl
    · intro vals W hW hw hd
      try simp [Region.binds] at hd
      refine .inl ⟨by first | rfl | simp [Region.wanted, yielded, hd], ?_⟩
      exact yields_pickT (.tmp 41) (.tmp 52) (.const (.bool false)) rfl (by first | exact hd | exact hd.1 | exact hd.2 | exact hd.2.1 | exact hd.2.2 | exact hd.2.2.1 | exact hd.2.2.2 | exact hd.2.2.2.1 | exact hd.2.2.2.2) (by first | exact hd | exact hd.1 | exact hd.2 | exact hd.2.1 | exact hd.2.2 | exact hd.2.2.1 | exact hd.2.2.2 | exact hd.2.2.2.1 | exact hd.2.2.2.2)
    · intro vals W hW hw hd
      try simp [Region.binds] at hd
      refine .inl ⟨by first | rfl | simp [Region.wanted, yielded, hd], ?_⟩
      exact yields_as (.tmp 53) rfl (by first | exact hd | exact hd.1 | exact hd.2 | exact hd.2.1 | exact hd.2.2 | exact hd.2.2.1 | exact hd.2.2.2 | exact hd.2.2.2.1 | exact hd.2.2.2.2)
  obtain ⟨f0, f1, f2, f3, f4, f5, f6, f7, f8, f9, f10, f11, f12, f13, f14, f15, f16, f17, f18, f19, f20, f21, f22, f23, f24, f25, f26, f27, f28, f29, f30, f31, f32, f33, f34, _⟩ := hF
  simp only [MP.eq_p] at f0 f1 f2 f3 f4 f5 f6 f7 f8 f9 f10 f11 f12 f13 f14 f15 f16 f17 f18 f19 f20 f21 f22 f23 f24 f25 f26 f27 f28 f29 f30 f31 f32 f33 f34
  rw [f34]
  have b5 : Hid (Below w.heap.size w w5) := b4.out.trans (hb5.out.mono b4.out.size)
  clear f0 f1 f2 f3 f4 f5 f6 f7 f8 f9 f10 f11 f12 f13 f14 f15 f16 f17 f18 f19 f20 f21 f22 f23 f24 f25 f26 f27 f28 f29 f30 f31 f32 f33 f34 hb5 s4 b4 G KU VU UU
  go_wp2_with fail
  go_ret
  exact ⟨rfl, b5.out⟩
set_option maxRecDepth 20000 in
set_option maxHeartbeats 2000000 in
theorem signPairs_no (n m a nq : Nat) (x lm bx by_ tx ty : Nm) (v : Value) (aq : Option Addr) (cq : Nat) (p q : List Nat) (eb : ∀ w, (binOp .eql 22 (bV a) (bV a)).run Tryd.prog w = .ok (.bool true) w) (nx0 : ∀ w, (binOp .neq 26 (N x) (N nO)).run Tryd.prog w = .ok (.bool true) w) (hn : Hid (((nq : Int) == 64) = false))
    (NW : ∀ w, KTab w → Calls Tryd.prog 6 #[bV n] w fun e w' => e = .returned (prV x m a) ∧ Below w.heap.size w w')
    (CB : ∀ w, Calls Tryd.prog 9 #[] w fun e w' => e = .returned (Wv bx by_) ∧ Below w.heap.size w w')
    (TM : ∀ w, Calls Tryd.prog 8 #[N x, Wv bx by_] w fun e w' => e = .returned (Wv tx ty) ∧ Below w.heap.size w w')
    (PK : ∀ w, Calls Tryd.prog 7 #[Wv tx ty] w fun e w' => e = .returned (.tuple #[.agg (bR (a)).toArray, .int .i64 0]) ∧ Below w.heap.size w w')
    (SL : ∀ w, Calls Tryd.prog 11 #[] w fun e w' => e = .returned (N lm) ∧ Below w.heap.size w w')
    (CM : ∀ w, Calls Tryd.prog 10 #[N x, N lm] w fun e w' => e = .returned (.int .i64 (-1)) ∧ Below w.heap.size w w')
    (VR : ∀ w, By w v p → By w (.slice aq nq cq) q → KTab w → Calls Tryd.prog 12 #[bV a, v, .slice aq nq cq] w fun e w' => e = .returned (.int .i64 1) ∧ Below w.heap.size w w')
    (w : World) (hv : By w v p) (hu : By w (.slice aq nq cq) q) (hK : KTab w) :
    Calls Tryd.prog 3 #[bV n, v, .slice aq nq cq] w fun e w' => e = .returned (.bool true) ∧ Below w.heap.size w w' := by
  have HV : Hid (By w v p) := hv
  have HU : Hid (By w (.slice aq nq cq) q) := hu
  have HK : Hid (KTab w) := hK
  clear hv hu hK
  go_enter Tryd.func3, Tryd.ntmps3
  have s0 : Hid (Kn (w.alloc (.cells (bR (n)).toArray 22)) [(w.heap.size, (bR (n)))]) := ((Kn.nil w).al (bR (n)) 22 rfl)
  have b0 : Hid (Below w.heap.size w (w.alloc (.cells (bR (n)).toArray 22))) := ((Below.refl _ _).alloc (Nat.le_refl _) _)
  go_wp2_with (first | refine wp_ldW rfl 22 _ rfl (w.heap.size) 0 rfl (bR (n)) _ (Kn.rng s0.out 0 rfl) Tryd.underlying22 rfl (info_bR (n)) ?_)
  refine (NW _ (HK.out.up b0.out HK.out.pos)).mono ?_
  rintro e w1 ⟨rfl, hb1⟩
  have s1 : Hid (Kn w1 [(w.heap.size, (bR (n)))]) := s0.out.up hb1
  have b1 : Hid (Below w.heap.size w w1) := b0.out.trans (hb1.mono b0.out.size)
  have z1 := b1.out.size
  clear hb1 s0 b0
  have s2x : Hid (Kn (w1.alloc (.cells #[Value.int IntKind.u64 0, Value.int IntKind.u64 0, Value.int IntKind.u64 0, Value.int IntKind.u64 0, Value.int IntKind.u8 0, Value.int IntKind.u8 0, Value.int IntKind.u8 0, Value.int IntKind.u8 0, Value.int IntKind.u8 0, Value.int IntKind.u8 0, Value.int IntKind.u8 0, Value.int IntKind.u8 0, Value.int IntKind.u8 0, Value.int IntKind.u8 0, Value.int IntKind.u8 0, Value.int IntKind.u8 0, Value.int IntKind.u8 0, Value.int IntKind.u8 0, Value.int IntKind.u8 0, Value.int IntKind.u8 0, Value.int IntKind.u8 0, Value.int IntKind.u8 0, Value.int IntKind.u8 0, Value.int IntKind.u8 0, Value.int IntKind.u8 0, Value.int IntKind.u8 0, Value.int IntKind.u8 0, Value.int IntKind.u8 0, Value.int IntKind.u8 0, Value.int IntKind.u8 0, Value.int IntKind.u8 0, Value.int IntKind.u8 0, Value.int IntKind.u8 0, Value.int IntKind.u8 0, Value.int IntKind.u8 0, Value.int IntKind.u8 0, Value.int IntKind.u8 0, Value.int IntKind.u8 0, Value.int IntKind.u8 0, Value.int IntKind.u8 0, Value.int IntKind.u8 0, Value.int IntKind.u8 0, Value.int IntKind.u8 0, Value.int IntKind.u8 0, Value.int IntKind.u8 0, Value.int IntKind.u8 0, Value.int IntKind.u8 0, Value.int IntKind.u8 0, Value.int IntKind.u8 0, Value.int IntKind.u8 0, Value.int IntKind.u8 0, Value.int IntKind.u8 0, Value.int IntKind.u8 0, Value.int IntKind.u8 0, Value.int IntKind.u8 0, Value.int IntKind.u8 0, Value.int IntKind.u8 0, Value.int IntKind.u8 0, Value.int IntKind.u8 0, Value.int IntKind.u8 0, Value.int IntKind.u8 0, Value.int IntKind.u8 0, Value.int IntKind.u8 0, Value.int IntKind.u8 0, Value.int IntKind.u8 0, Value.int IntKind.u8 0, Value.int IntKind.u8 0, Value.int IntKind.u8 0] 28)) [(w1.heap.size, pairZ), (w.heap.size, (bR (n)))]) := s1.out.al pairZ 28 rfl
  have b2x : Hid (Below w.heap.size w (w1.alloc (.cells #[Value.int IntKind.u64 0, Value.int IntKind.u64 0, Value.int IntKind.u64 0, Value.int IntKind.u64 0, Value.int IntKind.u8 0, Value.int IntKind.u8 0, Value.int IntKind.u8 0, Value.int IntKind.u8 0, Value.int IntKind.u8 0, Value.int IntKind.u8 0, Value.int IntKind.u8 0, Value.int IntKind.u8 0, Value.int IntKind.u8 0, Value.int IntKind.u8 0, Value.int IntKind.u8 0, Value.int IntKind.u8 0, Value.int IntKind.u8 0, Value.int IntKind.u8 0, Value.int IntKind.u8 0, Value.int IntKind.u8 0, Value.int IntKind.u8 0, Value.int IntKind.u8 0, Value.int IntKind.u8 0, Value.int IntKind.u8 0, Value.int IntKind.u8 0, Value.int IntKind.u8 0, Value.int IntKind.u8 0, Value.int IntKind.u8 0, Value.int IntKind.u8 0, Value.int IntKind.u8 0, Value.int IntKind.u8 0, Value.int IntKind.u8 0, Value.int IntKind.u8 0, Value.int IntKind.u8 0, Value.int IntKind.u8 0, Value.int IntKind.u8 0, Value.int IntKind.u8 0, Value.int IntKind.u8 0, Value.int IntKind.u8 0, Value.int IntKind.u8 0, Value.int IntKind.u8 0, Value.int IntKind.u8 0, Value.int IntKind.u8 0, Value.int IntKind.u8 0, Value.int IntKind.u8 0, Value.int IntKind.u8 0, Value.int IntKind.u8 0, Value.int IntKind.u8 0, Value.int IntKind.u8 0, Value.int IntKind.u8 0, Value.int IntKind.u8 0, Value.int IntKind.u8 0, Value.int IntKind.u8 0, Value.int IntKind.u8 0, Value.int IntKind.u8 0, Value.int IntKind.u8 0, Value.int IntKind.u8 0, Value.int IntKind.u8 0, Value.int IntKind.u8 0, Value.int IntKind.u8 0, Value.int IntKind.u8 0, Value.int IntKind.u8 0, Value.int IntKind.u8 0, Value.int IntKind.u8 0, Value.int IntKind.u8 0, Value.int IntKind.u8 0, Value.int IntKind.u8 0, Value.int IntKind.u8 0] 28))) := b1.out.alloc b1.out.size _
  have g2 : w.heap.size ≤ w1.heap.size := b1.out.size
  have TT2 : Hid ((w1.alloc (.cells #[Value.int IntKind.u64 0, Value.int IntKind.u64 0, Value.int IntKind.u64 0, Value.int IntKind.u64 0, Value.int IntKind.u8 0, Value.int IntKind.u8 0, Value.int IntKind.u8 0, Value.int IntKind.u8 0, Value.int IntKind.u8 0, Value.int IntKind.u8 0, Value.int IntKind.u8 0, Value.int IntKind.u8 0, Value.int IntKind.u8 0, Value.int IntKind.u8 0, Value.int IntKind.u8 0, Value.int IntKind.u8 0, Value.int IntKind.u8 0, Value.int IntKind.u8 0, Value.int IntKind.u8 0, Value.int IntKind.u8 0, Value.int IntKind.u8 0, Value.int IntKind.u8 0, Value.int IntKind.u8 0, Value.int IntKind.u8 0, Value.int IntKind.u8 0, Value.int IntKind.u8 0, Value.int IntKind.u8 0, Value.int IntKind.u8 0, Value.int IntKind.u8 0, Value.int IntKind.u8 0, Value.int IntKind.u8 0, Value.int IntKind.u8 0, Value.int IntKind.u8 0, Value.int IntKind.u8 0, Value.int IntKind.u8 0, Value.int IntKind.u8 0, Value.int IntKind.u8 0, Value.int IntKind.u8 0, Value.int IntKind.u8 0, Value.int IntKind.u8 0, Value.int IntKind.u8 0, Value.int IntKind.u8 0, Value.int IntKind.u8 0, Value.int IntKind.u8 0, Value.int IntKind.u8 0, Value.int IntKind.u8 0, Value.int IntKind.u8 0, Value.int IntKind.u8 0, Value.int IntKind.u8 0, Value.int IntKind.u8 0, Value.int IntKind.u8 0, Value.int IntKind.u8 0, Value.int IntKind.u8 0, Value.int IntKind.u8 0, Value.int IntKind.u8 0, Value.int IntKind.u8 0, Value.int IntKind.u8 0, Value.int IntKind.u8 0, Value.int IntKind.u8 0, Value.int IntKind.u8 0, Value.int IntKind.u8 0, Value.int IntKind.u8 0, Value.int IntKind.u8 0, Value.int IntKind.u8 0, Value.int IntKind.u8 0, Value.int IntKind.u8 0, Value.int IntKind.u8 0, Value.int IntKind.u8 0] 28)).there (w1.heap.size) 0 (prR (x) (m) (a)).length) := Kn.there s2x.out 0 rfl (by rw [(prR_length (x) (m) (a)), pairZ_length])
  go_wp2_with (first | simp only [zero_pair] | refine I.wp_store_eq rfl 28 _ _ rfl (w1.heap.size) 0 (prR (x) (m) (a)) rfl rfl TT2.out (info_prR (x) (m) (a)) (prR_one (x) (m) (a)) ?_)
  intro w2 hw2
  try simp only [Act.put, List.setIfInBounds_toArray, List.set_cons_succ, List.set_cons_zero]
  have s2 : Hid (Kn w2 [(w1.heap.size, (prR (x) (m) (a))), (w.heap.size, (bR (n)))]) := by rw [hw2.out]; exact Kn.put s2x.out (by rw [(prR_length (x) (m) (a)), pairZ_length])
  have b2 : Hid (Below w.heap.size w w2) := by rw [hw2.out]; exact I.below_setCells _ _ _ b2x.out g2
  have z2 := b2.out.size
  clear hw2 s2x b2x TT2 s1 b1
  go_wp2_with fail
  refine wp_region_alloc1 8 (.cells #[Value.int IntKind.u8 0, Value.int IntKind.u8 0, Value.int IntKind.u8 0, Value.int IntKind.u8 0, Value.int IntKind.u8 0, Value.int IntKind.u8 0, Value.int IntKind.u8 0, Value.int IntKind.u8 0, Value.int IntKind.u8 0, Value.int IntKind.u8 0, Value.int IntKind.u8 0, Value.int IntKind.u8 0, Value.int IntKind.u8 0, Value.int IntKind.u8 0, Value.int IntKind.u8 0, Value.int IntKind.u8 0, Value.int IntKind.u8 0, Value.int IntKind.u8 0, Value.int IntKind.u8 0, Value.int IntKind.u8 0, Value.int IntKind.u8 0, Value.int IntKind.u8 0, Value.int IntKind.u8 0, Value.int IntKind.u8 0, Value.int IntKind.u8 0, Value.int IntKind.u8 0, Value.int IntKind.u8 0, Value.int IntKind.u8 0, Value.int IntKind.u8 0, Value.int IntKind.u8 0, Value.int IntKind.u8 0, Value.int IntKind.u8 0] 22) (by kernel_rfl) (by kernel_rfl) (by kernel_rfl) (by kernel_rfl) (by decide) (fun _ _ d _ _ h => by cases d <;> exact h) rfl rfl (fun _ _ => by kernel_rfl) ?_
  apply Exists.intro
  refine ⟨fun U hU f hf hcl => ?_, fun k3 w3 hb3 hk3 hc3 => ?_⟩
  · skip
    have ra_k_0 := fun nx => (Kn.rng (s2.out.up (hf nx).out) 0 rfl : (f nx).rangeAt (w1.heap.size) 0 (prR (x) (m) (a)))
    have ra_k_1 := fun nx => (Kn.png0 (s2.out.up (hf nx).out) 0 rfl : (f nx).rangeAt (w1.heap.size) 0 [Value.int IntKind.u64 x.a, Value.int IntKind.u64 x.b, Value.int IntKind.u64 x.c, Value.int IntKind.u64 x.d])
    have ra_k_2 := fun nx => (Kn.png1 (s2.out.up (hf nx).out) 0 rfl : (f nx).rangeAt (w1.heap.size) 4 (bR (m)))
    have ra_k_3 := fun nx => (Kn.png2 (s2.out.up (hf nx).out) 0 rfl : (f nx).rangeAt (w1.heap.size) 36 (bR (a)))
    clear hf
    simp only [List.take_succ_cons, List.take_zero]
    repeat (first | (refine I.quiet_load rfl 28 _ rfl (w1.heap.size) 0 rfl (prR (x) (m) (a)) _ (fun W hW => by obtain ⟨nx, rfl⟩ := hW; exact ra_k_0 nx) Tryd.underlying28 rfl (info_prR (x) (m) (a)) ?_; simp only [Act.put, List.setIfInBounds_toArray, List.set_cons_succ, List.set_cons_zero]) | (refine I.quiet_load rfl 26 _ rfl (w1.heap.size) 0 rfl [Value.int IntKind.u64 x.a, Value.int IntKind.u64 x.b, Value.int IntKind.u64 x.c, Value.int IntKind.u64 x.d] _ (fun W hW => by obtain ⟨nx, rfl⟩ := hW; exact ra_k_1 nx) Tryd.underlying26 rfl (info_c4 (x)) ?_; simp only [Act.put, List.setIfInBounds_toArray, List.set_cons_succ, List.set_cons_zero]) | (refine I.quiet_load rfl 22 _ rfl (w1.heap.size) 4 rfl (bR (m)) _ (fun W hW => by obtain ⟨nx, rfl⟩ := hW; exact ra_k_2 nx) Tryd.underlying22 rfl (info_bR (m)) ?_; simp only [Act.put, List.setIfInBounds_toArray, List.set_cons_succ, List.set_cons_zero]) | (refine I.quiet_load rfl 22 _ rfl (w1.heap.size) 36 rfl (bR (a)) _ (fun W hW => by obtain ⟨nx, rfl⟩ := hW; exact ra_k_3 nx) Tryd.underlying22 rfl (info_bR (a)) ?_; simp only [Act.put, List.setIfInBounds_toArray, List.set_cons_succ, List.set_cons_zero]) | go_big_quiet_step (first | (go_at_call 9; exact (CB _).mono fun e w'' ⟨he, hb⟩ => ⟨he, hcl.out _ _ hb⟩) | (go_at_call 8; exact (TM _).mono fun e w'' ⟨he, hb⟩ => ⟨he, hcl.out _ _ hb⟩) | (go_at_call 7; exact (PK _).mono fun e w'' ⟨he, hb⟩ => ⟨he, hcl.out _ _ hb⟩)))
    exact wpQuiet_nil rfl
  simp only [List.drop_succ_cons, List.drop_zero]
  have z3 := b2.out.size
  have s3 : Hid (Kn w3 [(k3, bZ), (w1.heap.size, (prR (x) (m) (a))), (w.heap.size, (bR (n)))]) := s2.out.fresh (vs := bZ) hb3.out hk3 hc3.out
  have g3 : w.heap.size ≤ k3 := Nat.le_trans b2.out.size hk3
  have b3 : Hid (Below w.heap.size w w3) := b2.out.trans (hb3.out.mono b2.out.size)
  clear s2 b2 hb3 hc3 hk3
  have s4x : Hid (Kn w3 [(k3, bZ), (w1.heap.size, (prR (x) (m) (a))), (w.heap.size, (bR (n)))]) := s3.out.front 0 rfl
  have b4x : Hid (Below w.heap.size w w3) := b3.out
  have TT4 : Hid (w3.there k3 0 (bR (a)).length) := Kn.there s4x.out 0 rfl (by rw [(bR_length (a)), bZ_length])
  go_wp2_with (first | refine I.wp_store_eq rfl 22 _ _ rfl k3 0 (bR (a)) rfl rfl TT4.out (info_bR (a)) (bR_one (a)) ?_)
  intro w4 hw4
  try simp only [Act.put, List.setIfInBounds_toArray, List.set_cons_succ, List.set_cons_zero]
  have s4 : Hid (Kn w4 [(k3, (bR (a))), (w1.heap.size, (prR (x) (m) (a))), (w.heap.size, (bR (n)))]) := by rw [hw4.out]; exact Kn.put s4x.out (by rw [(bR_length (a)), bZ_length])
  have b4 : Hid (Below w.heap.size w w4) := by rw [hw4.out]; exact I.below_setCells _ _ _ b4x.out g3
  have z4 := b4.out.size
  clear hw4 s4x b4x TT4 s3 b3
  go_wp2_with fail
  have G : Hid _ := s4
  have KU : Hid (∀ W, Below w4.heap.size w4 W → KTab W) := fun W hW => HK.out.up (b4.out.trans (hW.mono b4.out.size)) HK.out.pos
  have VU : Hid (∀ W, Below w4.heap.size w4 W → By W v p) := fun W hW => HV.out.up (b4.out.trans (hW.mono b4.out.size)) (Nat.le_refl _)
  have UU : Hid (∀ W, Below w4.heap.size w4 W → By W (.slice aq nq cq) q) := fun W hW => HU.out.up (b4.out.trans (hW.mono b4.out.size)) (Nat.le_refl _)
  have gz := z4
  generalize w1.heap.size = kk at *
  refine wp_region_monoGE [MP.eq (.int .i64 0), MP.eq (.bool true), MP.eq (.bool true), MP.eq (bV a), MP.eq (.pointer (some ⟨kk, 36, none⟩)), MP.eq (bV a), MP.eq (.bool true), MP.eq (.bool true), MP.eq (.bool true), MP.eq (.pointer (some ⟨kk, 0, none⟩)), MP.eq (N x), MP.eq (N nO), MP.eq (.bool true), MP.eq (.bool true), MP.eq (.bool true), MP.eq (.pointer (some ⟨kk, 0, none⟩)), MP.eq (N x), MP.eq (N lm), MP.eq (.int .i64 (-1)), MP.eq (.bool true), MP.eq (.bool true), MP.eq (.bool true), MP.eq (.slice aq nq cq), MP.eq (.int .i64 nq), MP.eq (.bool false), MP.eq (.bool false), MP.eq (.pointer (some ⟨kk, 36, none⟩)), MP.eq (bV a), MP.eq v, MP.eq (.slice aq nq cq), MP.eq (.int .i64 1), MP.eq (.bool true), MP.eq (.bool true), MP.eq (.bool true), MP.eq (.bool true)] (by kernel_rfl) (by kernel_rfl) rfl ?_
  apply Exists.intro
  refine ⟨fun vals => ?_, ?_, fun vals5 w5 hb5 hF => ?_⟩
  · simp only [putsV, dstL, List.length_cons, List.length_nil, Nat.zero_add, Nat.reduceAdd, List.getElem?_cons_zero, List.getElem?_cons_succ, Option.bind_some, Act.put, List.setIfInBounds_toArray, List.set_cons_succ, List.set_cons_zero]
    rfl
  · refine ⟨?_, ?_, ?_, ?_, ?_, ?_, ?_, ?_, ?_, ?_, ?_, ?_, ?_, ?_, ?_, ?_, ?_, ?_, ?_, ?_, ?_, ?_, ?_, ?_, ?_, ?_, ?_, ?_, ?_, ?_, ?_, ?_, ?_, ?_, ?_, trivial⟩
    · intro vals W hW hw hd
      try simp [Region.binds] at hd
      refine .inl ⟨by first | rfl | simp [Region.wanted, yielded, hd], ?_⟩
      exact yields_mv (.tmp 9) rfl rfl
    · intro vals W hW hw hd
      try simp [Region.binds] at hd
      refine .inl ⟨by first | rfl | simp [Region.wanted, yielded, hd], ?_⟩
      exact yields_binI (.tmp 20) (.const (.int .i64 0)) rfl (by first | exact hd | exact hd.1 | exact hd.2 | exact hd.2.1 | exact hd.2.2 | exact hd.2.2.1 | exact hd.2.2.2 | exact hd.2.2.2.1 | exact hd.2.2.2.2) rfl (fun w => by simp [go_sem])
    · intro vals W hW hw hd
      try simp [Region.binds] at hd
      refine .inl ⟨by first | rfl | simp [Region.wanted, yielded, hd], ?_⟩
      exact yields_mv (.tmp 21) rfl (by first | exact hd | exact hd.1 | exact hd.2 | exact hd.2.1 | exact hd.2.2 | exact hd.2.2.1 | exact hd.2.2.2 | exact hd.2.2.2.1 | exact hd.2.2.2.2)
    · intro vals W hW hw hd
      try simp [Region.binds] at hd
      refine .inl ⟨by first | rfl | simp [Region.wanted, yielded, hd], ?_⟩
      exact yields_ldR 22 (.tmp 8) rfl k3 0 rfl (bR a) _ (Kn.rng (G.out.up hW.out) 0 rfl) Tryd.underlying22 rfl (info_bR a)
    · intro vals W hW hw hd
      try simp [Region.binds] at hd
      refine .inl ⟨by first | rfl | simp [Region.wanted, yielded, hd], ?_⟩
      exact yields_pub2 (.tmp 7) rfl kk rfl
    · intro vals W hW hw hd
      try simp [Region.binds] at hd
      refine .inl ⟨by first | rfl | simp [Region.wanted, yielded, hd], ?_⟩
      exact yields_ldR 22 (.tmp 24) rfl kk 36 (by first | exact hd | exact hd.1 | exact hd.2 | exact hd.2.1 | exact hd.2.2 | exact hd.2.2.1 | exact hd.2.2.2 | exact hd.2.2.2.1 | exact hd.2.2.2.2) (bR a) _ (Kn.png2 (G.out.up hW.out) 1 rfl) Tryd.underlying22 rfl (info_bR a)
    · intro vals W hW hw hd
      try simp [Region.binds] at hd
      refine .inl ⟨by first | rfl | simp [Region.wanted, yielded, hd], ?_⟩
      exact yields_binA (.tmp 23) (.tmp 25) rfl (by first | exact hd | exact hd.1 | exact hd.2 | exact hd.2.1 | exact hd.2.2 | exact hd.2.2.1 | exact hd.2.2.2 | exact hd.2.2.2.1 | exact hd.2.2.2.2) (by first | exact hd | exact hd.1 | exact hd.2 | exact hd.2.1 | exact hd.2.2 | exact hd.2.2.1 | exact hd.2.2.2 | exact hd.2.2.2.1 | exact hd.2.2.2.2) guard_b32 eb
    · intro vals W hW hw hd
      try simp [Region.binds] at hd
      refine .inl ⟨by first | rfl | simp [Region.wanted, yielded, hd], ?_⟩
      exact yields_pickT (.tmp 22) (.tmp 26) (.const (.bool false)) rfl (by first | exact hd | exact hd.1 | exact hd.2 | exact hd.2.1 | exact hd.2.2 | exact hd.2.2.1 | exact hd.2.2.2 | exact hd.2.2.2.1 | exact hd.2.2.2.2) (by first | exact hd | exact hd.1 | exact hd.2 | exact hd.2.1 | exact hd.2.2 | exact hd.2.2.1 | exact hd.2.2.2 | exact hd.2.2.2.1 | exact hd.2.2.2.2)
    · intro vals W hW hw hd
      try simp [Region.binds] at hd
      refine .inl ⟨by first | rfl | simp [Region.wanted, yielded, hd], ?_⟩
      exact yields_mv (.tmp 27) rfl (by first | exact hd | exact hd.1 | exact hd.2 | exact hd.2.1 | exact hd.2.2 | exact hd.2.2.1 | exact hd.2.2.2 | exact hd.2.2.2.1 | exact hd.2.2.2.2)
    · intro vals W hW hw hd
      try simp [Region.binds] at hd
      refine .inl ⟨by first | rfl | simp [Region.wanted, yielded, hd], ?_⟩
      exact yields_pub0 (.tmp 7) rfl kk rfl
    · intro vals W hW hw hd
      try simp [Region.binds] at hd
      refine .inl ⟨by first | rfl | simp [Region.wanted, yielded, hd], ?_⟩
      exact yields_ldR 26 (.tmp 29) rfl kk 0 (by first | exact hd | exact hd.1 | exact hd.2 | exact hd.2.1 | exact hd.2.2 | exact hd.2.2.1 | exact hd.2.2.2 | exact hd.2.2.2.1 | exact hd.2.2.2.2) (c4 x) _ (Kn.png0 (G.out.up hW.out) 1 rfl) Tryd.underlying26 rfl (info_c4 x)
    · intro vals W hW hw hd
      try simp [Region.binds] at hd
      refine .inl ⟨by first | rfl | simp [Region.wanted, yielded, hd], ?_⟩
      exact yields_b0 rfl num_zero
    · intro vals W hW hw hd
      try simp [Region.binds] at hd
      refine .inl ⟨by first | rfl | simp [Region.wanted, yielded, hd], ?_⟩
      exact yields_binA (.tmp 30) (.tmp 31) rfl (by first | exact hd | exact hd.1 | exact hd.2 | exact hd.2.1 | exact hd.2.2 | exact hd.2.2.1 | exact hd.2.2.2 | exact hd.2.2.2.1 | exact hd.2.2.2.2) (by first | exact hd | exact hd.1 | exact hd.2 | exact hd.2.1 | exact hd.2.2 | exact hd.2.2.1 | exact hd.2.2.2 | exact hd.2.2.2.1 | exact hd.2.2.2.2) guard_num nx0
    · intro vals W hW hw hd
      try simp [Region.binds] at hd
      refine .inl ⟨by first | rfl | simp [Region.wanted, yielded, hd], ?_⟩
      exact yields_pickT (.tmp 28) (.tmp 32) (.const (.bool false)) rfl (by first | exact hd | exact hd.1 | exact hd.2 | exact hd.2.1 | exact hd.2.2 | exact hd.2.2.1 | exact hd.2.2.2 | exact hd.2.2.2.1 | exact hd.2.2.2.2) (by first | exact hd | exact hd.1 | exact hd.2 | exact hd.2.1 | exact hd.2.2 | exact hd.2.2.1 | exact hd.2.2.2 | exact hd.2.2.2.1 | exact hd.2.2.2.2)
    · intro vals W hW hw hd
      try simp [Region.binds] at hd
      refine .inl ⟨by first | rfl | simp [Region.wanted, yielded, hd], ?_⟩
      exact yields_mv (.tmp 33) rfl (by first | exact hd | exact hd.1 | exact hd.2 | exact hd.2.1 | exact hd.2.2 | exact hd.2.2.1 | exact hd.2.2.2 | exact hd.2.2.2.1 | exact hd.2.2.2.2)
    · intro vals W hW hw hd
      try simp [Region.binds] at hd
      refine .inl ⟨by first | rfl | simp [Region.wanted, yielded, hd], ?_⟩
      exact yields_pub0 (.tmp 7) rfl kk rfl
    · intro vals W hW hw hd
      try simp [Region.binds] at hd
      refine .inl ⟨by first | rfl | simp [Region.wanted, yielded, hd], ?_⟩
      exact yields_ldR 26 (.tmp 35) rfl kk 0 (by first | exact hd | exact hd.1 | exact hd.2 | exact hd.2.1 | exact hd.2.2 | exact hd.2.2.1 | exact hd.2.2.2 | exact hd.2.2.2.1 | exact hd.2.2.2.2) (c4 x) _ (Kn.png0 (G.out.up hW.out) 1 rfl) Tryd.underlying26 rfl (info_c4 x)
    · intro vals W hW hw hd
      try simp [Region.binds] at hd
      refine .inl ⟨by first | rfl | simp [Region.wanted, yielded, hd], ?_⟩
      exact yields_call0 cfSL _ rfl ((SL W).mono fun e w' ⟨he, hb⟩ => ⟨_, he, rfl, hb⟩)
    · intro vals W hW hw hd
      try simp [Region.binds] at hd
      refine .inl ⟨by first | rfl | simp [Region.wanted, yielded, hd], ?_⟩
      exact yields_call2 cfCm (.tmp 36) (.tmp 37) _ rfl (N x) (N lm) (by first | exact hd | exact hd.1 | exact hd.2 | exact hd.2.1 | exact hd.2.2 | exact hd.2.2.1 | exact hd.2.2.2 | exact hd.2.2.2.1 | exact hd.2.2.2.2) (by first | exact hd | exact hd.1 | exact hd.2 | exact hd.2.1 | exact hd.2.2 | exact hd.2.2.1 | exact hd.2.2.2 | exact hd.2.2.2.1 | exact hd.2.2.2.2) ((CM W).mono fun e w' ⟨he, hb⟩ => ⟨_, he, rfl, hb⟩)
    · intro vals W hW hw hd
      try simp [Region.binds] at hd
      refine .inl ⟨by first | rfl | simp [Region.wanted, yielded, hd], ?_⟩
      exact yields_binI (.tmp 38) (.const (.int .i64 0)) rfl (by first | exact hd | exact hd.1 | exact hd.2 | exact hd.2.1 | exact hd.2.2 | exact hd.2.2.1 | exact hd.2.2.2 | exact hd.2.2.2.1 | exact hd.2.2.2.2) rfl (fun w => by simp [go_sem])
    · intro vals W hW hw hd
      try simp [Region.binds] at hd
      refine .inl ⟨by first | rfl | simp [Region.wanted, yielded, hd], ?_⟩
      exact yields_pickT (.tmp 34) (.tmp 39) (.const (.bool false)) rfl (by first | exact hd | exact hd.1 | exact hd.2 | exact hd.2.1 | exact hd.2.2 | exact hd.2.2.1 | exact hd.2.2.2 | exact hd.2.2.2.1 | exact hd.2.2.2.2) (by first | exact hd | exact hd.1 | exact hd.2 | exact hd.2.1 | exact hd.2.2 | exact hd.2.2.1 | exact hd.2.2.2 | exact hd.2.2.2.1 | exact hd.2.2.2.2)
    · intro vals W hW hw hd
      try simp [Region.binds] at hd
      refine .inl ⟨by first | rfl | simp [Region.wanted, yielded, hd], ?_⟩
      exact yields_mv (.tmp 40) rfl (by first | exact hd | exact hd.1 | exact hd.2 | exact hd.2.1 | exact hd.2.2 | exact hd.2.2.1 | exact hd.2.2.2 | exact hd.2.2.2.1 | exact hd.2.2.2.2)
    · intro vals W hW hw hd
      try simp [Region.binds] at hd
      refine .inl ⟨by first | rfl | simp [Region.wanted, yielded, hd], ?_⟩
      exact yields_mv (.tmp 2) rfl rfl
    · intro vals W hW hw hd
      try simp [Region.binds] at hd
      refine .inl ⟨by first | rfl | simp [Region.wanted, yielded, hd], ?_⟩
      exact yields_len (.tmp 42) rfl (by first | exact hd | exact hd.1 | exact hd.2 | exact hd.2.1 | exact hd.2.2 | exact hd.2.2.1 | exact hd.2.2.2 | exact hd.2.2.2.1 | exact hd.2.2.2.2)
    · intro vals W hW hw hd
      try simp [Region.binds] at hd
      refine .inl ⟨by first | rfl | simp [Region.wanted, yielded, hd], ?_⟩
      exact yields_binI (.tmp 43) (.const (.int .i64 64)) rfl (by first | exact hd | exact hd.1 | exact hd.2 | exact hd.2.1 | exact hd.2.2 | exact hd.2.2.1 | exact hd.2.2.2 | exact hd.2.2.2.1 | exact hd.2.2.2.2) rfl (fun w => by simp [go_sem, hn.out])
    · intro vals W hW hw hd
      try simp [Region.binds] at hd
      refine .inl ⟨by first | rfl | simp [Region.wanted, yielded, hd], ?_⟩
      exact yields_mv (.tmp 44) rfl (by first | exact hd | exact hd.1 | exact hd.2 | exact hd.2.1 | exact hd.2.2 | exact hd.2.2.1 | exact hd.2.2.2 | exact hd.2.2.2.1 | exact hd.2.2.2.2)
    · intro vals W hW hw hd
      try simp [Region.binds] at hd
      refine .inl ⟨by first | rfl | simp [Region.wanted, yielded, hd], ?_⟩
      exact yields_pub2 (.tmp 7) rfl kk rfl
    · intro vals W hW hw hd
      try simp [Region.binds] at hd
      refine .inl ⟨by first | rfl | simp [Region.wanted, yielded, hd], ?_⟩
      exact yields_ldR 22 (.tmp 46) rfl kk 36 (by first | exact hd | exact hd.1 | exact hd.2 | exact hd.2.1 | exact hd.2.2 | exact hd.2.2.1 | exact hd.2.2.2 | exact hd.2.2.2.1 | exact hd.2.2.2.2) (bR a) _ (Kn.png2 (G.out.up hW.out) 1 rfl) Tryd.underlying22 rfl (info_bR a)
    · intro vals W hW hw hd
      try simp [Region.binds] at hd
      refine .inl ⟨by first | rfl | simp [Region.wanted, yielded, hd], ?_⟩
      exact yields_mv (.tmp 1) rfl rfl
    · intro vals W hW hw hd
      try simp [Region.binds] at hd
      refine .inl ⟨by first | rfl | simp [Region.wanted, yielded, hd], ?_⟩
      exact yields_mv (.tmp 2) rfl rfl
    · intro vals W hW hw hd
      try simp [Region.binds] at hd
      refine .inl ⟨by first | rfl | simp [Region.wanted, yielded, hd], ?_⟩
      exact yields_call3 cfVf (.tmp 47) (.tmp 48) (.tmp 49) _ rfl (bV a) v (.slice aq nq cq) (by first | exact hd | exact hd.1 | exact hd.2 | exact hd.2.1 | exact hd.2.2 | exact hd.2.2.1 | exact hd.2.2.2 | exact hd.2.2.2.1 | exact hd.2.2.2.2) (by first | exact hd | exact hd.1 | exact hd.2 | exact hd.2.1 | exact hd.2.2 | exact hd.2.2.1 | exact hd.2.2.2 | exact hd.2.2.2.1 | exact hd.2.2.2.2) (by first | exact hd | exact hd.1 | exact hd.2 | exact hd.2.1 | exact hd.2.2 | exact hd.2.2.1 | exact hd.2.2.2 | exact hd.2.2.2.1 | exact hd.2.2.2.2) ((VR W (VU.out W hW.out) (UU.out W hW.out) (KU.out W hW.out)).mono fun e w' ⟨he, hb⟩ => ⟨_, he, rfl, hb⟩)
    · intro vals W hW hw hd
      try simp [Region.binds] at hd
      refine .inl ⟨by first | rfl | simp [Region.wanted, yielded, hd], ?_⟩
      exact yields_binI (.tmp 50) (.const (.int .i64 1)) rfl (by first | exact hd | exact hd.1 | exact hd.2 | exact hd.2.1 | exact hd.2.2 | exact hd.2.2.1 | exact hd.2.2.2 | exact hd.2.2.2.1 | exact hd.2.2.2.2) rfl (fun w => by simp [go_sem])
    · intro vals W hW hw hd
      try simp [Region.binds] at hd
      refine .inl ⟨by first | rfl | simp [Region.wanted, yielded, hd], ?_⟩
      exact yields_pickF (.tmp 45) (.const (.bool true)) (.tmp 51) rfl (by first | exact hd | exact hd.1 | exact hd.2 | exact hd.2.1 | exact hd.2.2 | exact hd.2.2.1 | exact hd.2.2.2 | exact hd.2.2.2.1 | exact hd.2.2.2.2) (by first | exact hd | exact hd.1 | exact hd.2 | exact hd.2.1 | exact hd.2.2 | exact hd.2.2.1 | exact hd.2.2.2 | exact hd.2.2.2.1 | exact hd.2.2.2.2)
    · intro vals W hW hw hd
      try simp [Region.binds] at hd
      refine .inl ⟨by first | rfl | simp [Region.wanted, yielded, hd], ?_⟩
      exact yields_pickT (.tmp 41) (.tmp 52) (.const (.bool false)) rfl (by first | exact hd | exact hd.1 | exact hd.2 | exact hd.2.1 | exact hd.2.2 | exact hd.2.2.1 | exact hd.2.2.2 | exact hd.2.2.2.1 | exact hd.2.2.2.2) (by first | exact hd | exact hd.1 | exact hd.2 | exact hd.2.1 | exact hd.2.2 | exact hd.2.2.1 | exact hd.2.2.2 | exact hd.2.2.2.1 | exact hd.2.2.2.2)
    · intro vals W hW hw hd
      try simp [Region.binds] at hd
      refine .inl ⟨by first | rfl | simp [Region.wanted, yielded, hd], ?_⟩
      exact yields_as (.tmp 53) rfl (by first | exact hd | exact hd.1 | exact hd.2 | exact hd.2.1 | exact hd.2.2 | exact hd.2.2.1 | exact hd.2.2.2 | exact hd.2.2.2.1 | exact hd.2.2.2.2)
  obtain ⟨f0, f1, f2, f3, f4, f5, f6, f7, f8, f9, f10, f11, f12, f13, f14, f15, f16, f17, f18, f19, f20, f21, f22, f23, f24, f25, f26, f27, f28, f29, f30, f31, f32, f33, f34, _⟩ := hF
  simp only [MP.eq_p] at f0 f1 f2 f3 f4 f5 f6 f7 f8 f9 f10 f11 f12 f13 f14 f15 f16 f17 f18 f19 f20 f21 f22 f23 f24 f25 f26 f27 f28 f29 f30 f31 f32 f33 f34
  rw [f34]
  have b5 : Hid (Below w.heap.size w w5) := b4.out.trans (hb5.out.mono b4.out.size)
  clear f0 f1 f2 f3 f4 f5 f6 f7 f8 f9 f10 f11 f12 f13 f14 f15 f16 f17 f18 f19 f20 f21 f22 f23 f24 f25 f26 f27 f28 f29 f30 f31 f32 f33 f34 hb5 s4 b4 G KU VU UU
  go_wp2_with fail
  go_ret
  exact ⟨rfl, b5.out⟩
set_option maxRecDepth 100000 in
theorem pairs_eq (n : Nat) (w : World) : (binOp .eql 22 (bV n) (bV n)).run Tryd.prog w = .ok (.bool true) w := by
  have hg : ∀ j, j < 32 → (bR n).toArray[j]? = some (.int .u8 ((n / 256 ^ j % 256 : Nat) : Int)) := fun j hj => by simp [bR, hj]
  rw [run_eql_ints (P := Tryd.prog) (t := 22) (e := 5) (n := 32) (k := .u8) Tryd.underlying22 rfl Tryd.underlying5 (by kernel_rfl) (by kernel_rfl) (fun j => ((n / 256 ^ j % 256 : Nat) : Int)) (fun j => ((n / 256 ^ j % 256 : Nat) : Int)) _ _ hg hg]
  simp
theorem signPairs_of (NC : SgNewC) (VC : SgVerC) (n : Nat) (hn : n < 2 ^ 256) (p q : List Nat) (lp : lowP p) (lq : lowP q) (v u : Value) (w : World) (hv : By w v p) (hu : By w u q) (hK : KTab w) :
    Calls Tryd.prog 3 #[bV n, v, u] w fun e w' => e = .returned (.bool true) ∧ Below w.heap.size w w' := by
  obtain ⟨aq, cq, rfl⟩ := hu.len
  have hx := Nat.lt_trans (sec_lt n) ord_lt
  have TM := times_fun cTimesC (nm (secN n)) (nm_ok _) Cv.base Cv.base_on
  rw [nm_nat hx] at TM
  have PK := cPackC _ (Cv.times_on Cv.base_on (secN n))
  have CM := cmp_fun (nm (secN n)) (nm Cv.ord) (nm_ok _) (nm_ok _)
  rw [cmp_nm hx ord_lt, if_pos (sec_lt n)] at CM
  have nx : ∀ w, (binOp .neq 26 (N (nm (secN n))) (N nO)).run Tryd.prog w = .ok (.bool true) w := fun w => by
    have h : nm (secN n) ≠ nO := fun e => sec_pos n (by
      have e1 := congrArg Nm.nat e
      rw [nm_nat hx] at e1
      rw [e1]
      decide)
    rw [neN, Nm.beq_ne h]
    rfl
  by_cases hl : q.length = 64
  · exact signPairs_64 n (mskN n) (pubN n) q.length _ _ _ _ _ _ v aq cq p q (pairs_eq _) nx (show ((q.length : Int) == 64) = true by rw [hl]; rfl) (fun w hT => NC n hn w hT) cBaseC TM PK sLC CM w hv hu hK
  · refine signPairs_no n (mskN n) (pubN n) q.length _ _ _ _ _ _ v aq cq p q (pairs_eq _) nx (show ((q.length : Int) == 64) = false by simp; omega) (fun w hT => NC n hn w hT) cBaseC TM PK sLC CM (fun w hv hu hT => ?_) w hv hu hK
    have := VC (pubN n) (pub_lt n) p q lp lq v _ w hv hu hT
    rwa [show vrN (pubN n) p q = 1 by unfold vrN; rw [if_neg hl]] at this
end Go.Proofs.YtfknkfninjjgbabDoor
