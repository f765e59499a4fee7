/- Package sign, as it landed: judge, read, Verify. -/
import Derived.Test.YtfknkfninjjgbabDoorQSgSToSgK
import Derived.Test.YtfknkfninjjgbabDoorQBKToHCut
import Derived.Test.YtfknkfninjjgbabDoorQEqPToCrvB
import Derived.Test.YtfknkfninjjgbabDoorQCmp
namespace Go.Proofs.YtfknkfninjjgbabDoor
open Go.RowKit
attribute [local go_sem] World.cell?_alloc_some cell_alloc2 cell_alloc3 cell_alloc4 frozen?_alloc_cells frozen_out
attribute [local simp] MP.eq_p
set_option linter.unusedSimpArgs false
set_option maxRecDepth 20000 in
set_option maxHeartbeats 2000000 in
theorem sgJudge_yes (s x y bx by_ : Nm) (ne : ∀ w, (binOp .neq 34 (Wv x y) (Wv x y)).run Tryd.prog w = .ok (.bool false) w)
    (CB : ∀ w, Calls Tryd.prog 9 #[] w fun e w' => e = .returned (Wv bx by_) ∧ Below w.heap.size w w')
    (TM : ∀ w, Calls Tryd.prog 39 #[N s, Wv bx by_] w fun e w' => e = .returned (Wv x y) ∧ Below w.heap.size w w')
    (w : World) :
    Calls Tryd.prog 26 #[cmV s x y] w fun e w' => e = .returned (.int .i64 0) ∧ Below w.heap.size w w' := by
  go_enter Tryd.func26, Tryd.ntmps26
  have s0 : Hid (Kn (w.alloc (.cells (cmR (s) (x) (y)).toArray 67)) [(w.heap.size, (cmR (s) (x) (y)))]) := ((Kn.nil w).al (cmR (s) (x) (y)) 67 rfl)
  have b0 : Hid (Below w.heap.size w (w.alloc (.cells (cmR (s) (x) (y)).toArray 67))) := ((Below.refl _ _).alloc (Nat.le_refl _) _)
  go_wp2_with fail
  refine wp_region_up (by kernel_rfl) (by kernel_rfl) (fun U hU f hf hcl => ?_)
  have ra_c_0 := fun nx => (Kn.rng (s0.out.up (hf nx).out) 0 rfl : (f nx).rangeAt (w.heap.size) 0 (cmR (s) (x) (y)))
  have ra_c_1 := fun nx => (Kn.cng0 (s0.out.up (hf nx).out) 0 rfl : (f nx).rangeAt (w.heap.size) 0 [Value.int IntKind.u64 s.a, Value.int IntKind.u64 s.b, Value.int IntKind.u64 s.c, Value.int IntKind.u64 s.d])
  have ra_c_2 := fun nx => (Kn.cng1 (s0.out.up (hf nx).out) 0 rfl : (f nx).rangeAt (w.heap.size) 4 [Value.int IntKind.u64 x.a, Value.int IntKind.u64 x.b, Value.int IntKind.u64 x.c, Value.int IntKind.u64 x.d, Value.int IntKind.u64 y.a, Value.int IntKind.u64 y.b, Value.int IntKind.u64 y.c, Value.int IntKind.u64 y.d])
  try simp only [List.append_eq, List.cons_append, List.nil_append]
  repeat (first | (refine I.quiet_load rfl 67 _ rfl (w.heap.size) 0 rfl (cmR (s) (x) (y)) _ (fun W hW => by obtain ⟨nx, rfl⟩ := hW; exact ra_c_0 nx) Tryd.underlying67 rfl (info_cmR (s) (x) (y)) ?_; simp only [Act.put, List.setIfInBounds_toArray, List.set_cons_succ, List.set_cons_zero]) | (refine I.quiet_load rfl 26 _ rfl (w.heap.size) 0 rfl [Value.int IntKind.u64 s.a, Value.int IntKind.u64 s.b, Value.int IntKind.u64 s.c, Value.int IntKind.u64 s.d] _ (fun W hW => by obtain ⟨nx, rfl⟩ := hW; exact ra_c_1 nx) Tryd.underlying26 rfl (info_c4 (s)) ?_; simp only [Act.put, List.setIfInBounds_toArray, List.set_cons_succ, List.set_cons_zero]) | (refine I.quiet_load rfl 34 _ rfl (w.heap.size) 4 rfl [Value.int IntKind.u64 x.a, Value.int IntKind.u64 x.b, Value.int IntKind.u64 x.c, Value.int IntKind.u64 x.d, Value.int IntKind.u64 y.a, Value.int IntKind.u64 y.b, Value.int IntKind.u64 y.c, Value.int IntKind.u64 y.d] _ (fun W hW => by obtain ⟨nx, rfl⟩ := hW; exact ra_c_2 nx) Tryd.underlying34 rfl (info_c8 (x) (y)) ?_; simp only [Act.put, List.setIfInBounds_toArray, List.set_cons_succ, List.set_cons_zero]) | go_big_quiet_step (first | (go_at_call 9; exact (CB _).mono fun e w'' ⟨he, hb⟩ => ⟨he, hcl.out _ _ hb⟩) | (go_at_call 39; exact (TM _).mono fun e w'' ⟨he, hb⟩ => ⟨he, hcl.out _ _ hb⟩)))
  refine wpQuiet_nil ?_
  intro nx
  have hb1 := (hf nx).out
  clear hf hcl
  generalize f nx = w1 at hb1 ⊢
  have s1 : Hid (Kn w1 [(w.heap.size, (cmR (s) (x) (y)))]) := s0.out.up hb1
  have b1 : Hid (Below w.heap.size w w1) := b0.out.trans (hb1.mono b0.out.size)
  have z1 := b1.out.size
  clear hb1 s0 b0
  go_wp2_with fail
  go_ret
  exact ⟨rfl, b1.out⟩
set_option maxRecDepth 20000 in
set_option maxHeartbeats 2000000 in
theorem sgJudge_no (s x y bx by_ tx ty : Nm) (ne : ∀ w, (binOp .neq 34 (Wv tx ty) (Wv x y)).run Tryd.prog w = .ok (.bool true) w)
    (CB : ∀ w, Calls Tryd.prog 9 #[] w fun e w' => e = .returned (Wv bx by_) ∧ Below w.heap.size w w')
    (TM : ∀ w, Calls Tryd.prog 39 #[N s, Wv bx by_] w fun e w' => e = .returned (Wv tx ty) ∧ Below w.heap.size w w')
    (w : World) :
    Calls Tryd.prog 26 #[cmV s x y] w fun e w' => e = .returned (.int .i64 5) ∧ Below w.heap.size w w' := by
  go_enter Tryd.func26, Tryd.ntmps26
  have s0 : Hid (Kn (w.alloc (.cells (cmR (s) (x) (y)).toArray 67)) [(w.heap.size, (cmR (s) (x) (y)))]) := ((Kn.nil w).al (cmR (s) (x) (y)) 67 rfl)
  have b0 : Hid (Below w.heap.size w (w.alloc (.cells (cmR (s) (x) (y)).toArray 67))) := ((Below.refl _ _).alloc (Nat.le_refl _) _)
  go_wp2_with fail
  refine wp_region_up (by kernel_rfl) (by kernel_rfl) (fun U hU f hf hcl => ?_)
  have ra_c_0 := fun nx => (Kn.rng (s0.out.up (hf nx).out) 0 rfl : (f nx).rangeAt (w.heap.size) 0 (cmR (s) (x) (y)))
  have ra_c_1 := fun nx => (Kn.cng0 (s0.out.up (hf nx).out) 0 rfl : (f nx).rangeAt (w.heap.size) 0 [Value.int IntKind.u64 s.a, Value.int IntKind.u64 s.b, Value.int IntKind.u64 s.c, Value.int IntKind.u64 s.d])
  have ra_c_2 := fun nx => (Kn.cng1 (s0.out.up (hf nx).out) 0 rfl : (f nx).rangeAt (w.heap.size) 4 [Value.int IntKind.u64 x.a, Value.int IntKind.u64 x.b, Value.int IntKind.u64 x.c, Value.int IntKind.u64 x.d, Value.int IntKind.u64 y.a, Value.int IntKind.u64 y.b, Value.int IntKind.u64 y.c, Value.int IntKind.u64 y.d])
  try simp only [List.append_eq, List.cons_append, List.nil_append]
  repeat (first | (refine I.quiet_load rfl 67 _ rfl (w.heap.size) 0 rfl (cmR (s) (x) (y)) _ (fun W hW => by obtain ⟨nx, rfl⟩ := hW; exact ra_c_0 nx) Tryd.underlying67 rfl (info_cmR (s) (x) (y)) ?_; simp only [Act.put, List.setIfInBounds_toArray, List.set_cons_succ, List.set_cons_zero]) | (refine I.quiet_load rfl 26 _ rfl (w.heap.size) 0 rfl [Value.int IntKind.u64 s.a, Value.int IntKind.u64 s.b, Value.int IntKind.u64 s.c, Value.int IntKind.u64 s.d] _ (fun W hW => by obtain ⟨nx, rfl⟩ := hW; exact ra_c_1 nx) Tryd.underlying26 rfl (info_c4 (s)) ?_; simp only [Act.put, List.setIfInBounds_toArray, List.set_cons_succ, List.set_cons_zero]) | (refine I.quiet_load rfl 34 _ rfl (w.heap.size) 4 rfl [Value.int IntKind.u64 x.a, Value.int IntKind.u64 x.b, Value.int IntKind.u64 x.c, Value.int IntKind.u64 x.d, Value.int IntKind.u64 y.a, Value.int IntKind.u64 y.b, Value.int IntKind.u64 y.c, Value.int IntKind.u64 y.d] _ (fun W hW => by obtain ⟨nx, rfl⟩ := hW; exact ra_c_2 nx) Tryd.underlying34 rfl (info_c8 (x) (y)) ?_; simp only [Act.put, List.setIfInBounds_toArray, List.set_cons_succ, List.set_cons_zero]) | go_big_quiet_step (first | (go_at_call 9; exact (CB _).mono fun e w'' ⟨he, hb⟩ => ⟨he, hcl.out _ _ hb⟩) | (go_at_call 39; exact (TM _).mono fun e w'' ⟨he, hb⟩ => ⟨he, hcl.out _ _ hb⟩)))
  refine wpQuiet_nil ?_
  intro nx
  have hb1 := (hf nx).out
  clear hf hcl
  generalize f nx = w1 at hb1 ⊢
  have s1 : Hid (Kn w1 [(w.heap.size, (cmR (s) (x) (y)))]) := s0.out.up hb1
  have b1 : Hid (Below w.heap.size w w1) := b0.out.trans (hb1.mono b0.out.size)
  have z1 := b1.out.size
  clear hb1 s0 b0
  go_wp2_with fail
  go_ret
  exact ⟨rfl, b1.out⟩
set_option maxRecDepth 20000 in
set_option maxHeartbeats 2000000 in
theorem sgRead_len (A : Nat) (v : Value) (au : Option Addr) (nu : Nat) (cu : Nat) (hn : nu ≠ 64) (w : World) :
    Calls Tryd.prog 25 #[bV A, v, .slice au nu cu] w fun e w' => e = .returned (.tuple #[cmV nO nO nO, .int .i64 1]) ∧ Below w.heap.size w w' := by
  have n1 : ((nu : Int) != 64) = true := by simp; omega
  have n2 : ((nu : Int) == 64) = false := by simp; omega
  clear hn
  go_enter Tryd.func25, Tryd.ntmps25
  have s0 : Hid (Kn ((w.alloc (.cells (bR (A)).toArray 22)).alloc (.cells #[Value.int IntKind.u64 0, Value.int IntKind.u64 0, Value.int IntKind.u64 0, Value.int IntKind.u64 0, Value.int IntKind.u64 0, Value.int IntKind.u64 0, Value.int IntKind.u64 0, Value.int IntKind.u64 0, Value.int IntKind.u64 0, Value.int IntKind.u64 0, Value.int IntKind.u64 0, Value.int IntKind.u64 0] 67)) [(w.heap.size + 1, cmZ), (w.heap.size, (bR (A)))]) := (((Kn.nil w).al (bR (A)) 22 rfl).al cmZ 67 (by simp))
  have b0 : Hid (Below w.heap.size w ((w.alloc (.cells (bR (A)).toArray 22)).alloc (.cells #[Value.int IntKind.u64 0, Value.int IntKind.u64 0, Value.int IntKind.u64 0, Value.int IntKind.u64 0, Value.int IntKind.u64 0, Value.int IntKind.u64 0, Value.int IntKind.u64 0, Value.int IntKind.u64 0, Value.int IntKind.u64 0, Value.int IntKind.u64 0, Value.int IntKind.u64 0, Value.int IntKind.u64 0] 67))) := (((Below.refl _ _).alloc (Nat.le_refl _) _).alloc (by simp <;> omega) _)
  have s1x : Hid (Kn ((w.alloc (.cells (bR (A)).toArray 22)).alloc (.cells #[Value.int IntKind.u64 0, Value.int IntKind.u64 0, Value.int IntKind.u64 0, Value.int IntKind.u64 0, Value.int IntKind.u64 0, Value.int IntKind.u64 0, Value.int IntKind.u64 0, Value.int IntKind.u64 0, Value.int IntKind.u64 0, Value.int IntKind.u64 0, Value.int IntKind.u64 0, Value.int IntKind.u64 0] 67)) [(w.heap.size + 1, cmZ), (w.heap.size, (bR (A)))]) := s0.out.front 0 rfl
  have b1x : Hid (Below w.heap.size w ((w.alloc (.cells (bR (A)).toArray 22)).alloc (.cells #[Value.int IntKind.u64 0, Value.int IntKind.u64 0, Value.int IntKind.u64 0, Value.int IntKind.u64 0, Value.int IntKind.u64 0, Value.int IntKind.u64 0, Value.int IntKind.u64 0, Value.int IntKind.u64 0, Value.int IntKind.u64 0, Value.int IntKind.u64 0, Value.int IntKind.u64 0, Value.int IntKind.u64 0] 67))) := b0.out
  have TT1 : Hid (((w.alloc (.cells (bR (A)).toArray 22)).alloc (.cells #[Value.int IntKind.u64 0, Value.int IntKind.u64 0, Value.int IntKind.u64 0, Value.int IntKind.u64 0, Value.int IntKind.u64 0, Value.int IntKind.u64 0, Value.int IntKind.u64 0, Value.int IntKind.u64 0, Value.int IntKind.u64 0, Value.int IntKind.u64 0, Value.int IntKind.u64 0, Value.int IntKind.u64 0] 67)).there (w.heap.size + 1) 0 (cmR (nO) (nO) (nO)).length) := Kn.there s1x.out 0 rfl (by rw [(cmR_length (nO) (nO) (nO)), cmZ_length])
  go_wp2_with (first | simp only [zero_clm] | refine wp_buildZ rfl rfl clm_zero ?_ | refine I.wp_store_eq rfl 67 _ _ rfl (w.heap.size + 1) 0 (cmR (nO) (nO) (nO)) rfl rfl TT1.out (info_cmR (nO) (nO) (nO)) (cmR_one (nO) (nO) (nO)) ?_)
  intro w1 hw1
  try simp only [Act.put, List.setIfInBounds_toArray, List.set_cons_succ, List.set_cons_zero]
  have s1 : Hid (Kn w1 [(w.heap.size + 1, (cmR (nO) (nO) (nO))), (w.heap.size, (bR (A)))]) := by rw [hw1.out]; exact Kn.put s1x.out (by rw [(cmR_length (nO) (nO) (nO)), cmZ_length])
  have b1 : Hid (Below w.heap.size w w1) := by rw [hw1.out]; exact I.below_setCells _ _ _ b1x.out (by omega)
  have z1 := b1.out.size
  clear hw1 s1x b1x TT1 s0 b0
  go_wp2_with fail
  exact bodyPost_ret (v := .tuple #[cmV nO nO nO, .int .i64 1]) (results_row2 (b := w.heap.size + 1) rfl rfl rfl (Kn.rng s1.out 0 rfl) Tryd.underlying67 rfl (info_cmR (nO) (nO) (nO))) rfl ⟨rfl, b1.out⟩
theorem By.rng_take {w : World} {g o c m : Nat} {q : List Nat} (h : By w (.slice (some ⟨g, o, none⟩) m c) q) (n : Nat) : w.rangeAt g o ((q.take n).map b8) := by
  rcases Nat.eq_zero_or_pos q.length with h0 | h0
  · rw [List.length_eq_zero_iff.1 h0]
    intro j v hj
    simp at hj
  · obtain ⟨g', o', e, _, r⟩ := h.range h0
    cases e
    rw [List.map_take]
    exact range_take r n
theorem exec_mv {o : Oper} {a : Act} {v : Value} (x : Operand) (ho : o.op = .move x) (hx : a.eval x = v) (W : World) : (execOp a.eval o).run Tryd.prog W = .ok (.value v) W := by
  generalize a.eval = ev at *
  unfold execOp
  simp [ho, hx, go_sem]
set_option maxRecDepth 20000 in
set_option maxHeartbeats 2000000 in
theorem sgRead_no1 (A R s g o cu : Nat) (av : Option Addr) (nv cv : Nat) (p q : List Nat) (lq : q.length = 64) (q1 : (q.take 32).map b8 = bR R) (q2 : (q.drop 32).map b8 = bR s)
    (UA : ∀ w, Calls Tryd.prog 51 #[.agg (bR (A)).toArray] w fun e w' => e = .returned (.tuple #[Wv nO nO, .int .i64 4]) ∧ Below w.heap.size w w')
    (w : World) (hv : By w (.slice av nv cv) p) (hq : By w (.slice (some ⟨g, o, none⟩) 64 cu) q) (hT : KTab w) :
    Calls Tryd.prog 25 #[bV A, .slice av nv cv, .slice (some ⟨g, o, none⟩) 64 cu] w fun e w' => e = .returned (.tuple #[cmV nO nO nO, .int .i64 4]) ∧ Below w.heap.size w w' := by
  have HV : Hid (By w (.slice av nv cv) p) := hv
  have HQ : Hid (By w (.slice (some ⟨g, o, none⟩) 64 cu) q) := hq
  have HT : Hid (KTab w) := hT
  have LQ : Hid (q.length = 64) := lq
  have Q1 : Hid ((q.take 32).map b8 = bR R) := q1
  have Q2 : Hid ((q.drop 32).map b8 = bR s) := q2
  have L1 : Hid ((q.take 32).length = 32) := by show _ = _; rw [List.length_take, lq]; rfl
  have L2 : Hid ((q.drop 32).length = 32) := by show _ = _; rw [List.length_drop, lq]
  clear hv hq hT lq q1 q2
  go_enter Tryd.func25, Tryd.ntmps25
  have s0 : Hid (Kn ((w.alloc (.cells (bR (A)).toArray 22)).alloc (.cells #[Value.int IntKind.u64 0, Value.int IntKind.u64 0, Value.int IntKind.u64 0, Value.int IntKind.u64 0, Value.int IntKind.u64 0, Value.int IntKind.u64 0, Value.int IntKind.u64 0, Value.int IntKind.u64 0, Value.int IntKind.u64 0, Value.int IntKind.u64 0, Value.int IntKind.u64 0, Value.int IntKind.u64 0] 67)) [(w.heap.size + 1, cmZ), (w.heap.size, (bR (A)))]) := (((Kn.nil w).al (bR (A)) 22 rfl).al cmZ 67 (by simp))
  have b0 : Hid (Below w.heap.size w ((w.alloc (.cells (bR (A)).toArray 22)).alloc (.cells #[Value.int IntKind.u64 0, Value.int IntKind.u64 0, Value.int IntKind.u64 0, Value.int IntKind.u64 0, Value.int IntKind.u64 0, Value.int IntKind.u64 0, Value.int IntKind.u64 0, Value.int IntKind.u64 0, Value.int IntKind.u64 0, Value.int IntKind.u64 0, Value.int IntKind.u64 0, Value.int IntKind.u64 0] 67))) := (((Below.refl _ _).alloc (Nat.le_refl _) _).alloc (by simp <;> omega) _)
  have s1 : Hid (Kn (((w.alloc (.cells (bR (A)).toArray 22)).alloc (.cells #[Value.int IntKind.u64 0, Value.int IntKind.u64 0, Value.int IntKind.u64 0, Value.int IntKind.u64 0, Value.int IntKind.u64 0, Value.int IntKind.u64 0, Value.int IntKind.u64 0, Value.int IntKind.u64 0, Value.int IntKind.u64 0, Value.int IntKind.u64 0, Value.int IntKind.u64 0, Value.int IntKind.u64 0] 67)).alloc (.cells #[Value.int IntKind.u8 0, Value.int IntKind.u8 0, Value.int IntKind.u8 0, Value.int IntKind.u8 0, Value.int IntKind.u8 0, Value.int IntKind.u8 0, Value.int IntKind.u8 0, Value.int IntKind.u8 0, Value.int IntKind.u8 0, Value.int IntKind.u8 0, Value.int IntKind.u8 0, Value.int IntKind.u8 0, Value.int IntKind.u8 0, Value.int IntKind.u8 0, Value.int IntKind.u8 0, Value.int IntKind.u8 0, Value.int IntKind.u8 0, Value.int IntKind.u8 0, Value.int IntKind.u8 0, Value.int IntKind.u8 0, Value.int IntKind.u8 0, Value.int IntKind.u8 0, Value.int IntKind.u8 0, Value.int IntKind.u8 0, Value.int IntKind.u8 0, Value.int IntKind.u8 0, Value.int IntKind.u8 0, Value.int IntKind.u8 0, Value.int IntKind.u8 0, Value.int IntKind.u8 0, Value.int IntKind.u8 0, Value.int IntKind.u8 0] 22)) [(w.heap.size + 1 + 1, bZ), (w.heap.size + 1, cmZ), (w.heap.size, (bR (A)))]) := s0.out.al bZ 22 (by simp)
  have b1 : Hid (Below w.heap.size w (((w.alloc (.cells (bR (A)).toArray 22)).alloc (.cells #[Value.int IntKind.u64 0, Value.int IntKind.u64 0, Value.int IntKind.u64 0, Value.int IntKind.u64 0, Value.int IntKind.u64 0, Value.int IntKind.u64 0, Value.int IntKind.u64 0, Value.int IntKind.u64 0, Value.int IntKind.u64 0, Value.int IntKind.u64 0, Value.int IntKind.u64 0, Value.int IntKind.u64 0] 67)).alloc (.cells #[Value.int IntKind.u8 0, Value.int IntKind.u8 0, Value.int IntKind.u8 0, Value.int IntKind.u8 0, Value.int IntKind.u8 0, Value.int IntKind.u8 0, Value.int IntKind.u8 0, Value.int IntKind.u8 0, Value.int IntKind.u8 0, Value.int IntKind.u8 0, Value.int IntKind.u8 0, Value.int IntKind.u8 0, Value.int IntKind.u8 0, Value.int IntKind.u8 0, Value.int IntKind.u8 0, Value.int IntKind.u8 0, Value.int IntKind.u8 0, Value.int IntKind.u8 0, Value.int IntKind.u8 0, Value.int IntKind.u8 0, Value.int IntKind.u8 0, Value.int IntKind.u8 0, Value.int IntKind.u8 0, Value.int IntKind.u8 0, Value.int IntKind.u8 0, Value.int IntKind.u8 0, Value.int IntKind.u8 0, Value.int IntKind.u8 0, Value.int IntKind.u8 0, Value.int IntKind.u8 0, Value.int IntKind.u8 0, Value.int IntKind.u8 0] 22))) := b0.out.alloc b0.out.size _
  have z1 := b0.out.size
  clear s0 b0
  have s2 : Hid (Kn ((((w.alloc (.cells (bR (A)).toArray 22)).alloc (.cells #[Value.int IntKind.u64 0, Value.int IntKind.u64 0, Value.int IntKind.u64 0, Value.int IntKind.u64 0, Value.int IntKind.u64 0, Value.int IntKind.u64 0, Value.int IntKind.u64 0, Value.int IntKind.u64 0, Value.int IntKind.u64 0, Value.int IntKind.u64 0, Value.int IntKind.u64 0, Value.int IntKind.u64 0] 67)).alloc (.cells #[Value.int IntKind.u8 0, Value.int IntKind.u8 0, Value.int IntKind.u8 0, Value.int IntKind.u8 0, Value.int IntKind.u8 0, Value.int IntKind.u8 0, Value.int IntKind.u8 0, Value.int IntKind.u8 0, Value.int IntKind.u8 0, Value.int IntKind.u8 0, Value.int IntKind.u8 0, Value.int IntKind.u8 0, Value.int IntKind.u8 0, Value.int IntKind.u8 0, Value.int IntKind.u8 0, Value.int IntKind.u8 0, Value.int IntKind.u8 0, Value.int IntKind.u8 0, Value.int IntKind.u8 0, Value.int IntKind.u8 0, Value.int IntKind.u8 0, Value.int IntKind.u8 0, Value.int IntKind.u8 0, Value.int IntKind.u8 0, Value.int IntKind.u8 0, Value.int IntKind.u8 0, Value.int IntKind.u8 0, Value.int IntKind.u8 0, Value.int IntKind.u8 0, Value.int IntKind.u8 0, Value.int IntKind.u8 0, Value.int IntKind.u8 0] 22)).alloc (.cells #[Value.int IntKind.u8 0, Value.int IntKind.u8 0, Value.int IntKind.u8 0, Value.int IntKind.u8 0, Value.int IntKind.u8 0, Value.int IntKind.u8 0, Value.int IntKind.u8 0, Value.int IntKind.u8 0, Value.int IntKind.u8 0, Value.int IntKind.u8 0, Value.int IntKind.u8 0, Value.int IntKind.u8 0, Value.int IntKind.u8 0, Value.int IntKind.u8 0, Value.int IntKind.u8 0, Value.int IntKind.u8 0, Value.int IntKind.u8 0, Value.int IntKind.u8 0, Value.int IntKind.u8 0, Value.int IntKind.u8 0, Value.int IntKind.u8 0, Value.int IntKind.u8 0, Value.int IntKind.u8 0, Value.int IntKind.u8 0, Value.int IntKind.u8 0, Value.int IntKind.u8 0, Value.int IntKind.u8 0, Value.int IntKind.u8 0, Value.int IntKind.u8 0, Value.int IntKind.u8 0, Value.int IntKind.u8 0, Value.int IntKind.u8 0] 22)) [(w.heap.size + 1 + 1 + 1, bZ), (w.heap.size + 1 + 1, bZ), (w.heap.size + 1, cmZ), (w.heap.size, (bR (A)))]) := s1.out.al bZ 22 (by simp)
  have b2 : Hid (Below w.heap.size w ((((w.alloc (.cells (bR (A)).toArray 22)).alloc (.cells #[Value.int IntKind.u64 0, Value.int IntKind.u64 0, Value.int IntKind.u64 0, Value.int IntKind.u64 0, Value.int IntKind.u64 0, Value.int IntKind.u64 0, Value.int IntKind.u64 0, Value.int IntKind.u64 0, Value.int IntKind.u64 0, Value.int IntKind.u64 0, Value.int IntKind.u64 0, Value.int IntKind.u64 0] 67)).alloc (.cells #[Value.int IntKind.u8 0, Value.int IntKind.u8 0, Value.int IntKind.u8 0, Value.int IntKind.u8 0, Value.int IntKind.u8 0, Value.int IntKind.u8 0, Value.int IntKind.u8 0, Value.int IntKind.u8 0, Value.int IntKind.u8 0, Value.int IntKind.u8 0, Value.int IntKind.u8 0, Value.int IntKind.u8 0, Value.int IntKind.u8 0, Value.int IntKind.u8 0, Value.int IntKind.u8 0, Value.int IntKind.u8 0, Value.int IntKind.u8 0, Value.int IntKind.u8 0, Value.int IntKind.u8 0, Value.int IntKind.u8 0, Value.int IntKind.u8 0, Value.int IntKind.u8 0, Value.int IntKind.u8 0, Value.int IntKind.u8 0, Value.int IntKind.u8 0, Value.int IntKind.u8 0, Value.int IntKind.u8 0, Value.int IntKind.u8 0, Value.int IntKind.u8 0, Value.int IntKind.u8 0, Value.int IntKind.u8 0, Value.int IntKind.u8 0] 22)).alloc (.cells #[Value.int IntKind.u8 0, Value.int IntKind.u8 0, Value.int IntKind.u8 0, Value.int IntKind.u8 0, Value.int IntKind.u8 0, Value.int IntKind.u8 0, Value.int IntKind.u8 0, Value.int IntKind.u8 0, Value.int IntKind.u8 0, Value.int IntKind.u8 0, Value.int IntKind.u8 0, Value.int IntKind.u8 0, Value.int IntKind.u8 0, Value.int IntKind.u8 0, Value.int IntKind.u8 0, Value.int IntKind.u8 0, Value.int IntKind.u8 0, Value.int IntKind.u8 0, Value.int IntKind.u8 0, Value.int IntKind.u8 0, Value.int IntKind.u8 0, Value.int IntKind.u8 0, Value.int IntKind.u8 0, Value.int IntKind.u8 0, Value.int IntKind.u8 0, Value.int IntKind.u8 0, Value.int IntKind.u8 0, Value.int IntKind.u8 0, Value.int IntKind.u8 0, Value.int IntKind.u8 0, Value.int IntKind.u8 0, Value.int IntKind.u8 0] 22))) := b1.out.alloc b1.out.size _
  have z2 := b1.out.size
  clear s1 b1
  have R1 : Hid (((((w.alloc (.cells (bR A).toArray 22)).alloc (.cells #[Value.int IntKind.u64 0, Value.int IntKind.u64 0, Value.int IntKind.u64 0, Value.int IntKind.u64 0, Value.int IntKind.u64 0, Value.int IntKind.u64 0, Value.int IntKind.u64 0, Value.int IntKind.u64 0, Value.int IntKind.u64 0, Value.int IntKind.u64 0, Value.int IntKind.u64 0, Value.int IntKind.u64 0] 67)).alloc (.cells #[Value.int IntKind.u8 0, Value.int IntKind.u8 0, Value.int IntKind.u8 0, Value.int IntKind.u8 0, Value.int IntKind.u8 0, Value.int IntKind.u8 0, Value.int IntKind.u8 0, Value.int IntKind.u8 0, Value.int IntKind.u8 0, Value.int IntKind.u8 0, Value.int IntKind.u8 0, Value.int IntKind.u8 0, Value.int IntKind.u8 0, Value.int IntKind.u8 0, Value.int IntKind.u8 0, Value.int IntKind.u8 0, Value.int IntKind.u8 0, Value.int IntKind.u8 0, Value.int IntKind.u8 0, Value.int IntKind.u8 0, Value.int IntKind.u8 0, Value.int IntKind.u8 0, Value.int IntKind.u8 0, Value.int IntKind.u8 0, Value.int IntKind.u8 0, Value.int IntKind.u8 0, Value.int IntKind.u8 0, Value.int IntKind.u8 0, Value.int IntKind.u8 0, Value.int IntKind.u8 0, Value.int IntKind.u8 0, Value.int IntKind.u8 0] 22)).alloc (.cells #[Value.int IntKind.u8 0, Value.int IntKind.u8 0, Value.int IntKind.u8 0, Value.int IntKind.u8 0, Value.int IntKind.u8 0, Value.int IntKind.u8 0, Value.int IntKind.u8 0, Value.int IntKind.u8 0, Value.int IntKind.u8 0, Value.int IntKind.u8 0, Value.int IntKind.u8 0, Value.int IntKind.u8 0, Value.int IntKind.u8 0, Value.int IntKind.u8 0, Value.int IntKind.u8 0, Value.int IntKind.u8 0, Value.int IntKind.u8 0, Value.int IntKind.u8 0, Value.int IntKind.u8 0, Value.int IntKind.u8 0, Value.int IntKind.u8 0, Value.int IntKind.u8 0, Value.int IntKind.u8 0, Value.int IntKind.u8 0, Value.int IntKind.u8 0, Value.int IntKind.u8 0, Value.int IntKind.u8 0, Value.int IntKind.u8 0, Value.int IntKind.u8 0, Value.int IntKind.u8 0, Value.int IntKind.u8 0, Value.int IntKind.u8 0] 22)).rangeAt g o ((q.take 32).map b8)) := By.rng_take (HQ.out.up b2.out (Nat.le_refl _)) 32
  have T1 : Hid (((((w.alloc (.cells (bR A).toArray 22)).alloc (.cells #[Value.int IntKind.u64 0, Value.int IntKind.u64 0, Value.int IntKind.u64 0, Value.int IntKind.u64 0, Value.int IntKind.u64 0, Value.int IntKind.u64 0, Value.int IntKind.u64 0, Value.int IntKind.u64 0, Value.int IntKind.u64 0, Value.int IntKind.u64 0, Value.int IntKind.u64 0, Value.int IntKind.u64 0] 67)).alloc (.cells #[Value.int IntKind.u8 0, Value.int IntKind.u8 0, Value.int IntKind.u8 0, Value.int IntKind.u8 0, Value.int IntKind.u8 0, Value.int IntKind.u8 0, Value.int IntKind.u8 0, Value.int IntKind.u8 0, Value.int IntKind.u8 0, Value.int IntKind.u8 0, Value.int IntKind.u8 0, Value.int IntKind.u8 0, Value.int IntKind.u8 0, Value.int IntKind.u8 0, Value.int IntKind.u8 0, Value.int IntKind.u8 0, Value.int IntKind.u8 0, Value.int IntKind.u8 0, Value.int IntKind.u8 0, Value.int IntKind.u8 0, Value.int IntKind.u8 0, Value.int IntKind.u8 0, Value.int IntKind.u8 0, Value.int IntKind.u8 0, Value.int IntKind.u8 0, Value.int IntKind.u8 0, Value.int IntKind.u8 0, Value.int IntKind.u8 0, Value.int IntKind.u8 0, Value.int IntKind.u8 0, Value.int IntKind.u8 0, Value.int IntKind.u8 0] 22)).alloc (.cells #[Value.int IntKind.u8 0, Value.int IntKind.u8 0, Value.int IntKind.u8 0, Value.int IntKind.u8 0, Value.int IntKind.u8 0, Value.int IntKind.u8 0, Value.int IntKind.u8 0, Value.int IntKind.u8 0, Value.int IntKind.u8 0, Value.int IntKind.u8 0, Value.int IntKind.u8 0, Value.int IntKind.u8 0, Value.int IntKind.u8 0, Value.int IntKind.u8 0, Value.int IntKind.u8 0, Value.int IntKind.u8 0, Value.int IntKind.u8 0, Value.int IntKind.u8 0, Value.int IntKind.u8 0, Value.int IntKind.u8 0, Value.int IntKind.u8 0, Value.int IntKind.u8 0, Value.int IntKind.u8 0, Value.int IntKind.u8 0, Value.int IntKind.u8 0, Value.int IntKind.u8 0, Value.int IntKind.u8 0, Value.int IntKind.u8 0, Value.int IntKind.u8 0, Value.int IntKind.u8 0, Value.int IntKind.u8 0, Value.int IntKind.u8 0] 22)).there (w.heap.size + 1 + 1) 0 (q.take 32).length) := by
    have := Kn.there (us := bR 0) s2.out 1 rfl (by rw [bR_length, bZ_length])
    rw [L1.out]
    rw [bR_length] at this
    exact this
  go_wp2_with (first | simp only [zero_clm] | simp only [zero_b32] | refine wp_all32 rfl _ rfl (w.heap.size + 1 + 1) rfl ?_ | refine wp_copyR rfl _ _ rfl (w.heap.size + 1 + 1) 0 32 32 g o 64 cu (q.take 32) rfl rfl (by rw [L1.out]; rfl) R1.out T1.out ?_)
  intro w3 hw3
  have s3 : Hid (Kn w3 [(w.heap.size + 1 + 1, bR R), (w.heap.size + 1 + 1 + 1, bZ), (w.heap.size + 1, cmZ), (w.heap.size, bR A)]) := by
    rw [hw3.out, Q1.out]
    exact Kn.put (s2.out.front 1 rfl) (by rw [bR_length, bZ_length])
  have b3 : Hid (Below w.heap.size w w3) := by rw [hw3.out]; exact I.below_setCells _ _ _ b2.out (by omega)
  clear hw3 s2 b2 R1 T1
  go_wp2_with fail
  refine wp_region_two 0 1 [2, 3] [_, _] (.slice (some ⟨w.heap.size + 1 + 1 + 1, 0, none⟩) 32 32) (.slice (some ⟨g, o, none⟩) 64 cu) (by kernel_rfl) (by kernel_rfl) (fun _ _ d _ _ h => by cases d <;> exact h) rfl rfl (by kernel_rfl) (by kernel_rfl) rfl rfl (by kernel_rfl) (.inl ⟨rfl, exec_all32 _ rfl _ rfl⟩) (.inl ⟨rfl, exec_mv _ rfl rfl⟩) ?_
  intro w4 hb4 hh4
  clear hh4
  simp only [Act.put, List.setIfInBounds_toArray, List.set_cons_succ, List.set_cons_zero, List.getElem_toArray, List.getElem_cons_zero, List.getElem_cons_succ]
  have s4 : Hid (Kn w4 [(w.heap.size + 1 + 1, bR R), (w.heap.size + 1 + 1 + 1, bZ), (w.heap.size + 1, cmZ), (w.heap.size, bR A)]) := s3.out.up hb4.out
  have b4 : Hid (Below w.heap.size w w4) := b3.out.trans (hb4.out.mono b3.out.size)
  clear s3 b3 hb4
  refine wp_cutB rfl _ _ rfl (some ⟨g, o, none⟩) 64 cu 32 .i64 32 q rfl LQ.out.symm rfl rfl (by rw [LQ.out]; decide) w4 (HQ.out.up b4.out (Nat.le_refl _)) ?_
  intro v4 hy4
  obtain ⟨a4, c4', rfl⟩ := By.len hy4
  obtain ⟨g4, o4, rfl, _, R4⟩ := hy4.range (by rw [L2.out]; decide)
  have T4 : Hid (w4.there (w.heap.size + 1 + 1 + 1) 0 (q.drop 32).length) := by
    have := Kn.there (us := bR 0) s4.out 1 rfl (by rw [bR_length, bZ_length])
    rw [L2.out]
    rw [bR_length] at this
    exact this
  rw [L2.out]
  refine wp_copyR rfl _ _ rfl (w.heap.size + 1 + 1 + 1) 0 32 32 g4 o4 32 c4' (q.drop 32) rfl rfl (by rw [L2.out]; rfl) R4 T4.out ?_
  intro w5 hw5
  have s5 : Hid (Kn w5 [(w.heap.size + 1 + 1 + 1, bR s), (w.heap.size + 1 + 1, bR R), (w.heap.size + 1, cmZ), (w.heap.size, bR A)]) := by
    rw [hw5.out, Q2.out]
    exact Kn.put (s4.out.front 1 rfl) (by rw [bR_length, bZ_length])
  have b5 : Hid (Below w.heap.size w w5) := by rw [hw5.out]; exact I.below_setCells _ _ _ b4.out (by omega)
  clear hw5 s4 b4 R4 T4 hy4 HQ LQ Q1 Q2 L1 L2
  generalize w.heap.size + 1 + 1 + 1 = ks at *
  generalize w.heap.size + 1 + 1 = kf at *
  go_wp2_with (first | refine wp_ldW rfl 22 _ rfl (w.heap.size) 0 rfl (bR (A)) _ (Kn.rng s5.out 3 rfl) Tryd.underlying22 rfl (info_bR (A)) ?_ | simp only [Act.put, List.setIfInBounds_toArray, List.set_cons_succ, List.set_cons_zero])
  refine (UA _).mono ?_
  rintro e w6 ⟨rfl, hb6⟩
  have s6 : Hid (Kn w6 [(ks, (bR (s))), (kf, (bR (R))), (w.heap.size + 1, cmZ), (w.heap.size, (bR (A)))]) := s5.out.up hb6
  have b6 : Hid (Below w.heap.size w w6) := b5.out.trans (hb6.mono b5.out.size)
  have z6 := b6.out.size
  clear hb6 s5 b5
  have s7 : Hid (Kn (kalP w6 (nO) (nO)) [(w6.heap.size, (c8 (nO) (nO))), (ks, (bR (s))), (kf, (bR (R))), (w.heap.size + 1, cmZ), (w.heap.size, (bR (A)))]) := s6.out.al (c8 (nO) (nO)) 34 rfl
  have b7 : Hid (Below w.heap.size w (kalP w6 (nO) (nO))) := b6.out.alloc b6.out.size _
  have z7 := b6.out.size
  clear s6 b6
  have s8x : Hid (Kn (kalP w6 (nO) (nO)) [(w.heap.size + 1, cmZ), (w6.heap.size, (c8 (nO) (nO))), (ks, (bR (s))), (kf, (bR (R))), (w.heap.size, (bR (A)))]) := s7.out.front 3 rfl
  have b8x : Hid (Below w.heap.size w (kalP w6 (nO) (nO))) := b7.out
  have TT8 : Hid ((kalP w6 (nO) (nO)).there (w.heap.size + 1) 0 (cmR (nO) (nO) (nO)).length) := Kn.there s8x.out 0 rfl (by rw [(cmR_length (nO) (nO) (nO)), cmZ_length])
  go_wp2_with (first | refine wp_buildZ rfl rfl clm_zero ?_ | refine I.wp_store_eq rfl 67 _ _ rfl (w.heap.size + 1) 0 (cmR (nO) (nO) (nO)) rfl rfl TT8.out (info_cmR (nO) (nO) (nO)) (cmR_one (nO) (nO) (nO)) ?_)
  intro w8 hw8
  try simp only [Act.put, List.setIfInBounds_toArray, List.set_cons_succ, List.set_cons_zero]
  have s8 : Hid (Kn w8 [(w.heap.size + 1, (cmR (nO) (nO) (nO))), (w6.heap.size, (c8 (nO) (nO))), (ks, (bR (s))), (kf, (bR (R))), (w.heap.size, (bR (A)))]) := by rw [hw8.out]; exact Kn.put s8x.out (by rw [(cmR_length (nO) (nO) (nO)), cmZ_length])
  have b8 : Hid (Below w.heap.size w w8) := by rw [hw8.out]; exact I.below_setCells _ _ _ b8x.out (by omega)
  have z8 := b8.out.size
  clear hw8 s8x b8x TT8 s7 b7
  go_wp2_with fail
  exact bodyPost_ret (v := .tuple #[cmV nO nO nO, .int .i64 4]) (results_row2 (b := w.heap.size + 1) rfl rfl rfl (Kn.rng s8.out 0 rfl) Tryd.underlying67 rfl (info_cmR (nO) (nO) (nO))) rfl ⟨rfl, b8.out⟩
set_option maxRecDepth 20000 in
set_option maxHeartbeats 4000000 in
theorem sgRead_no2 (A R s g o cu : Nat) (av : Option Addr) (nv cv : Nat) (p q : List Nat) (lq : q.length = 64) (q1 : (q.take 32).map b8 = bR R) (q2 : (q.drop 32).map b8 = bR s) (ax ay : Nm)
    (UA : ∀ w, Calls Tryd.prog 51 #[.agg (bR (A)).toArray] w fun e w' => e = .returned (.tuple #[Wv ax ay, .int .i64 0]) ∧ Below w.heap.size w w')
    (UR : ∀ w, Calls Tryd.prog 51 #[.agg (bR (R)).toArray] w fun e w' => e = .returned (.tuple #[Wv nO nO, .int .i64 4]) ∧ Below w.heap.size w w')
    (w : World) (hv : By w (.slice av nv cv) p) (hq : By w (.slice (some ⟨g, o, none⟩) 64 cu) q) (hT : KTab w) :
    Calls Tryd.prog 25 #[bV A, .slice av nv cv, .slice (some ⟨g, o, none⟩) 64 cu] w fun e w' => e = .returned (.tuple #[cmV nO nO nO, .int .i64 4]) ∧ Below w.heap.size w w' := by
  have HV : Hid (By w (.slice av nv cv) p) := hv
  have HQ : Hid (By w (.slice (some ⟨g, o, none⟩) 64 cu) q) := hq
  have HT : Hid (KTab w) := hT
  have LQ : Hid (q.length = 64) := lq
  have Q1 : Hid ((q.take 32).map b8 = bR R) := q1
  have Q2 : Hid ((q.drop 32).map b8 = bR s) := q2
  have L1 : Hid ((q.take 32).length = 32) := by show _ = _; rw [List.length_take, lq]; rfl
  have L2 : Hid ((q.drop 32).length = 32) := by show _ = _; rw [List.length_drop, lq]
  clear hv hq hT lq q1 q2
  go_enter Tryd.func25, Tryd.ntmps25
  have s0 : Hid (Kn ((w.alloc (.cells (bR (A)).toArray 22)).alloc (.cells #[Value.int IntKind.u64 0, Value.int IntKind.u64 0, Value.int IntKind.u64 0, Value.int IntKind.u64 0, Value.int IntKind.u64 0, Value.int IntKind.u64 0, Value.int IntKind.u64 0, Value.int IntKind.u64 0, Value.int IntKind.u64 0, Value.int IntKind.u64 0, Value.int IntKind.u64 0, Value.int IntKind.u64 0] 67)) [(w.heap.size + 1, cmZ), (w.heap.size, (bR (A)))]) := (((Kn.nil w).al (bR (A)) 22 rfl).al cmZ 67 (by simp))
  have b0 : Hid (Below w.heap.size w ((w.alloc (.cells (bR (A)).toArray 22)).alloc (.cells #[Value.int IntKind.u64 0, Value.int IntKind.u64 0, Value.int IntKind.u64 0, Value.int IntKind.u64 0, Value.int IntKind.u64 0, Value.int IntKind.u64 0, Value.int IntKind.u64 0, Value.int IntKind.u64 0, Value.int IntKind.u64 0, Value.int IntKind.u64 0, Value.int IntKind.u64 0, Value.int IntKind.u64 0] 67))) := (((Below.refl _ _).alloc (Nat.le_refl _) _).alloc (by simp <;> omega) _)
  have s1 : Hid (Kn (((w.alloc (.cells (bR (A)).toArray 22)).alloc (.cells #[Value.int IntKind.u64 0, Value.int IntKind.u64 0, Value.int IntKind.u64 0, Value.int IntKind.u64 0, Value.int IntKind.u64 0, Value.int IntKind.u64 0, Value.int IntKind.u64 0, Value.int IntKind.u64 0, Value.int IntKind.u64 0, Value.int IntKind.u64 0, Value.int IntKind.u64 0, Value.int IntKind.u64 0] 67)).alloc (.cells #[Value.int IntKind.u8 0, Value.int IntKind.u8 0, Value.int IntKind.u8 0, Value.int IntKind.u8 0, Value.int IntKind.u8 0, Value.int IntKind.u8 0, Value.int IntKind.u8 0, Value.int IntKind.u8 0, Value.int IntKind.u8 0, Value.int IntKind.u8 0, Value.int IntKind.u8 0, Value.int IntKind.u8 0, Value.int IntKind.u8 0, Value.int IntKind.u8 0, Value.int IntKind.u8 0, Value.int IntKind.u8 0, Value.int IntKind.u8 0, Value.int IntKind.u8 0, Value.int IntKind.u8 0, Value.int IntKind.u8 0, Value.int IntKind.u8 0, Value.int IntKind.u8 0, Value.int IntKind.u8 0, Value.int IntKind.u8 0, Value.int IntKind.u8 0, Value.int IntKind.u8 0, Value.int IntKind.u8 0, Value.int IntKind.u8 0, Value.int IntKind.u8 0, Value.int IntKind.u8 0, Value.int IntKind.u8 0, Value.int IntKind.u8 0] 22)) [(w.heap.size + 1 + 1, bZ), (w.heap.size + 1, cmZ), (w.heap.size, (bR (A)))]) := s0.out.al bZ 22 (by simp)
  have b1 : Hid (Below w.heap.size w (((w.alloc (.cells (bR (A)).toArray 22)).alloc (.cells #[Value.int IntKind.u64 0, Value.int IntKind.u64 0, Value.int IntKind.u64 0, Value.int IntKind.u64 0, Value.int IntKind.u64 0, Value.int IntKind.u64 0, Value.int IntKind.u64 0, Value.int IntKind.u64 0, Value.int IntKind.u64 0, Value.int IntKind.u64 0, Value.int IntKind.u64 0, Value.int IntKind.u64 0] 67)).alloc (.cells #[Value.int IntKind.u8 0, Value.int IntKind.u8 0, Value.int IntKind.u8 0, Value.int IntKind.u8 0, Value.int IntKind.u8 0, Value.int IntKind.u8 0, Value.int IntKind.u8 0, Value.int IntKind.u8 0, Value.int IntKind.u8 0, Value.int IntKind.u8 0, Value.int IntKind.u8 0, Value.int IntKind.u8 0, Value.int IntKind.u8 0, Value.int IntKind.u8 0, Value.int IntKind.u8 0, Value.int IntKind.u8 0, Value.int IntKind.u8 0, Value.int IntKind.u8 0, Value.int IntKind.u8 0, Value.int IntKind.u8 0, Value.int IntKind.u8 0, Value.int IntKind.u8 0, Value.int IntKind.u8 0, Value.int IntKind.u8 0, Value.int IntKind.u8 0, Value.int IntKind.u8 0, Value.int IntKind.u8 0, Value.int IntKind.u8 0, Value.int IntKind.u8 0, Value.int IntKind.u8 0, Value.int IntKind.u8 0, Value.int IntKind.u8 0] 22))) := b0.out.alloc b0.out.size _
  have z1 := b0.out.size
  clear s0 b0
  have s2 : Hid (Kn ((((w.alloc (.cells (bR (A)).toArray 22)).alloc (.cells #[Value.int IntKind.u64 0, Value.int IntKind.u64 0, Value.int IntKind.u64 0, Value.int IntKind.u64 0, Value.int IntKind.u64 0, Value.int IntKind.u64 0, Value.int IntKind.u64 0, Value.int IntKind.u64 0, Value.int IntKind.u64 0, Value.int IntKind.u64 0, Value.int IntKind.u64 0, Value.int IntKind.u64 0] 67)).alloc (.cells #[Value.int IntKind.u8 0, Value.int IntKind.u8 0, Value.int IntKind.u8 0, Value.int IntKind.u8 0, Value.int IntKind.u8 0, Value.int IntKind.u8 0, Value.int IntKind.u8 0, Value.int IntKind.u8 0, Value.int IntKind.u8 0, Value.int IntKind.u8 0, Value.int IntKind.u8 0, Value.int IntKind.u8 0, Value.int IntKind.u8 0, Value.int IntKind.u8 0, Value.int IntKind.u8 0, Value.int IntKind.u8 0, Value.int IntKind.u8 0, Value.int IntKind.u8 0, Value.int IntKind.u8 0, Value.int IntKind.u8 0, Value.int IntKind.u8 0, Value.int IntKind.u8 0, Value.int IntKind.u8 0, Value.int IntKind.u8 0, Value.int IntKind.u8 0, Value.int IntKind.u8 0, Value.int IntKind.u8 0, Value.int IntKind.u8 0, Value.int IntKind.u8 0, Value.int IntKind.u8 0, Value.int IntKind.u8 0, Value.int IntKind.u8 0] 22)).alloc (.cells #[Value.int IntKind.u8 0, Value.int IntKind.u8 0, Value.int IntKind.u8 0, Value.int IntKind.u8 0, Value.int IntKind.u8 0, Value.int IntKind.u8 0, Value.int IntKind.u8 0, Value.int IntKind.u8 0, Value.int IntKind.u8 0, Value.int IntKind.u8 0, Value.int IntKind.u8 0, Value.int IntKind.u8 0, Value.int IntKind.u8 0, Value.int IntKind.u8 0, Value.int IntKind.u8 0, Value.int IntKind.u8 0, Value.int IntKind.u8 0, Value.int IntKind.u8 0, Value.int IntKind.u8 0, Value.int IntKind.u8 0, Value.int IntKind.u8 0, Value.int IntKind.u8 0, Value.int IntKind.u8 0, Value.int IntKind.u8 0, Value.int IntKind.u8 0, Value.int IntKind.u8 0, Value.int IntKind.u8 0, Value.int IntKind.u8 0, Value.int IntKind.u8 0, Value.int IntKind.u8 0, Value.int IntKind.u8 0, Value.int IntKind.u8 0] 22)) [(w.heap.size + 1 + 1 + 1, bZ), (w.heap.size + 1 + 1, bZ), (w.heap.size + 1, cmZ), (w.heap.size, (bR (A)))]) := s1.out.al bZ 22 (by simp)
  have b2 : Hid (Below w.heap.size w ((((w.alloc (.cells (bR (A)).toArray 22)).alloc (.cells #[Value.int IntKind.u64 0, Value.int IntKind.u64 0, Value.int IntKind.u64 0, Value.int IntKind.u64 0, Value.int IntKind.u64 0, Value.int IntKind.u64 0, Value.int IntKind.u64 0, Value.int IntKind.u64 0, Value.int IntKind.u64 0, Value.int IntKind.u64 0, Value.int IntKind.u64 0, Value.int IntKind.u64 0] 67)).alloc (.cells #[Value.int IntKind.u8 0, Value.int IntKind.u8 0, Value.int IntKind.u8 0, Value.int IntKind.u8 0, Value.int IntKind.u8 0, Value.int IntKind.u8 0, Value.int IntKind.u8 0, Value.int IntKind.u8 0, Value.int IntKind.u8 0, Value.int IntKind.u8 0, Value.int IntKind.u8 0, Value.int IntKind.u8 0, Value.int IntKind.u8 0, Value.int IntKind.u8 0, Value.int IntKind.u8 0, Value.int IntKind.u8 0, Value.int IntKind.u8 0, Value.int IntKind.u8 0, Value.int IntKind.u8 0, Value.int IntKind.u8 0, Value.int IntKind.u8 0, Value.int IntKind.u8 0, Value.int IntKind.u8 0, Value.int IntKind.u8 0, Value.int IntKind.u8 0, Value.int IntKind.u8 0, Value.int IntKind.u8 0, Value.int IntKind.u8 0, Value.int IntKind.u8 0, Value.int IntKind.u8 0, Value.int IntKind.u8 0, Value.int IntKind.u8 0] 22)).alloc (.cells #[Value.int IntKind.u8 0, Value.int IntKind.u8 0, Value.int IntKind.u8 0, Value.int IntKind.u8 0, Value.int IntKind.u8 0, Value.int IntKind.u8 0, Value.int IntKind.u8 0, Value.int IntKind.u8 0, Value.int IntKind.u8 0, Value.int IntKind.u8 0, Value.int IntKind.u8 0, Value.int IntKind.u8 0, Value.int IntKind.u8 0, Value.int IntKind.u8 0, Value.int IntKind.u8 0, Value.int IntKind.u8 0, Value.int IntKind.u8 0, Value.int IntKind.u8 0, Value.int IntKind.u8 0, Value.int IntKind.u8 0, Value.int IntKind.u8 0, Value.int IntKind.u8 0, Value.int IntKind.u8 0, Value.int IntKind.u8 0, Value.int IntKind.u8 0, Value.int IntKind.u8 0, Value.int IntKind.u8 0, Value.int IntKind.u8 0, Value.int IntKind.u8 0, Value.int IntKind.u8 0, Value.int IntKind.u8 0, Value.int IntKind.u8 0] 22))) := b1.out.alloc b1.out.size _
  have z2 := b1.out.size
  clear s1 b1
  have R1 : Hid (((((w.alloc (.cells (bR A).toArray 22)).alloc (.cells #[Value.int IntKind.u64 0, Value.int IntKind.u64 0, Value.int IntKind.u64 0, Value.int IntKind.u64 0, Value.int IntKind.u64 0, Value.int IntKind.u64 0, Value.int IntKind.u64 0, Value.int IntKind.u64 0, Value.int IntKind.u64 0, Value.int IntKind.u64 0, Value.int IntKind.u64 0, Value.int IntKind.u64 0] 67)).alloc (.cells #[Value.int IntKind.u8 0, Value.int IntKind.u8 0, Value.int IntKind.u8 0, Value.int IntKind.u8 0, Value.int IntKind.u8 0, Value.int IntKind.u8 0, Value.int IntKind.u8 0, Value.int IntKind.u8 0, Value.int IntKind.u8 0, Value.int IntKind.u8 0, Value.int IntKind.u8 0, Value.int IntKind.u8 0, Value.int IntKind.u8 0, Value.int IntKind.u8 0, Value.int IntKind.u8 0, Value.int IntKind.u8 0, Value.int IntKind.u8 0, Value.int IntKind.u8 0, Value.int IntKind.u8 0, Value.int IntKind.u8 0, Value.int IntKind.u8 0, Value.int IntKind.u8 0, Value.int IntKind.u8 0, Value.int IntKind.u8 0, Value.int IntKind.u8 0, Value.int IntKind.u8 0, Value.int IntKind.u8 0, Value.int IntKind.u8 0, Value.int IntKind.u8 0, Value.int IntKind.u8 0, Value.int IntKind.u8 0, Value.int IntKind.u8 0] 22)).alloc (.cells #[Value.int IntKind.u8 0, Value.int IntKind.u8 0, Value.int IntKind.u8 0, Value.int IntKind.u8 0, Value.int IntKind.u8 0, Value.int IntKind.u8 0, Value.int IntKind.u8 0, Value.int IntKind.u8 0, Value.int IntKind.u8 0, Value.int IntKind.u8 0, Value.int IntKind.u8 0, Value.int IntKind.u8 0, Value.int IntKind.u8 0, Value.int IntKind.u8 0, Value.int IntKind.u8 0, Value.int IntKind.u8 0, Value.int IntKind.u8 0, Value.int IntKind.u8 0, Value.int IntKind.u8 0, Value.int IntKind.u8 0, Value.int IntKind.u8 0, Value.int IntKind.u8 0, Value.int IntKind.u8 0, Value.int IntKind.u8 0, Value.int IntKind.u8 0, Value.int IntKind.u8 0, Value.int IntKind.u8 0, Value.int IntKind.u8 0, Value.int IntKind.u8 0, Value.int IntKind.u8 0, Value.int IntKind.u8 0, Value.int IntKind.u8 0] 22)).rangeAt g o ((q.take 32).map b8)) := By.rng_take (HQ.out.up b2.out (Nat.le_refl _)) 32
  have T1 : Hid (((((w.alloc (.cells (bR A).toArray 22)).alloc (.cells #[Value.int IntKind.u64 0, Value.int IntKind.u64 0, Value.int IntKind.u64 0, Value.int IntKind.u64 0, Value.int IntKind.u64 0, Value.int IntKind.u64 0, Value.int IntKind.u64 0, Value.int IntKind.u64 0, Value.int IntKind.u64 0, Value.int IntKind.u64 0, Value.int IntKind.u64 0, Value.int IntKind.u64 0] 67)).alloc (.cells #[Value.int IntKind.u8 0, Value.int IntKind.u8 0, Value.int IntKind.u8 0, Value.int IntKind.u8 0, Value.int IntKind.u8 0, Value.int IntKind.u8 0, Value.int IntKind.u8 0, Value.int IntKind.u8 0, Value.int IntKind.u8 0, Value.int IntKind.u8 0, Value.int IntKind.u8 0, Value.int IntKind.u8 0, Value.int IntKind.u8 0, Value.int IntKind.u8 0, Value.int IntKind.u8 0, Value.int IntKind.u8 0, Value.int IntKind.u8 0, Value.int IntKind.u8 0, Value.int IntKind.u8 0, Value.int IntKind.u8 0, Value.int IntKind.u8 0, Value.int IntKind.u8 0, Value.int IntKind.u8 0, Value.int IntKind.u8 0, Value.int IntKind.u8 0, Value.int IntKind.u8 0, Value.int IntKind.u8 0, Value.int IntKind.u8 0, Value.int IntKind.u8 0, Value.int IntKind.u8 0, Value.int IntKind.u8 0, Value.int IntKind.u8 0] 22)).alloc (.cells #[Value.int IntKind.u8 0, Value.int IntKind.u8 0, Value.int IntKind.u8 0, Value.int IntKind.u8 0, Value.int IntKind.u8 0, Value.int IntKind.u8 0, Value.int IntKind.u8 0, Value.int IntKind.u8 0, Value.int IntKind.u8 0, Value.int IntKind.u8 0, Value.int IntKind.u8 0, Value.int IntKind.u8 0, Value.int IntKind.u8 0, Value.int IntKind.u8 0, Value.int IntKind.u8 0, Value.int IntKind.u8 0, Value.int IntKind.u8 0, Value.int IntKind.u8 0, Value.int IntKind.u8 0, Value.int IntKind.u8 0, Value.int IntKind.u8 0, Value.int IntKind.u8 0, Value.int IntKind.u8 0, Value.int IntKind.u8 0, Value.int IntKind.u8 0, Value.int IntKind.u8 0, Value.int IntKind.u8 0, Value.int IntKind.u8 0, Value.int IntKind.u8 0, Value.int IntKind.u8 0, Value.int IntKind.u8 0, Value.int IntKind.u8 0] 22)).there (w.heap.size + 1 + 1) 0 (q.take 32).length) := by
    have := Kn.there (us := bR 0) s2.out 1 rfl (by rw [bR_length, bZ_length])
    rw [L1.out]
    rw [bR_length] at this
    exact this
  go_wp2_with (first | simp only [zero_clm] | simp only [zero_b32] | refine wp_all32 rfl _ rfl (w.heap.size + 1 + 1) rfl ?_ | refine wp_copyR rfl _ _ rfl (w.heap.size + 1 + 1) 0 32 32 g o 64 cu (q.take 32) rfl rfl (by rw [L1.out]; rfl) R1.out T1.out ?_)
  intro w3 hw3
  have s3 : Hid (Kn w3 [(w.heap.size + 1 + 1, bR R), (w.heap.size + 1 + 1 + 1, bZ), (w.heap.size + 1, cmZ), (w.heap.size, bR A)]) := by
    rw [hw3.out, Q1.out]
    exact Kn.put (s2.out.front 1 rfl) (by rw [bR_length, bZ_length])
  have b3 : Hid (Below w.heap.size w w3) := by rw [hw3.out]; exact I.below_setCells _ _ _ b2.out (by omega)
  clear hw3 s2 b2 R1 T1
  go_wp2_with fail
  refine wp_region_two 0 1 [2, 3] [_, _] (.slice (some ⟨w.heap.size + 1 + 1 + 1, 0, none⟩) 32 32) (.slice (some ⟨g, o, none⟩) 64 cu) (by kernel_rfl) (by kernel_rfl) (fun _ _ d _ _ h => by cases d <;> exact h) rfl rfl (by kernel_rfl) (by kernel_rfl) rfl rfl (by kernel_rfl) (.inl ⟨rfl, exec_all32 _ rfl _ rfl⟩) (.inl ⟨rfl, exec_mv _ rfl rfl⟩) ?_
  intro w4 hb4 hh4
  clear hh4
  simp only [Act.put, List.setIfInBounds_toArray, List.set_cons_succ, List.set_cons_zero, List.getElem_toArray, List.getElem_cons_zero, List.getElem_cons_succ]
  have s4 : Hid (Kn w4 [(w.heap.size + 1 + 1, bR R), (w.heap.size + 1 + 1 + 1, bZ), (w.heap.size + 1, cmZ), (w.heap.size, bR A)]) := s3.out.up hb4.out
  have b4 : Hid (Below w.heap.size w w4) := b3.out.trans (hb4.out.mono b3.out.size)
  clear s3 b3 hb4
  refine wp_cutB rfl _ _ rfl (some ⟨g, o, none⟩) 64 cu 32 .i64 32 q rfl LQ.out.symm rfl rfl (by rw [LQ.out]; decide) w4 (HQ.out.up b4.out (Nat.le_refl _)) ?_
  intro v4 hy4
  obtain ⟨a4, c4', rfl⟩ := By.len hy4
  obtain ⟨g4, o4, rfl, _, R4⟩ := hy4.range (by rw [L2.out]; decide)
  have T4 : Hid (w4.there (w.heap.size + 1 + 1 + 1) 0 (q.drop 32).length) := by
    have := Kn.there (us := bR 0) s4.out 1 rfl (by rw [bR_length, bZ_length])
    rw [L2.out]
    rw [bR_length] at this
    exact this
  rw [L2.out]
  refine wp_copyR rfl _ _ rfl (w.heap.size + 1 + 1 + 1) 0 32 32 g4 o4 32 c4' (q.drop 32) rfl rfl (by rw [L2.out]; rfl) R4 T4.out ?_
  intro w5 hw5
  have s5 : Hid (Kn w5 [(w.heap.size + 1 + 1 + 1, bR s), (w.heap.size + 1 + 1, bR R), (w.heap.size + 1, cmZ), (w.heap.size, bR A)]) := by
    rw [hw5.out, Q2.out]
    exact Kn.put (s4.out.front 1 rfl) (by rw [bR_length, bZ_length])
  have b5 : Hid (Below w.heap.size w w5) := by rw [hw5.out]; exact I.below_setCells _ _ _ b4.out (by omega)
  clear hw5 s4 b4 R4 T4 hy4 HQ LQ Q1 Q2 L1 L2
  generalize w.heap.size + 1 + 1 + 1 = ks at *
  generalize w.heap.size + 1 + 1 = kf at *
  go_wp2_with (first | refine wp_ldW rfl 22 _ rfl (w.heap.size) 0 rfl (bR (A)) _ (Kn.rng s5.out 3 rfl) Tryd.underlying22 rfl (info_bR (A)) ?_ | simp only [Act.put, List.setIfInBounds_toArray, List.set_cons_succ, List.set_cons_zero])
  refine (UA _).mono ?_
  rintro e w6 ⟨rfl, hb6⟩
  have s6 : Hid (Kn w6 [(ks, (bR (s))), (kf, (bR (R))), (w.heap.size + 1, cmZ), (w.heap.size, (bR (A)))]) := s5.out.up hb6
  have b6 : Hid (Below w.heap.size w w6) := b5.out.trans (hb6.mono b5.out.size)
  have z6 := b6.out.size
  clear hb6 s5 b5
  have s7 : Hid (Kn (kalP w6 (ax) (ay)) [(w6.heap.size, (c8 (ax) (ay))), (ks, (bR (s))), (kf, (bR (R))), (w.heap.size + 1, cmZ), (w.heap.size, (bR (A)))]) := s6.out.al (c8 (ax) (ay)) 34 rfl
  have b7 : Hid (Below w.heap.size w (kalP w6 (ax) (ay))) := b6.out.alloc b6.out.size _
  have z7 := b6.out.size
  clear s6 b6
  go_wp2_with (first | refine wp_ldW rfl 22 _ rfl kf 0 rfl (bR (R)) _ (Kn.rng s7.out 2 rfl) Tryd.underlying22 rfl (info_bR (R)) ?_)
  refine (UR _).mono ?_
  rintro e w8 ⟨rfl, hb8⟩
  have s8 : Hid (Kn w8 [(w6.heap.size, (c8 (ax) (ay))), (ks, (bR (s))), (kf, (bR (R))), (w.heap.size + 1, cmZ), (w.heap.size, (bR (A)))]) := s7.out.up hb8
  have b8 : Hid (Below w.heap.size w w8) := b7.out.trans (hb8.mono b7.out.size)
  have z8 := b8.out.size
  clear hb8 s7 b7
  have s9 : Hid (Kn (kalP w8 (nO) (nO)) [(w8.heap.size, (c8 (nO) (nO))), (w6.heap.size, (c8 (ax) (ay))), (ks, (bR (s))), (kf, (bR (R))), (w.heap.size + 1, cmZ), (w.heap.size, (bR (A)))]) := s8.out.al (c8 (nO) (nO)) 34 rfl
  have b9 : Hid (Below w.heap.size w (kalP w8 (nO) (nO))) := b8.out.alloc b8.out.size _
  have z9 := b8.out.size
  clear s8 b8
  have s10x : Hid (Kn (kalP w8 (nO) (nO)) [(w.heap.size + 1, cmZ), (w8.heap.size, (c8 (nO) (nO))), (w6.heap.size, (c8 (ax) (ay))), (ks, (bR (s))), (kf, (bR (R))), (w.heap.size, (bR (A)))]) := s9.out.front 4 rfl
  have b10x : Hid (Below w.heap.size w (kalP w8 (nO) (nO))) := b9.out
  have TT10 : Hid ((kalP w8 (nO) (nO)).there (w.heap.size + 1) 0 (cmR (nO) (nO) (nO)).length) := Kn.there s10x.out 0 rfl (by rw [(cmR_length (nO) (nO) (nO)), cmZ_length])
  go_wp2_with (first | refine wp_buildZ rfl rfl clm_zero ?_ | refine I.wp_store_eq rfl 67 _ _ rfl (w.heap.size + 1) 0 (cmR (nO) (nO) (nO)) rfl rfl TT10.out (info_cmR (nO) (nO) (nO)) (cmR_one (nO) (nO) (nO)) ?_)
  intro w10 hw10
  try simp only [Act.put, List.setIfInBounds_toArray, List.set_cons_succ, List.set_cons_zero]
  have s10 : Hid (Kn w10 [(w.heap.size + 1, (cmR (nO) (nO) (nO))), (w8.heap.size, (c8 (nO) (nO))), (w6.heap.size, (c8 (ax) (ay))), (ks, (bR (s))), (kf, (bR (R))), (w.heap.size, (bR (A)))]) := by rw [hw10.out]; exact Kn.put s10x.out (by rw [(cmR_length (nO) (nO) (nO)), cmZ_length])
  have b10 : Hid (Below w.heap.size w w10) := by rw [hw10.out]; exact I.below_setCells _ _ _ b10x.out (by omega)
  have z10 := b10.out.size
  clear hw10 s10x b10x TT10 s9 b9
  go_wp2_with fail
  exact bodyPost_ret (v := .tuple #[cmV nO nO nO, .int .i64 4]) (results_row2 (b := w.heap.size + 1) rfl rfl rfl (Kn.rng s10.out 0 rfl) Tryd.underlying67 rfl (info_cmR (nO) (nO) (nO))) rfl ⟨rfl, b10.out⟩
set_option maxRecDepth 20000 in
set_option maxHeartbeats 4000000 in
theorem sgRead_big (A R s g o cu : Nat) (av : Option Addr) (nv cv : Nat) (p q : List Nat) (lq : q.length = 64) (q1 : (q.take 32).map b8 = bR R) (q2 : (q.drop 32).map b8 = bR s) (ax ay rx ry so lm : Nm) (c : Int) (hc : c = 0 ∨ c = 1)
    (UA : ∀ w, Calls Tryd.prog 51 #[.agg (bR (A)).toArray] w fun e w' => e = .returned (.tuple #[Wv ax ay, .int .i64 0]) ∧ Below w.heap.size w w')
    (UR : ∀ w, Calls Tryd.prog 51 #[.agg (bR (R)).toArray] w fun e w' => e = .returned (.tuple #[Wv rx ry, .int .i64 0]) ∧ Below w.heap.size w w')
    (OF : ∀ w, Calls Tryd.prog 52 #[.agg (bR (s)).toArray] w fun e w' => e = .returned (N so) ∧ Below w.heap.size w w')
    (SL : ∀ w, Calls Tryd.prog 11 #[] w fun e w' => e = .returned (N lm) ∧ Below w.heap.size w w')
    (CM : ∀ w, Calls Tryd.prog 10 #[N so, N lm] w fun e w' => e = .returned (.int .i64 c) ∧ Below w.heap.size w w')
    (w : World) (hv : By w (.slice av nv cv) p) (hq : By w (.slice (some ⟨g, o, none⟩) 64 cu) q) (hT : KTab w) :
    Calls Tryd.prog 25 #[bV A, .slice av nv cv, .slice (some ⟨g, o, none⟩) 64 cu] w fun e w' => e = .returned (.tuple #[cmV nO nO nO, .int .i64 4]) ∧ Below w.heap.size w w' := by
  rcases hc with rfl | rfl
  · have HV : Hid (By w (.slice av nv cv) p) := hv
    have HQ : Hid (By w (.slice (some ⟨g, o, none⟩) 64 cu) q) := hq
    have HT : Hid (KTab w) := hT
    have LQ : Hid (q.length = 64) := lq
    have Q1 : Hid ((q.take 32).map b8 = bR R) := q1
    have Q2 : Hid ((q.drop 32).map b8 = bR s) := q2
    have L1 : Hid ((q.take 32).length = 32) := by show _ = _; rw [List.length_take, lq]; rfl
    have L2 : Hid ((q.drop 32).length = 32) := by show _ = _; rw [List.length_drop, lq]
    clear hv hq hT lq q1 q2
    go_enter Tryd.func25, Tryd.ntmps25
    have s0 : Hid (Kn ((w.alloc (.cells (bR (A)).toArray 22)).alloc (.cells #[Value.int IntKind.u64 0, Value.int IntKind.u64 0, Value.int IntKind.u64 0, Value.int IntKind.u64 0, Value.int IntKind.u64 0, Value.int IntKind.u64 0, Value.int IntKind.u64 0, Value.int IntKind.u64 0, Value.int IntKind.u64 0, Value.int IntKind.u64 0, Value.int IntKind.u64 0, Value.int IntKind.u64 0] 67)) [(w.heap.size + 1, cmZ), (w.heap.size, (bR (A)))]) := (((Kn.nil w).al (bR (A)) 22 rfl).al cmZ 67 (by simp))
    have b0 : Hid (Below w.heap.size w ((w.alloc (.cells (bR (A)).toArray 22)).alloc (.cells #[Value.int IntKind.u64 0, Value.int IntKind.u64 0, Value.int IntKind.u64 0, Value.int IntKind.u64 0, Value.int IntKind.u64 0, Value.int IntKind.u64 0, Value.int IntKind.u64 0, Value.int IntKind.u64 0, Value.int IntKind.u64 0, Value.int IntKind.u64 0, Value.int IntKind.u64 0, Value.int IntKind.u64 0] 67))) := (((Below.refl _ _).alloc (Nat.le_refl _) _).alloc (by simp <;> omega) _)
    have s1 : Hid (Kn (((w.alloc (.cells (bR (A)).toArray 22)).alloc (.cells #[Value.int IntKind.u64 0, Value.int IntKind.u64 0, Value.int IntKind.u64 0, Value.int IntKind.u64 0, Value.int IntKind.u64 0, Value.int IntKind.u64 0, Value.int IntKind.u64 0, Value.int IntKind.u64 0, Value.int IntKind.u64 0, Value.int IntKind.u64 0, Value.int IntKind.u64 0, Value.int IntKind.u64 0] 67)).alloc (.cells #[Value.int IntKind.u8 0, Value.int IntKind.u8 0, Value.int IntKind.u8 0, Value.int IntKind.u8 0, Value.int IntKind.u8 0, Value.int IntKind.u8 0, Value.int IntKind.u8 0, Value.int IntKind.u8 0, Value.int IntKind.u8 0, Value.int IntKind.u8 0, Value.int IntKind.u8 0, Value.int IntKind.u8 0, Value.int IntKind.u8 0, Value.int IntKind.u8 0, Value.int IntKind.u8 0, Value.int IntKind.u8 0, Value.int IntKind.u8 0, Value.int IntKind.u8 0, Value.int IntKind.u8 0, Value.int IntKind.u8 0, Value.int IntKind.u8 0, Value.int IntKind.u8 0, Value.int IntKind.u8 0, Value.int IntKind.u8 0, Value.int IntKind.u8 0, Value.int IntKind.u8 0, Value.int IntKind.u8 0, Value.int IntKind.u8 0, Value.int IntKind.u8 0, Value.int IntKind.u8 0, Value.int IntKind.u8 0, Value.int IntKind.u8 0] 22)) [(w.heap.size + 1 + 1, bZ), (w.heap.size + 1, cmZ), (w.heap.size, (bR (A)))]) := s0.out.al bZ 22 (by simp)
    have b1 : Hid (Below w.heap.size w (((w.alloc (.cells (bR (A)).toArray 22)).alloc (.cells #[Value.int IntKind.u64 0, Value.int IntKind.u64 0, Value.int IntKind.u64 0, Value.int IntKind.u64 0, Value.int IntKind.u64 0, Value.int IntKind.u64 0, Value.int IntKind.u64 0, Value.int IntKind.u64 0, Value.int IntKind.u64 0, Value.int IntKind.u64 0, Value.int IntKind.u64 0, Value.int IntKind.u64 0] 67)).alloc (.cells #[Value.int IntKind.u8 0, Value.int IntKind.u8 0, Value.int IntKind.u8 0, Value.int IntKind.u8 0, Value.int IntKind.u8 0, Value.int IntKind.u8 0, Value.int IntKind.u8 0, Value.int IntKind.u8 0, Value.int IntKind.u8 0, Value.int IntKind.u8 0, Value.int IntKind.u8 0, Value.int IntKind.u8 0, Value.int IntKind.u8 0, Value.int IntKind.u8 0, Value.int IntKind.u8 0, Value.int IntKind.u8 0, Value.int IntKind.u8 0, Value.int IntKind.u8 0, Value.int IntKind.u8 0, Value.int IntKind.u8 0, Value.int IntKind.u8 0, Value.int IntKind.u8 0, Value.int IntKind.u8 0, Value.int IntKind.u8 0, Value.int IntKind.u8 0, Value.int IntKind.u8 0, Value.int IntKind.u8 0, Value.int IntKind.u8 0, Value.int IntKind.u8 0, Value.int IntKind.u8 0, Value.int IntKind.u8 0, Value.int IntKind.u8 0] 22))) := b0.out.alloc b0.out.size _
    have z1 := b0.out.size
    clear s0 b0
    have s2 : Hid (Kn ((((w.alloc (.cells (bR (A)).toArray 22)).alloc (.cells #[Value.int IntKind.u64 0, Value.int IntKind.u64 0, Value.int IntKind.u64 0, Value.int IntKind.u64 0, Value.int IntKind.u64 0, Value.int IntKind.u64 0, Value.int IntKind.u64 0, Value.int IntKind.u64 0, Value.int IntKind.u64 0, Value.int IntKind.u64 0, Value.int IntKind.u64 0, Value.int IntKind.u64 0] 67)).alloc (.cells #[Value.int IntKind.u8 0, Value.int IntKind.u8 0, Value.int IntKind.u8 0, Value.int IntKind.u8 0, Value.int IntKind.u8 0, Value.int IntKind.u8 0, Value.int IntKind.u8 0, Value.int IntKind.u8 0, Value.int IntKind.u8 0, Value.int IntKind.u8 0, Value.int IntKind.u8 0, Value.int IntKind.u8 0, Value.int IntKind.u8 0, Value.int IntKind.u8 0, Value.int IntKind.u8 0, Value.int IntKind.u8 0, Value.int IntKind.u8 0, Value.int IntKind.u8 0, Value.int IntKind.u8 0, Value.int IntKind.u8 0, Value.int IntKind.u8 0, Value.int IntKind.u8 0, Value.int IntKind.u8 0, Value.int IntKind.u8 0, Value.int IntKind.u8 0, Value.int IntKind.u8 0, Value.int IntKind.u8 0, Value.int IntKind.u8 0, Value.int IntKind.u8 0, Value.int IntKind.u8 0, Value.int IntKind.u8 0, Value.int IntKind.u8 0] 22)).alloc (.cells #[Value.int IntKind.u8 0, Value.int IntKind.u8 0, Value.int IntKind.u8 0, Value.int IntKind.u8 0, Value.int IntKind.u8 0, Value.int IntKind.u8 0, Value.int IntKind.u8 0, Value.int IntKind.u8 0, Value.int IntKind.u8 0, Value.int IntKind.u8 0, Value.int IntKind.u8 0, Value.int IntKind.u8 0, Value.int IntKind.u8 0, Value.int IntKind.u8 0, Value.int IntKind.u8 0, Value.int IntKind.u8 0, Value.int IntKind.u8 0, Value.int IntKind.u8 0, Value.int IntKind.u8 0, Value.int IntKind.u8 0, Value.int IntKind.u8 0, Value.int IntKind.u8 0, Value.int IntKind.u8 0, Value.int IntKind.u8 0, Value.int IntKind.u8 0, Value.int IntKind.u8 0, Value.int IntKind.u8 0, Value.int IntKind.u8 0, Value.int IntKind.u8 0, Value.int IntKind.u8 0, Value.int IntKind.u8 0, Value.int IntKind.u8 0] 22)) [(w.heap.size + 1 + 1 + 1, bZ), (w.heap.size + 1 + 1, bZ), (w.heap.size + 1, cmZ), (w.heap.size, (bR (A)))]) := s1.out.al bZ 22 (by simp)
    have b2 : Hid (Below w.heap.size w ((((w.alloc (.cells (bR (A)).toArray 22)).alloc (.cells #[Value.int IntKind.u64 0, Value.int IntKind.u64 0, Value.int IntKind.u64 0, Value.int IntKind.u64 0, Value.int IntKind.u64 0, Value.int IntKind.u64 0, Value.int IntKind.u64 0, Value.int IntKind.u64 0, Value.int IntKind.u64 0, Value.int IntKind.u64 0, Value.int IntKind.u64 0, Value.int IntKind.u64 0] 67)).alloc (.cells #[Value.int IntKind.u8 0, Value.int IntKind.u8 0, Value.int IntKind.u8 0, Value.int IntKind.u8 0, Value.int IntKind.u8 0, Value.int IntKind.u8 0, Value.int IntKind.u8 0, Value.int IntKind.u8 0, Value.int IntKind.u8 0, Value.int IntKind.u8 0, Value.int IntKind.u8 0, Value.int IntKind.u8 0, Value.int IntKind.u8 0, Value.int IntKind.u8 0, Value.int IntKind.u8 0, Value.int IntKind.u8 0, Value.int IntKind.u8 0, Value.int IntKind.u8 0, Value.int IntKind.u8 0, Value.int IntKind.u8 0, Value.int IntKind.u8 0, Value.int IntKind.u8 0, Value.int IntKind.u8 0, Value.int IntKind.u8 0, Value.int IntKind.u8 0, Value.int IntKind.u8 0, Value.int IntKind.u8 0, Value.int IntKind.u8 0, Value.int IntKind.u8 0, Value.int IntKind.u8 0, Value.int IntKind.u8 0, Value.int IntKind.u8 0] 22)).alloc (.cells #[Value.int IntKind.u8 0, Value.int IntKind.u8 0, Value.int IntKind.u8 0, Value.int IntKind.u8 0, Value.int IntKind.u8 0, Value.int IntKind.u8 0, Value.int IntKind.u8 0, Value.int IntKind.u8 0, Value.int IntKind.u8 0, Value.int IntKind.u8 0, Value.int IntKind.u8 0, Value.int IntKind.u8 0, Value.int IntKind.u8 0, Value.int IntKind.u8 0, Value.int IntKind.u8 0, Value.int IntKind.u8 0, Value.int IntKind.u8 0, Value.int IntKind.u8 0, Value.int IntKind.u8 0, Value.int IntKind.u8 0, Value.int IntKind.u8 0, Value.int IntKind.u8 0, Value.int IntKind.u8 0, Value.int IntKind.u8 0, Value.int IntKind.u8 0, Value.int IntKind.u8 0, Value.int IntKind.u8 0, Value.int IntKind.u8 0, Value.int IntKind.u8 0, Value.int IntKind.u8 0, Value.int IntKind.u8 0, Value.int IntKind.u8 0] 22))) := b1.out.alloc b1.out.size _
    have z2 := b1.out.size
    clear s1 b1
    have R1 : Hid (((((w.alloc (.cells (bR A).toArray 22)).alloc (.cells #[Value.int IntKind.u64 0, Value.int IntKind.u64 0, Value.int IntKind.u64 0, Value.int IntKind.u64 0, Value.int IntKind.u64 0, Value.int IntKind.u64 0, Value.int IntKind.u64 0, Value.int IntKind.u64 0, Value.int IntKind.u64 0, Value.int IntKind.u64 0, Value.int IntKind.u64 0, Value.int IntKind.u64 0] 67)).alloc (.cells #[Value.int IntKind.u8 0, Value.int IntKind.u8 0, Value.int IntKind.u8 0, Value.int IntKind.u8 0, Value.int IntKind.u8 0, Value.int IntKind.u8 0, Value.int IntKind.u8 0, Value.int IntKind.u8 0, Value.int IntKind.u8 0, Value.int IntKind.u8 0, Value.int IntKind.u8 0, Value.int IntKind.u8 0, Value.int IntKind.u8 0, Value.int IntKind.u8 0, Value.int IntKind.u8 0, Value.int IntKind.u8 0, Value.int IntKind.u8 0, Value.int IntKind.u8 0, Value.int IntKind.u8 0, Value.int IntKind.u8 0, Value.int IntKind.u8 0, Value.int IntKind.u8 0, Value.int IntKind.u8 0, Value.int IntKind.u8 0, Value.int IntKind.u8 0, Value.int IntKind.u8 0, Value.int IntKind.u8 0, Value.int IntKind.u8 0, Value.int IntKind.u8 0, Value.int IntKind.u8 0, Value.int IntKind.u8 0, Value.int IntKind.u8 0] 22)).alloc (.cells #[Value.int IntKind.u8 0, Value.int IntKind.u8 0, Value.int IntKind.u8 0, Value.int IntKind.u8 0, Value.int IntKind.u8 0, Value.int IntKind.u8 0, Value.int IntKind.u8 0, Value.int IntKind.u8 0, Value.int IntKind.u8 0, Value.int IntKind.u8 0, Value.int IntKind.u8 0, Value.int IntKind.u8 0, Value.int IntKind.u8 0, Value.int IntKind.u8 0, Value.int IntKind.u8 0, Value.int IntKind.u8 0, Value.int IntKind.u8 0, Value.int IntKind.u8 0, Value.int IntKind.u8 0, Value.int IntKind.u8 0, Value.int IntKind.u8 0, Value.int IntKind.u8 0, Value.int IntKind.u8 0, Value.int IntKind.u8 0, Value.int IntKind.u8 0, Value.int IntKind.u8 0, Value.int IntKind.u8 0, Value.int IntKind.u8 0, Value.int IntKind.u8 0, Value.int IntKind.u8 0, Value.int IntKind.u8 0, Value.int IntKind.u8 0] 22)).rangeAt g o ((q.take 32).map b8)) := By.rng_take (HQ.out.up b2.out (Nat.le_refl _)) 32
    have T1 : Hid (((((w.alloc (.cells (bR A).toArray 22)).alloc (.cells #[Value.int IntKind.u64 0, Value.int IntKind.u64 0, Value.int IntKind.u64 0, Value.int IntKind.u64 0, Value.int IntKind.u64 0, Value.int IntKind.u64 0, Value.int IntKind.u64 0, Value.int IntKind.u64 0, Value.int IntKind.u64 0, Value.int IntKind.u64 0, Value.int IntKind.u64 0, Value.int IntKind.u64 0] 67)).alloc (.cells #[Value.int IntKind.u8 0, Value.int IntKind.u8 0, Value.int IntKind.u8 0, Value.int IntKind.u8 0, Value.int IntKind.u8 0, Value.int IntKind.u8 0, Value.int IntKind.u8 0, Value.int IntKind.u8 0, Value.int IntKind.u8 0, Value.int IntKind.u8 0, Value.int IntKind.u8 0, Value.int IntKind.u8 0, Value.int IntKind.u8 0, Value.int IntKind.u8 0, Value.int IntKind.u8 0, Value.int IntKind.u8 0, Value.int IntKind.u8 0, Value.int IntKind.u8 0, Value.int IntKind.u8 0, Value.int IntKind.u8 0, Value.int IntKind.u8 0, Value.int IntKind.u8 0, Value.int IntKind.u8 0, Value.int IntKind.u8 0, Value.int IntKind.u8 0, Value.int IntKind.u8 0, Value.int IntKind.u8 0, Value.int IntKind.u8 0, Value.int IntKind.u8 0, Value.int IntKind.u8 0, Value.int IntKind.u8 0, Value.int IntKind.u8 0] 22)).alloc (.cells #[Value.int IntKind.u8 0, Value.int IntKind.u8 0, Value.int IntKind.u8 0, Value.int IntKind.u8 0, Value.int IntKind.u8 0, Value.int IntKind.u8 0, Value.int IntKind.u8 0, Value.int IntKind.u8 0, Value.int IntKind.u8 0, Value.int IntKind.u8 0, Value.int IntKind.u8 0, Value.int IntKind.u8 0, Value.int IntKind.u8 0, Value.int IntKind.u8 0, Value.int IntKind.u8 0, Value.int IntKind.u8 0, Value.int IntKind.u8 0, Value.int IntKind.u8 0, Value.int IntKind.u8 0, Value.int IntKind.u8 0, Value.int IntKind.u8 0, Value.int IntKind.u8 0, Value.int IntKind.u8 0, Value.int IntKind.u8 0, Value.int IntKind.u8 0, Value.int IntKind.u8 0, Value.int IntKind.u8 0, Value.int IntKind.u8 0, Value.int IntKind.u8 0, Value.int IntKind.u8 0, Value.int IntKind.u8 0, Value.int IntKind.u8 0] 22)).there (w.heap.size + 1 + 1) 0 (q.take 32).length) := by
      have := Kn.there (us := bR 0) s2.out 1 rfl (by rw [bR_length, bZ_length])
      rw [L1.out]
      rw [bR_length] at this
      exact this
    go_wp2_with (first | simp only [zero_clm] | simp only [zero_b32] | refine wp_all32 rfl _ rfl (w.heap.size + 1 + 1) rfl ?_ | refine wp_copyR rfl _ _ rfl (w.heap.size + 1 + 1) 0 32 32 g o 64 cu (q.take 32) rfl rfl (by rw [L1.out]; rfl) R1.out T1.out ?_)
    intro w3 hw3
    have s3 : Hid (Kn w3 [(w.heap.size + 1 + 1, bR R), (w.heap.size + 1 + 1 + 1, bZ), (w.heap.size + 1, cmZ), (w.heap.size, bR A)]) := by
      rw [hw3.out, Q1.out]
      exact Kn.put (s2.out.front 1 rfl) (by rw [bR_length, bZ_length])
    have b3 : Hid (Below w.heap.size w w3) := by rw [hw3.out]; exact I.below_setCells _ _ _ b2.out (by omega)
    clear hw3 s2 b2 R1 T1
    go_wp2_with fail
    refine wp_region_two 0 1 [2, 3] [_, _] (.slice (some ⟨w.heap.size + 1 + 1 + 1, 0, none⟩) 32 32) (.slice (some ⟨g, o, none⟩) 64 cu) (by kernel_rfl) (by kernel_rfl) (fun _ _ d _ _ h => by cases d <;> exact h) rfl rfl (by kernel_rfl) (by kernel_rfl) rfl rfl (by kernel_rfl) (.inl ⟨rfl, exec_all32 _ rfl _ rfl⟩) (.inl ⟨rfl, exec_mv _ rfl rfl⟩) ?_
    intro w4 hb4 hh4
    clear hh4
    simp only [Act.put, List.setIfInBounds_toArray, List.set_cons_succ, List.set_cons_zero, List.getElem_toArray, List.getElem_cons_zero, List.getElem_cons_succ]
    have s4 : Hid (Kn w4 [(w.heap.size + 1 + 1, bR R), (w.heap.size + 1 + 1 + 1, bZ), (w.heap.size + 1, cmZ), (w.heap.size, bR A)]) := s3.out.up hb4.out
    have b4 : Hid (Below w.heap.size w w4) := b3.out.trans (hb4.out.mono b3.out.size)
    clear s3 b3 hb4
    refine wp_cutB rfl _ _ rfl (some ⟨g, o, none⟩) 64 cu 32 .i64 32 q rfl LQ.out.symm rfl rfl (by rw [LQ.out]; decide) w4 (HQ.out.up b4.out (Nat.le_refl _)) ?_
    intro v4 hy4
    obtain ⟨a4, c4', rfl⟩ := By.len hy4
    obtain ⟨g4, o4, rfl, _, R4⟩ := hy4.range (by rw [L2.out]; decide)
    have T4 : Hid (w4.there (w.heap.size + 1 + 1 + 1) 0 (q.drop 32).length) := by
      have := Kn.there (us := bR 0) s4.out 1 rfl (by rw [bR_length, bZ_length])
      rw [L2.out]
      rw [bR_length] at this
      exact this
    rw [L2.out]
    refine wp_copyR rfl _ _ rfl (w.heap.size + 1 + 1 + 1) 0 32 32 g4 o4 32 c4' (q.drop 32) rfl rfl (by rw [L2.out]; rfl) R4 T4.out ?_
    intro w5 hw5
    have s5 : Hid (Kn w5 [(w.heap.size + 1 + 1 + 1, bR s), (w.heap.size + 1 + 1, bR R), (w.heap.size + 1, cmZ), (w.heap.size, bR A)]) := by
      rw [hw5.out, Q2.out]
      exact Kn.put (s4.out.front 1 rfl) (by rw [bR_length, bZ_length])
    have b5 : Hid (Below w.heap.size w w5) := by rw [hw5.out]; exact I.below_setCells _ _ _ b4.out (by omega)
    clear hw5 s4 b4 R4 T4 hy4 HQ LQ Q1 Q2 L1 L2
    generalize w.heap.size + 1 + 1 + 1 = ks at *
    generalize w.heap.size + 1 + 1 = kf at *
    go_wp2_with (first | refine wp_ldW rfl 22 _ rfl (w.heap.size) 0 rfl (bR (A)) _ (Kn.rng s5.out 3 rfl) Tryd.underlying22 rfl (info_bR (A)) ?_ | simp only [Act.put, List.setIfInBounds_toArray, List.set_cons_succ, List.set_cons_zero])
    refine (UA _).mono ?_
    rintro e w6 ⟨rfl, hb6⟩
    have s6 : Hid (Kn w6 [(ks, (bR (s))), (kf, (bR (R))), (w.heap.size + 1, cmZ), (w.heap.size, (bR (A)))]) := s5.out.up hb6
    have b6 : Hid (Below w.heap.size w w6) := b5.out.trans (hb6.mono b5.out.size)
    have z6 := b6.out.size
    clear hb6 s5 b5
    have s7 : Hid (Kn (kalP w6 (ax) (ay)) [(w6.heap.size, (c8 (ax) (ay))), (ks, (bR (s))), (kf, (bR (R))), (w.heap.size + 1, cmZ), (w.heap.size, (bR (A)))]) := s6.out.al (c8 (ax) (ay)) 34 rfl
    have b7 : Hid (Below w.heap.size w (kalP w6 (ax) (ay))) := b6.out.alloc b6.out.size _
    have z7 := b6.out.size
    clear s6 b6
    go_wp2_with (first | refine wp_ldW rfl 22 _ rfl kf 0 rfl (bR (R)) _ (Kn.rng s7.out 2 rfl) Tryd.underlying22 rfl (info_bR (R)) ?_)
    refine (UR _).mono ?_
    rintro e w8 ⟨rfl, hb8⟩
    have s8 : Hid (Kn w8 [(w6.heap.size, (c8 (ax) (ay))), (ks, (bR (s))), (kf, (bR (R))), (w.heap.size + 1, cmZ), (w.heap.size, (bR (A)))]) := s7.out.up hb8
    have b8 : Hid (Below w.heap.size w w8) := b7.out.trans (hb8.mono b7.out.size)
    have z8 := b8.out.size
    clear hb8 s7 b7
    have s9 : Hid (Kn (kalP w8 (rx) (ry)) [(w8.heap.size, (c8 (rx) (ry))), (w6.heap.size, (c8 (ax) (ay))), (ks, (bR (s))), (kf, (bR (R))), (w.heap.size + 1, cmZ), (w.heap.size, (bR (A)))]) := s8.out.al (c8 (rx) (ry)) 34 rfl
    have b9 : Hid (Below w.heap.size w (kalP w8 (rx) (ry))) := b8.out.alloc b8.out.size _
    have z9 := b8.out.size
    clear s8 b8
    go_wp2_with (first | refine wp_ldW rfl 22 _ rfl ks 0 rfl (bR (s)) _ (Kn.rng s9.out 2 rfl) Tryd.underlying22 rfl (info_bR (s)) ?_)
    refine (OF _).mono ?_
    rintro e w10 ⟨rfl, hb10⟩
    have s10 : Hid (Kn w10 [(w8.heap.size, (c8 (rx) (ry))), (w6.heap.size, (c8 (ax) (ay))), (ks, (bR (s))), (kf, (bR (R))), (w.heap.size + 1, cmZ), (w.heap.size, (bR (A)))]) := s9.out.up hb10
    have b10 : Hid (Below w.heap.size w w10) := b9.out.trans (hb10.mono b9.out.size)
    have z10 := b10.out.size
    clear hb10 s9 b9
    have s11 : Hid (Kn (kal4 w10 (so)) [(w10.heap.size, (c4 (so))), (w8.heap.size, (c8 (rx) (ry))), (w6.heap.size, (c8 (ax) (ay))), (ks, (bR (s))), (kf, (bR (R))), (w.heap.size + 1, cmZ), (w.heap.size, (bR (A)))]) := s10.out.al (c4 (so)) 26 rfl
    have b11 : Hid (Below w.heap.size w (kal4 w10 (so))) := b10.out.alloc b10.out.size _
    have z11 := b10.out.size
    clear s10 b10
    go_wp2_with fail
    refine wp_region_up (by kernel_rfl) (by kernel_rfl) (fun U hU f hf hcl => ?_)
    have uo_0 := fun nx => (Kn.get (s11.out.up (hf nx).out) 0 0 rfl rfl : (f nx).cell? ⟨w10.heap.size, 0, none⟩ = some (.int .u64 (so).a))
    have uo_1 := fun nx => (Kn.get (s11.out.up (hf nx).out) 0 1 rfl rfl : (f nx).cell? ⟨w10.heap.size, 1, none⟩ = some (.int .u64 (so).b))
    have uo_2 := fun nx => (Kn.get (s11.out.up (hf nx).out) 0 2 rfl rfl : (f nx).cell? ⟨w10.heap.size, 2, none⟩ = some (.int .u64 (so).c))
    have uo_3 := fun nx => (Kn.get (s11.out.up (hf nx).out) 0 3 rfl rfl : (f nx).cell? ⟨w10.heap.size, 3, none⟩ = some (.int .u64 (so).d))
    try simp only [List.append_eq, List.cons_append, List.nil_append]
    repeat (go_big_quiet_step (first | (go_at_call 11; exact (SL _).mono fun e w'' ⟨he, hb⟩ => ⟨he, hcl.out _ _ hb⟩) | (go_at_call 10; exact (CM _).mono fun e w'' ⟨he, hb⟩ => ⟨he, hcl.out _ _ hb⟩)))
    refine wpQuiet_nil ?_
    intro nx
    have hb12 := (hf nx).out
    clear hf hcl uo_0 uo_1 uo_2 uo_3
    generalize f nx = w12 at hb12 ⊢
    have s12 : Hid (Kn w12 [(w10.heap.size, (c4 (so))), (w8.heap.size, (c8 (rx) (ry))), (w6.heap.size, (c8 (ax) (ay))), (ks, (bR (s))), (kf, (bR (R))), (w.heap.size + 1, cmZ), (w.heap.size, (bR (A)))]) := s11.out.up hb12
    have b12 : Hid (Below w.heap.size w w12) := b11.out.trans (hb12.mono b11.out.size)
    have z12 := b12.out.size
    clear hb12 s11 b11
    have s13x : Hid (Kn w12 [(w.heap.size + 1, cmZ), (w10.heap.size, (c4 (so))), (w8.heap.size, (c8 (rx) (ry))), (w6.heap.size, (c8 (ax) (ay))), (ks, (bR (s))), (kf, (bR (R))), (w.heap.size, (bR (A)))]) := s12.out.front 5 rfl
    have b13x : Hid (Below w.heap.size w w12) := b12.out
    have TT13 : Hid (w12.there (w.heap.size + 1) 0 (cmR (nO) (nO) (nO)).length) := Kn.there s13x.out 0 rfl (by rw [(cmR_length (nO) (nO) (nO)), cmZ_length])
    go_wp2_with (first | refine wp_buildZ rfl rfl clm_zero ?_ | refine I.wp_store_eq rfl 67 _ _ rfl (w.heap.size + 1) 0 (cmR (nO) (nO) (nO)) rfl rfl TT13.out (info_cmR (nO) (nO) (nO)) (cmR_one (nO) (nO) (nO)) ?_)
    intro w13 hw13
    try simp only [Act.put, List.setIfInBounds_toArray, List.set_cons_succ, List.set_cons_zero]
    have s13 : Hid (Kn w13 [(w.heap.size + 1, (cmR (nO) (nO) (nO))), (w10.heap.size, (c4 (so))), (w8.heap.size, (c8 (rx) (ry))), (w6.heap.size, (c8 (ax) (ay))), (ks, (bR (s))), (kf, (bR (R))), (w.heap.size, (bR (A)))]) := by rw [hw13.out]; exact Kn.put s13x.out (by rw [(cmR_length (nO) (nO) (nO)), cmZ_length])
    have b13 : Hid (Below w.heap.size w w13) := by rw [hw13.out]; exact I.below_setCells _ _ _ b13x.out (by omega)
    have z13 := b13.out.size
    clear hw13 s13x b13x TT13 s12 b12
    go_wp2_with fail
    exact bodyPost_ret (v := .tuple #[cmV nO nO nO, .int .i64 4]) (results_row2 (b := w.heap.size + 1) rfl rfl rfl (Kn.rng s13.out 0 rfl) Tryd.underlying67 rfl (info_cmR (nO) (nO) (nO))) rfl ⟨rfl, b13.out⟩
  · have HV : Hid (By w (.slice av nv cv) p) := hv
    have HQ : Hid (By w (.slice (some ⟨g, o, none⟩) 64 cu) q) := hq
    have HT : Hid (KTab w) := hT
    have LQ : Hid (q.length = 64) := lq
    have Q1 : Hid ((q.take 32).map b8 = bR R) := q1
    have Q2 : Hid ((q.drop 32).map b8 = bR s) := q2
    have L1 : Hid ((q.take 32).length = 32) := by show _ = _; rw [List.length_take, lq]; rfl
    have L2 : Hid ((q.drop 32).length = 32) := by show _ = _; rw [List.length_drop, lq]
    clear hv hq hT lq q1 q2
    go_enter Tryd.func25, Tryd.ntmps25
    have s0 : Hid (Kn ((w.alloc (.cells (bR (A)).toArray 22)).alloc (.cells #[Value.int IntKind.u64 0, Value.int IntKind.u64 0, Value.int IntKind.u64 0, Value.int IntKind.u64 0, Value.int IntKind.u64 0, Value.int IntKind.u64 0, Value.int IntKind.u64 0, Value.int IntKind.u64 0, Value.int IntKind.u64 0, Value.int IntKind.u64 0, Value.int IntKind.u64 0, Value.int IntKind.u64 0] 67)) [(w.heap.size + 1, cmZ), (w.heap.size, (bR (A)))]) := (((Kn.nil w).al (bR (A)) 22 rfl).al cmZ 67 (by simp))
    have b0 : Hid (Below w.heap.size w ((w.alloc (.cells (bR (A)).toArray 22)).alloc (.cells #[Value.int IntKind.u64 0, Value.int IntKind.u64 0, Value.int IntKind.u64 0, Value.int IntKind.u64 0, Value.int IntKind.u64 0, Value.int IntKind.u64 0, Value.int IntKind.u64 0, Value.int IntKind.u64 0, Value.int IntKind.u64 0, Value.int IntKind.u64 0, Value.int IntKind.u64 0, Value.int IntKind.u64 0] 67))) := (((Below.refl _ _).alloc (Nat.le_refl _) _).alloc (by simp <;> omega) _)
    have s1 : Hid (Kn (((w.alloc (.cells (bR (A)).toArray 22)).alloc (.cells #[Value.int IntKind.u64 0, Value.int IntKind.u64 0, Value.int IntKind.u64 0, Value.int IntKind.u64 0, Value.int IntKind.u64 0, Value.int IntKind.u64 0, Value.int IntKind.u64 0, Value.int IntKind.u64 0, Value.int IntKind.u64 0, Value.int IntKind.u64 0, Value.int IntKind.u64 0, Value.int IntKind.u64 0] 67)).alloc (.cells #[Value.int IntKind.u8 0, Value.int IntKind.u8 0, Value.int IntKind.u8 0, Value.int IntKind.u8 0, Value.int IntKind.u8 0, Value.int IntKind.u8 0, Value.int IntKind.u8 0, Value.int IntKind.u8 0, Value.int IntKind.u8 0, Value.int IntKind.u8 0, Value.int IntKind.u8 0, Value.int IntKind.u8 0, Value.int IntKind.u8 0, Value.int IntKind.u8 0, Value.int IntKind.u8 0, Value.int IntKind.u8 0, Value.int IntKind.u8 0, Value.int IntKind.u8 0, Value.int IntKind.u8 0, Value.int IntKind.u8 0, Value.int IntKind.u8 0, Value.int IntKind.u8 0, Value.int IntKind.u8 0, Value.int IntKind.u8 0, Value.int IntKind.u8 0, Value.int IntKind.u8 0, Value.int IntKind.u8 0, Value.int IntKind.u8 0, Value.int IntKind.u8 0, Value.int IntKind.u8 0, Value.int IntKind.u8 0, Value.int IntKind.u8 0] 22)) [(w.heap.size + 1 + 1, bZ), (w.heap.size + 1, cmZ), (w.heap.size, (bR (A)))]) := s0.out.al bZ 22 (by simp)
    have b1 : Hid (Below w.heap.size w (((w.alloc (.cells (bR (A)).toArray 22)).alloc (.cells #[Value.int IntKind.u64 0, Value.int IntKind.u64 0, Value.int IntKind.u64 0, Value.int IntKind.u64 0, Value.int IntKind.u64 0, Value.int IntKind.u64 0, Value.int IntKind.u64 0, Value.int IntKind.u64 0, Value.int IntKind.u64 0, Value.int IntKind.u64 0, Value.int IntKind.u64 0, Value.int IntKind.u64 0] 67)).alloc (.cells #[Value.int IntKind.u8 0, Value.int IntKind.u8 0, Value.int IntKind.u8 0, Value.int IntKind.u8 0, Value.int IntKind.u8 0, Value.int IntKind.u8 0, Value.int IntKind.u8 0, Value.int IntKind.u8 0, Value.int IntKind.u8 0, Value.int IntKind.u8 0, Value.int IntKind.u8 0, Value.int IntKind.u8 0, Value.int IntKind.u8 0, Value.int IntKind.u8 0, Value.int IntKind.u8 0, Value.int IntKind.u8 0, Value.int IntKind.u8 0, Value.int IntKind.u8 0, Value.int IntKind.u8 0, Value.int IntKind.u8 0, Value.int IntKind.u8 0, Value.int IntKind.u8 0, Value.int IntKind.u8 0, Value.int IntKind.u8 0, Value.int IntKind.u8 0, Value.int IntKind.u8 0, Value.int IntKind.u8 0, Value.int IntKind.u8 0, Value.int IntKind.u8 0, Value.int IntKind.u8 0, Value.int IntKind.u8 0, Value.int IntKind.u8 0] 22))) := b0.out.alloc b0.out.size _
    have z1 := b0.out.size
    clear s0 b0
    have s2 : Hid (Kn ((((w.alloc (.cells (bR (A)).toArray 22)).alloc (.cells #[Value.int IntKind.u64 0, Value.int IntKind.u64 0, Value.int IntKind.u64 0, Value.int IntKind.u64 0, Value.int IntKind.u64 0, Value.int IntKind.u64 0, Value.int IntKind.u64 0, Value.int IntKind.u64 0, Value.int IntKind.u64 0, Value.int IntKind.u64 0, Value.int IntKind.u64 0, Value.int IntKind.u64 0] 67)).alloc (.cells #[Value.int IntKind.u8 0, Value.int IntKind.u8 0, Value.int IntKind.u8 0, Value.int IntKind.u8 0, Value.int IntKind.u8 0, Value.int IntKind.u8 0, Value.int IntKind.u8 0, Value.int IntKind.u8 0, Value.int IntKind.u8 0, Value.int IntKind.u8 0, Value.int IntKind.u8 0, Value.int IntKind.u8 0, Value.int IntKind.u8 0, Value.int IntKind.u8 0, Value.int IntKind.u8 0, Value.int IntKind.u8 0, Value.int IntKind.u8 0, Value.int IntKind.u8 0, Value.int IntKind.u8 0, Value.int IntKind.u8 0, Value.int IntKind.u8 0, Value.int IntKind.u8 0, Value.int IntKind.u8 0, Value.int IntKind.u8 0, Value.int IntKind.u8 0, Value.int IntKind.u8 0, Value.int IntKind.u8 0, Value.int IntKind.u8 0, Value.int IntKind.u8 0, Value.int IntKind.u8 0, Value.int IntKind.u8 0, Value.int IntKind.u8 0] 22)).alloc (.cells #[Value.int IntKind.u8 0, Value.int IntKind.u8 0, Value.int IntKind.u8 0, Value.int IntKind.u8 0, Value.int IntKind.u8 0, Value.int IntKind.u8 0, Value.int IntKind.u8 0, Value.int IntKind.u8 0, Value.int IntKind.u8 0, Value.int IntKind.u8 0, Value.int IntKind.u8 0, Value.int IntKind.u8 0, Value.int IntKind.u8 0, Value.int IntKind.u8 0, Value.int IntKind.u8 0, Value.int IntKind.u8 0, Value.int IntKind.u8 0, Value.int IntKind.u8 0, Value.int IntKind.u8 0, Value.int IntKind.u8 0, Value.int IntKind.u8 0, Value.int IntKind.u8 0, Value.int IntKind.u8 0, Value.int IntKind.u8 0, Value.int IntKind.u8 0, Value.int IntKind.u8 0, Value.int IntKind.u8 0, Value.int IntKind.u8 0, Value.int IntKind.u8 0, Value.int IntKind.u8 0, Value.int IntKind.u8 0, Value.int IntKind.u8 0] 22)) [(w.heap.size + 1 + 1 + 1, bZ), (w.heap.size + 1 + 1, bZ), (w.heap.size + 1, cmZ), (w.heap.size, (bR (A)))]) := s1.out.al bZ 22 (by simp)
    have b2 : Hid (Below w.heap.size w ((((w.alloc (.cells (bR (A)).toArray 22)).alloc (.cells #[Value.int IntKind.u64 0, Value.int IntKind.u64 0, Value.int IntKind.u64 0, Value.int IntKind.u64 0, Value.int IntKind.u64 0, Value.int IntKind.u64 0, Value.int IntKind.u64 0, Value.int IntKind.u64 0, Value.int IntKind.u64 0, Value.int IntKind.u64 0, Value.int IntKind.u64 0, Value.int IntKind.u64 0] 67)).alloc (.cells #[Value.int IntKind.u8 0, Value.int IntKind.u8 0, Value.int IntKind.u8 0, Value.int IntKind.u8 0, Value.int IntKind.u8 0, Value.int IntKind.u8 0, Value.int IntKind.u8 0, Value.int IntKind.u8 0, Value.int IntKind.u8 0, Value.int IntKind.u8 0, Value.int IntKind.u8 0, Value.int IntKind.u8 0, Value.int IntKind.u8 0, Value.int IntKind.u8 0, Value.int IntKind.u8 0, Value.int IntKind.u8 0, Value.int IntKind.u8 0, Value.int IntKind.u8 0, Value.int IntKind.u8 0, Value.int IntKind.u8 0, Value.int IntKind.u8 0, Value.int IntKind.u8 0, Value.int IntKind.u8 0, Value.int IntKind.u8 0, Value.int IntKind.u8 0, Value.int IntKind.u8 0, Value.int IntKind.u8 0, Value.int IntKind.u8 0, Value.int IntKind.u8 0, Value.int IntKind.u8 0, Value.int IntKind.u8 0, Value.int IntKind.u8 0] 22)).alloc (.cells #[Value.int IntKind.u8 0, Value.int IntKind.u8 0, Value.int IntKind.u8 0, Value.int IntKind.u8 0, Value.int IntKind.u8 0, Value.int IntKind.u8 0, Value.int IntKind.u8 0, Value.int IntKind.u8 0, Value.int IntKind.u8 0, Value.int IntKind.u8 0, Value.int IntKind.u8 0, Value.int IntKind.u8 0, Value.int IntKind.u8 0, Value.int IntKind.u8 0, Value.int IntKind.u8 0, Value.int IntKind.u8 0, Value.int IntKind.u8 0, Value.int IntKind.u8 0, Value.int IntKind.u8 0, Value.int IntKind.u8 0, Value.int IntKind.u8 0, Value.int IntKind.u8 0, Value.int IntKind.u8 0, Value.int IntKind.u8 0, Value.int IntKind.u8 0, Value.int IntKind.u8 0, Value.int IntKind.u8 0, Value.int IntKind.u8 0, Value.int IntKind.u8 0, Value.int IntKind.u8 0, Value.int IntKind.u8 0, Value.int IntKind.u8 0] 22))) := b1.out.alloc b1.out.size _
    have z2 := b1.out.size
    clear s1 b1
    have R1 : Hid (((((w.alloc (.cells (bR A).toArray 22)).alloc (.cells #[Value.int IntKind.u64 0, Value.int IntKind.u64 0, Value.int IntKind.u64 0, Value.int IntKind.u64 0, Value.int IntKind.u64 0, Value.int IntKind.u64 0, Value.int IntKind.u64 0, Value.int IntKind.u64 0, Value.int IntKind.u64 0, Value.int IntKind.u64 0, Value.int IntKind.u64 0, Value.int IntKind.u64 0] 67)).alloc (.cells #[Value.int IntKind.u8 0, Value.int IntKind.u8 0, Value.int IntKind.u8 0, Value.int IntKind.u8 0, Value.int IntKind.u8 0, Value.int IntKind.u8 0, Value.int IntKind.u8 0, Value.int IntKind.u8 0, Value.int IntKind.u8 0, Value.int IntKind.u8 0, Value.int IntKind.u8 0, Value.int IntKind.u8 0, Value.int IntKind.u8 0, Value.int IntKind.u8 0, Value.int IntKind.u8 0, Value.int IntKind.u8 0, Value.int IntKind.u8 0, Value.int IntKind.u8 0, Value.int IntKind.u8 0, Value.int IntKind.u8 0, Value.int IntKind.u8 0, Value.int IntKind.u8 0, Value.int IntKind.u8 0, Value.int IntKind.u8 0, Value.int IntKind.u8 0, Value.int IntKind.u8 0, Value.int IntKind.u8 0, Value.int IntKind.u8 0, Value.int IntKind.u8 0, Value.int IntKind.u8 0, Value.int IntKind.u8 0, Value.int IntKind.u8 0] 22)).alloc (.cells #[Value.int IntKind.u8 0, Value.int IntKind.u8 0, Value.int IntKind.u8 0, Value.int IntKind.u8 0, Value.int IntKind.u8 0, Value.int IntKind.u8 0, Value.int IntKind.u8 0, Value.int IntKind.u8 0, Value.int IntKind.u8 0, Value.int IntKind.u8 0, Value.int IntKind.u8 0, Value.int IntKind.u8 0, Value.int IntKind.u8 0, Value.int IntKind.u8 0, Value.int IntKind.u8 0, Value.int IntKind.u8 0, Value.int IntKind.u8 0, Value.int IntKind.u8 0, Value.int IntKind.u8 0, Value.int IntKind.u8 0, Value.int IntKind.u8 0, Value.int IntKind.u8 0, Value.int IntKind.u8 0, Value.int IntKind.u8 0, Value.int IntKind.u8 0, Value.int IntKind.u8 0, Value.int IntKind.u8 0, Value.int IntKind.u8 0, Value.int IntKind.u8 0, Value.int IntKind.u8 0, Value.int IntKind.u8 0, Value.int IntKind.u8 0] 22)).rangeAt g o ((q.take 32).map b8)) := By.rng_take (HQ.out.up b2.out (Nat.le_refl _)) 32
    have T1 : Hid (((((w.alloc (.cells (bR A).toArray 22)).alloc (.cells #[Value.int IntKind.u64 0, Value.int IntKind.u64 0, Value.int IntKind.u64 0, Value.int IntKind.u64 0, Value.int IntKind.u64 0, Value.int IntKind.u64 0, Value.int IntKind.u64 0, Value.int IntKind.u64 0, Value.int IntKind.u64 0, Value.int IntKind.u64 0, Value.int IntKind.u64 0, Value.int IntKind.u64 0] 67)).alloc (.cells #[Value.int IntKind.u8 0, Value.int IntKind.u8 0, Value.int IntKind.u8 0, Value.int IntKind.u8 0, Value.int IntKind.u8 0, Value.int IntKind.u8 0, Value.int IntKind.u8 0, Value.int IntKind.u8 0, Value.int IntKind.u8 0, Value.int IntKind.u8 0, Value.int IntKind.u8 0, Value.int IntKind.u8 0, Value.int IntKind.u8 0, Value.int IntKind.u8 0, Value.int IntKind.u8 0, Value.int IntKind.u8 0, Value.int IntKind.u8 0, Value.int IntKind.u8 0, Value.int IntKind.u8 0, Value.int IntKind.u8 0, Value.int IntKind.u8 0, Value.int IntKind.u8 0, Value.int IntKind.u8 0, Value.int IntKind.u8 0, Value.int IntKind.u8 0, Value.int IntKind.u8 0, Value.int IntKind.u8 0, Value.int IntKind.u8 0, Value.int IntKind.u8 0, Value.int IntKind.u8 0, Value.int IntKind.u8 0, Value.int IntKind.u8 0] 22)).alloc (.cells #[Value.int IntKind.u8 0, Value.int IntKind.u8 0, Value.int IntKind.u8 0, Value.int IntKind.u8 0, Value.int IntKind.u8 0, Value.int IntKind.u8 0, Value.int IntKind.u8 0, Value.int IntKind.u8 0, Value.int IntKind.u8 0, Value.int IntKind.u8 0, Value.int IntKind.u8 0, Value.int IntKind.u8 0, Value.int IntKind.u8 0, Value.int IntKind.u8 0, Value.int IntKind.u8 0, Value.int IntKind.u8 0, Value.int IntKind.u8 0, Value.int IntKind.u8 0, Value.int IntKind.u8 0, Value.int IntKind.u8 0, Value.int IntKind.u8 0, Value.int IntKind.u8 0, Value.int IntKind.u8 0, Value.int IntKind.u8 0, Value.int IntKind.u8 0, Value.int IntKind.u8 0, Value.int IntKind.u8 0, Value.int IntKind.u8 0, Value.int IntKind.u8 0, Value.int IntKind.u8 0, Value.int IntKind.u8 0, Value.int IntKind.u8 0] 22)).there (w.heap.size + 1 + 1) 0 (q.take 32).length) := by
      have := Kn.there (us := bR 0) s2.out 1 rfl (by rw [bR_length, bZ_length])
      rw [L1.out]
      rw [bR_length] at this
      exact this
    go_wp2_with (first | simp only [zero_clm] | simp only [zero_b32] | refine wp_all32 rfl _ rfl (w.heap.size + 1 + 1) rfl ?_ | refine wp_copyR rfl _ _ rfl (w.heap.size + 1 + 1) 0 32 32 g o 64 cu (q.take 32) rfl rfl (by rw [L1.out]; rfl) R1.out T1.out ?_)
    intro w3 hw3
    have s3 : Hid (Kn w3 [(w.heap.size + 1 + 1, bR R), (w.heap.size + 1 + 1 + 1, bZ), (w.heap.size + 1, cmZ), (w.heap.size, bR A)]) := by
      rw [hw3.out, Q1.out]
      exact Kn.put (s2.out.front 1 rfl) (by rw [bR_length, bZ_length])
    have b3 : Hid (Below w.heap.size w w3) := by rw [hw3.out]; exact I.below_setCells _ _ _ b2.out (by omega)
    clear hw3 s2 b2 R1 T1
    go_wp2_with fail
    refine wp_region_two 0 1 [2, 3] [_, _] (.slice (some ⟨w.heap.size + 1 + 1 + 1, 0, none⟩) 32 32) (.slice (some ⟨g, o, none⟩) 64 cu) (by kernel_rfl) (by kernel_rfl) (fun _ _ d _ _ h => by cases d <;> exact h) rfl rfl (by kernel_rfl) (by kernel_rfl) rfl rfl (by kernel_rfl) (.inl ⟨rfl, exec_all32 _ rfl _ rfl⟩) (.inl ⟨rfl, exec_mv _ rfl rfl⟩) ?_
    intro w4 hb4 hh4
    clear hh4
    simp only [Act.put, List.setIfInBounds_toArray, List.set_cons_succ, List.set_cons_zero, List.getElem_toArray, List.getElem_cons_zero, List.getElem_cons_succ]
    have s4 : Hid (Kn w4 [(w.heap.size + 1 + 1, bR R), (w.heap.size + 1 + 1 + 1, bZ), (w.heap.size + 1, cmZ), (w.heap.size, bR A)]) := s3.out.up hb4.out
    have b4 : Hid (Below w.heap.size w w4) := b3.out.trans (hb4.out.mono b3.out.size)
    clear s3 b3 hb4
    refine wp_cutB rfl _ _ rfl (some ⟨g, o, none⟩) 64 cu 32 .i64 32 q rfl LQ.out.symm rfl rfl (by rw [LQ.out]; decide) w4 (HQ.out.up b4.out (Nat.le_refl _)) ?_
    intro v4 hy4
    obtain ⟨a4, c4', rfl⟩ := By.len hy4
    obtain ⟨g4, o4, rfl, _, R4⟩ := hy4.range (by rw [L2.out]; decide)
    have T4 : Hid (w4.there (w.heap.size + 1 + 1 + 1) 0 (q.drop 32).length) := by
      have := Kn.there (us := bR 0) s4.out 1 rfl (by rw [bR_length, bZ_length])
      rw [L2.out]
      rw [bR_length] at this
      exact this
    rw [L2.out]
    refine wp_copyR rfl _ _ rfl (w.heap.size + 1 + 1 + 1) 0 32 32 g4 o4 32 c4' (q.drop 32) rfl rfl (by rw [L2.out]; rfl) R4 T4.out ?_
    intro w5 hw5
    have s5 : Hid (Kn w5 [(w.heap.size + 1 + 1 + 1, bR s), (w.heap.size + 1 + 1, bR R), (w.heap.size + 1, cmZ), (w.heap.size, bR A)]) := by
      rw [hw5.out, Q2.out]
      exact Kn.put (s4.out.front 1 rfl) (by rw [bR_length, bZ_length])
    have b5 : Hid (Below w.heap.size w w5) := by rw [hw5.out]; exact I.below_setCells _ _ _ b4.out (by omega)
    clear hw5 s4 b4 R4 T4 hy4 HQ LQ Q1 Q2 L1 L2
    generalize w.heap.size + 1 + 1 + 1 = ks at *
    generalize w.heap.size + 1 + 1 = kf at *
    go_wp2_with (first | refine wp_ldW rfl 22 _ rfl (w.heap.size) 0 rfl (bR (A)) _ (Kn.rng s5.out 3 rfl) Tryd.underlying22 rfl (info_bR (A)) ?_ | simp only [Act.put, List.setIfInBounds_toArray, List.set_cons_succ, List.set_cons_zero])
    refine (UA _).mono ?_
    rintro e w6 ⟨rfl, hb6⟩
    have s6 : Hid (Kn w6 [(ks, (bR (s))), (kf, (bR (R))), (w.heap.size + 1, cmZ), (w.heap.size, (bR (A)))]) := s5.out.up hb6
    have b6 : Hid (Below w.heap.size w w6) := b5.out.trans (hb6.mono b5.out.size)
    have z6 := b6.out.size
    clear hb6 s5 b5
    have s7 : Hid (Kn (kalP w6 (ax) (ay)) [(w6.heap.size, (c8 (ax) (ay))), (ks, (bR (s))), (kf, (bR (R))), (w.heap.size + 1, cmZ), (w.heap.size, (bR (A)))]) := s6.out.al (c8 (ax) (ay)) 34 rfl
    have b7 : Hid (Below w.heap.size w (kalP w6 (ax) (ay))) := b6.out.alloc b6.out.size _
    have z7 := b6.out.size
    clear s6 b6
    go_wp2_with (first | refine wp_ldW rfl 22 _ rfl kf 0 rfl (bR (R)) _ (Kn.rng s7.out 2 rfl) Tryd.underlying22 rfl (info_bR (R)) ?_)
    refine (UR _).mono ?_
    rintro e w8 ⟨rfl, hb8⟩
    have s8 : Hid (Kn w8 [(w6.heap.size, (c8 (ax) (ay))), (ks, (bR (s))), (kf, (bR (R))), (w.heap.size + 1, cmZ), (w.heap.size, (bR (A)))]) := s7.out.up hb8
    have b8 : Hid (Below w.heap.size w w8) := b7.out.trans (hb8.mono b7.out.size)
    have z8 := b8.out.size
    clear hb8 s7 b7
    have s9 : Hid (Kn (kalP w8 (rx) (ry)) [(w8.heap.size, (c8 (rx) (ry))), (w6.heap.size, (c8 (ax) (ay))), (ks, (bR (s))), (kf, (bR (R))), (w.heap.size + 1, cmZ), (w.heap.size, (bR (A)))]) := s8.out.al (c8 (rx) (ry)) 34 rfl
    have b9 : Hid (Below w.heap.size w (kalP w8 (rx) (ry))) := b8.out.alloc b8.out.size _
    have z9 := b8.out.size
    clear s8 b8
    go_wp2_with (first | refine wp_ldW rfl 22 _ rfl ks 0 rfl (bR (s)) _ (Kn.rng s9.out 2 rfl) Tryd.underlying22 rfl (info_bR (s)) ?_)
    refine (OF _).mono ?_
    rintro e w10 ⟨rfl, hb10⟩
    have s10 : Hid (Kn w10 [(w8.heap.size, (c8 (rx) (ry))), (w6.heap.size, (c8 (ax) (ay))), (ks, (bR (s))), (kf, (bR (R))), (w.heap.size + 1, cmZ), (w.heap.size, (bR (A)))]) := s9.out.up hb10
    have b10 : Hid (Below w.heap.size w w10) := b9.out.trans (hb10.mono b9.out.size)
    have z10 := b10.out.size
    clear hb10 s9 b9
    have s11 : Hid (Kn (kal4 w10 (so)) [(w10.heap.size, (c4 (so))), (w8.heap.size, (c8 (rx) (ry))), (w6.heap.size, (c8 (ax) (ay))), (ks, (bR (s))), (kf, (bR (R))), (w.heap.size + 1, cmZ), (w.heap.size, (bR (A)))]) := s10.out.al (c4 (so)) 26 rfl
    have b11 : Hid (Below w.heap.size w (kal4 w10 (so))) := b10.out.alloc b10.out.size _
    have z11 := b10.out.size
    clear s10 b10
    go_wp2_with fail
    refine wp_region_up (by kernel_rfl) (by kernel_rfl) (fun U hU f hf hcl => ?_)
    have uo_0 := fun nx => (Kn.get (s11.out.up (hf nx).out) 0 0 rfl rfl : (f nx).cell? ⟨w10.heap.size, 0, none⟩ = some (.int .u64 (so).a))
    have uo_1 := fun nx => (Kn.get (s11.out.up (hf nx).out) 0 1 rfl rfl : (f nx).cell? ⟨w10.heap.size, 1, none⟩ = some (.int .u64 (so).b))
    have uo_2 := fun nx => (Kn.get (s11.out.up (hf nx).out) 0 2 rfl rfl : (f nx).cell? ⟨w10.heap.size, 2, none⟩ = some (.int .u64 (so).c))
    have uo_3 := fun nx => (Kn.get (s11.out.up (hf nx).out) 0 3 rfl rfl : (f nx).cell? ⟨w10.heap.size, 3, none⟩ = some (.int .u64 (so).d))
    try simp only [List.append_eq, List.cons_append, List.nil_append]
    repeat (go_big_quiet_step (first | (go_at_call 11; exact (SL _).mono fun e w'' ⟨he, hb⟩ => ⟨he, hcl.out _ _ hb⟩) | (go_at_call 10; exact (CM _).mono fun e w'' ⟨he, hb⟩ => ⟨he, hcl.out _ _ hb⟩)))
    refine wpQuiet_nil ?_
    intro nx
    have hb12 := (hf nx).out
    clear hf hcl uo_0 uo_1 uo_2 uo_3
    generalize f nx = w12 at hb12 ⊢
    have s12 : Hid (Kn w12 [(w10.heap.size, (c4 (so))), (w8.heap.size, (c8 (rx) (ry))), (w6.heap.size, (c8 (ax) (ay))), (ks, (bR (s))), (kf, (bR (R))), (w.heap.size + 1, cmZ), (w.heap.size, (bR (A)))]) := s11.out.up hb12
    have b12 : Hid (Below w.heap.size w w12) := b11.out.trans (hb12.mono b11.out.size)
    have z12 := b12.out.size
    clear hb12 s11 b11
    have s13x : Hid (Kn w12 [(w.heap.size + 1, cmZ), (w10.heap.size, (c4 (so))), (w8.heap.size, (c8 (rx) (ry))), (w6.heap.size, (c8 (ax) (ay))), (ks, (bR (s))), (kf, (bR (R))), (w.heap.size, (bR (A)))]) := s12.out.front 5 rfl
    have b13x : Hid (Below w.heap.size w w12) := b12.out
    have TT13 : Hid (w12.there (w.heap.size + 1) 0 (cmR (nO) (nO) (nO)).length) := Kn.there s13x.out 0 rfl (by rw [(cmR_length (nO) (nO) (nO)), cmZ_length])
    go_wp2_with (first | refine wp_buildZ rfl rfl clm_zero ?_ | refine I.wp_store_eq rfl 67 _ _ rfl (w.heap.size + 1) 0 (cmR (nO) (nO) (nO)) rfl rfl TT13.out (info_cmR (nO) (nO) (nO)) (cmR_one (nO) (nO) (nO)) ?_)
    intro w13 hw13
    try simp only [Act.put, List.setIfInBounds_toArray, List.set_cons_succ, List.set_cons_zero]
    have s13 : Hid (Kn w13 [(w.heap.size + 1, (cmR (nO) (nO) (nO))), (w10.heap.size, (c4 (so))), (w8.heap.size, (c8 (rx) (ry))), (w6.heap.size, (c8 (ax) (ay))), (ks, (bR (s))), (kf, (bR (R))), (w.heap.size, (bR (A)))]) := by rw [hw13.out]; exact Kn.put s13x.out (by rw [(cmR_length (nO) (nO) (nO)), cmZ_length])
    have b13 : Hid (Below w.heap.size w w13) := by rw [hw13.out]; exact I.below_setCells _ _ _ b13x.out (by omega)
    have z13 := b13.out.size
    clear hw13 s13x b13x TT13 s12 b12
    go_wp2_with fail
    exact bodyPost_ret (v := .tuple #[cmV nO nO nO, .int .i64 4]) (results_row2 (b := w.heap.size + 1) rfl rfl rfl (Kn.rng s13.out 0 rfl) Tryd.underlying67 rfl (info_cmR (nO) (nO) (nO))) rfl ⟨rfl, b13.out⟩
set_option maxRecDepth 20000 in
set_option maxHeartbeats 4000000 in
theorem sgRead_ok (A R s g o cu : Nat) (av : Option Addr) (nv cv : Nat) (p q : List Nat) (lq : q.length = 64) (q1 : (q.take 32).map b8 = bR R) (q2 : (q.drop 32).map b8 = bR s) (ax ay rx ry so lm cn tx ty ux uy : Nm)
    (UA : ∀ w, Calls Tryd.prog 51 #[.agg (bR (A)).toArray] w fun e w' => e = .returned (.tuple #[Wv ax ay, .int .i64 0]) ∧ Below w.heap.size w w')
    (UR : ∀ w, Calls Tryd.prog 51 #[.agg (bR (R)).toArray] w fun e w' => e = .returned (.tuple #[Wv rx ry, .int .i64 0]) ∧ Below w.heap.size w w')
    (OF : ∀ w, Calls Tryd.prog 52 #[.agg (bR (s)).toArray] w fun e w' => e = .returned (N so) ∧ Below w.heap.size w w')
    (SL : ∀ w, Calls Tryd.prog 11 #[] w fun e w' => e = .returned (N lm) ∧ Below w.heap.size w w')
    (CM : ∀ w, Calls Tryd.prog 10 #[N so, N lm] w fun e w' => e = .returned (.int .i64 (-1)) ∧ Below w.heap.size w w')
    (DG : Hid (∀ u w, Rw w u [S.by R, S.by A, p] → KTab w → Calls Tryd.prog 27 #[.int .u8 4, u] w fun e w' => e = .returned (N cn) ∧ Below w.heap.size w w'))
    (TM : ∀ w, Calls Tryd.prog 39 #[N cn, Wv ax ay] w fun e w' => e = .returned (Wv tx ty) ∧ Below w.heap.size w w')
    (SU : ∀ w, Calls Tryd.prog 53 #[Wv rx ry, Wv tx ty] w fun e w' => e = .returned (Wv ux uy) ∧ Below w.heap.size w w')
    (w : World) (hv : By w (.slice av nv cv) p) (hq : By w (.slice (some ⟨g, o, none⟩) 64 cu) q) (hT : KTab w) :
    Calls Tryd.prog 25 #[bV A, .slice av nv cv, .slice (some ⟨g, o, none⟩) 64 cu] w fun e w' => e = .returned (.tuple #[cmV so ux uy, .int .i64 0]) ∧ Below w.heap.size w w' := by
  have HV : Hid (By w (.slice av nv cv) p) := hv
  have HQ : Hid (By w (.slice (some ⟨g, o, none⟩) 64 cu) q) := hq
  have HT : Hid (KTab w) := hT
  have LQ : Hid (q.length = 64) := lq
  have Q1 : Hid ((q.take 32).map b8 = bR R) := q1
  have Q2 : Hid ((q.drop 32).map b8 = bR s) := q2
  have L1 : Hid ((q.take 32).length = 32) := by show _ = _; rw [List.length_take, lq]; rfl
  have L2 : Hid ((q.drop 32).length = 32) := by show _ = _; rw [List.length_drop, lq]
  clear hv hq hT lq q1 q2
  go_enter Tryd.func25, Tryd.ntmps25
  have s0 : Hid (Kn ((w.alloc (.cells (bR (A)).toArray 22)).alloc (.cells #[Value.int IntKind.u64 0, Value.int IntKind.u64 0, Value.int IntKind.u64 0, Value.int IntKind.u64 0, Value.int IntKind.u64 0, Value.int IntKind.u64 0, Value.int IntKind.u64 0, Value.int IntKind.u64 0, Value.int IntKind.u64 0, Value.int IntKind.u64 0, Value.int IntKind.u64 0, Value.int IntKind.u64 0] 67)) [(w.heap.size + 1, cmZ), (w.heap.size, (bR (A)))]) := (((Kn.nil w).al (bR (A)) 22 rfl).al cmZ 67 (by simp))
  have b0 : Hid (Below w.heap.size w ((w.alloc (.cells (bR (A)).toArray 22)).alloc (.cells #[Value.int IntKind.u64 0, Value.int IntKind.u64 0, Value.int IntKind.u64 0, Value.int IntKind.u64 0, Value.int IntKind.u64 0, Value.int IntKind.u64 0, Value.int IntKind.u64 0, Value.int IntKind.u64 0, Value.int IntKind.u64 0, Value.int IntKind.u64 0, Value.int IntKind.u64 0, Value.int IntKind.u64 0] 67))) := (((Below.refl _ _).alloc (Nat.le_refl _) _).alloc (by simp <;> omega) _)
  have s1 : Hid (Kn (((w.alloc (.cells (bR (A)).toArray 22)).alloc (.cells #[Value.int IntKind.u64 0, Value.int IntKind.u64 0, Value.int IntKind.u64 0, Value.int IntKind.u64 0, Value.int IntKind.u64 0, Value.int IntKind.u64 0, Value.int IntKind.u64 0, Value.int IntKind.u64 0, Value.int IntKind.u64 0, Value.int IntKind.u64 0, Value.int IntKind.u64 0, Value.int IntKind.u64 0] 67)).alloc (.cells #[Value.int IntKind.u8 0, Value.int IntKind.u8 0, Value.int IntKind.u8 0, Value.int IntKind.u8 0, Value.int IntKind.u8 0, Value.int IntKind.u8 0, Value.int IntKind.u8 0, Value.int IntKind.u8 0, Value.int IntKind.u8 0, Value.int IntKind.u8 0, Value.int IntKind.u8 0, Value.int IntKind.u8 0, Value.int IntKind.u8 0, Value.int IntKind.u8 0, Value.int IntKind.u8 0, Value.int IntKind.u8 0, Value.int IntKind.u8 0, Value.int IntKind.u8 0, Value.int IntKind.u8 0, Value.int IntKind.u8 0, Value.int IntKind.u8 0, Value.int IntKind.u8 0, Value.int IntKind.u8 0, Value.int IntKind.u8 0, Value.int IntKind.u8 0, Value.int IntKind.u8 0, Value.int IntKind.u8 0, Value.int IntKind.u8 0, Value.int IntKind.u8 0, Value.int IntKind.u8 0, Value.int IntKind.u8 0, Value.int IntKind.u8 0] 22)) [(w.heap.size + 1 + 1, bZ), (w.heap.size + 1, cmZ), (w.heap.size, (bR (A)))]) := s0.out.al bZ 22 (by simp)
  have b1 : Hid (Below w.heap.size w (((w.alloc (.cells (bR (A)).toArray 22)).alloc (.cells #[Value.int IntKind.u64 0, Value.int IntKind.u64 0, Value.int IntKind.u64 0, Value.int IntKind.u64 0, Value.int IntKind.u64 0, Value.int IntKind.u64 0, Value.int IntKind.u64 0, Value.int IntKind.u64 0, Value.int IntKind.u64 0, Value.int IntKind.u64 0, Value.int IntKind.u64 0, Value.int IntKind.u64 0] 67)).alloc (.cells #[Value.int IntKind.u8 0, Value.int IntKind.u8 0, Value.int IntKind.u8 0, Value.int IntKind.u8 0, Value.int IntKind.u8 0, Value.int IntKind.u8 0, Value.int IntKind.u8 0, Value.int IntKind.u8 0, Value.int IntKind.u8 0, Value.int IntKind.u8 0, Value.int IntKind.u8 0, Value.int IntKind.u8 0, Value.int IntKind.u8 0, Value.int IntKind.u8 0, Value.int IntKind.u8 0, Value.int IntKind.u8 0, Value.int IntKind.u8 0, Value.int IntKind.u8 0, Value.int IntKind.u8 0, Value.int IntKind.u8 0, Value.int IntKind.u8 0, Value.int IntKind.u8 0, Value.int IntKind.u8 0, Value.int IntKind.u8 0, Value.int IntKind.u8 0, Value.int IntKind.u8 0, Value.int IntKind.u8 0, Value.int IntKind.u8 0, Value.int IntKind.u8 0, Value.int IntKind.u8 0, Value.int IntKind.u8 0, Value.int IntKind.u8 0] 22))) := b0.out.alloc b0.out.size _
  have z1 := b0.out.size
  clear s0 b0
  have s2 : Hid (Kn ((((w.alloc (.cells (bR (A)).toArray 22)).alloc (.cells #[Value.int IntKind.u64 0, Value.int IntKind.u64 0, Value.int IntKind.u64 0, Value.int IntKind.u64 0, Value.int IntKind.u64 0, Value.int IntKind.u64 0, Value.int IntKind.u64 0, Value.int IntKind.u64 0, Value.int IntKind.u64 0, Value.int IntKind.u64 0, Value.int IntKind.u64 0, Value.int IntKind.u64 0] 67)).alloc (.cells #[Value.int IntKind.u8 0, Value.int IntKind.u8 0, Value.int IntKind.u8 0, Value.int IntKind.u8 0, Value.int IntKind.u8 0, Value.int IntKind.u8 0, Value.int IntKind.u8 0, Value.int IntKind.u8 0, Value.int IntKind.u8 0, Value.int IntKind.u8 0, Value.int IntKind.u8 0, Value.int IntKind.u8 0, Value.int IntKind.u8 0, Value.int IntKind.u8 0, Value.int IntKind.u8 0, Value.int IntKind.u8 0, Value.int IntKind.u8 0, Value.int IntKind.u8 0, Value.int IntKind.u8 0, Value.int IntKind.u8 0, Value.int IntKind.u8 0, Value.int IntKind.u8 0, Value.int IntKind.u8 0, Value.int IntKind.u8 0, Value.int IntKind.u8 0, Value.int IntKind.u8 0, Value.int IntKind.u8 0, Value.int IntKind.u8 0, Value.int IntKind.u8 0, Value.int IntKind.u8 0, Value.int IntKind.u8 0, Value.int IntKind.u8 0] 22)).alloc (.cells #[Value.int IntKind.u8 0, Value.int IntKind.u8 0, Value.int IntKind.u8 0, Value.int IntKind.u8 0, Value.int IntKind.u8 0, Value.int IntKind.u8 0, Value.int IntKind.u8 0, Value.int IntKind.u8 0, Value.int IntKind.u8 0, Value.int IntKind.u8 0, Value.int IntKind.u8 0, Value.int IntKind.u8 0, Value.int IntKind.u8 0, Value.int IntKind.u8 0, Value.int IntKind.u8 0, Value.int IntKind.u8 0, Value.int IntKind.u8 0, Value.int IntKind.u8 0, Value.int IntKind.u8 0, Value.int IntKind.u8 0, Value.int IntKind.u8 0, Value.int IntKind.u8 0, Value.int IntKind.u8 0, Value.int IntKind.u8 0, Value.int IntKind.u8 0, Value.int IntKind.u8 0, Value.int IntKind.u8 0, Value.int IntKind.u8 0, Value.int IntKind.u8 0, Value.int IntKind.u8 0, Value.int IntKind.u8 0, Value.int IntKind.u8 0] 22)) [(w.heap.size + 1 + 1 + 1, bZ), (w.heap.size + 1 + 1, bZ), (w.heap.size + 1, cmZ), (w.heap.size, (bR (A)))]) := s1.out.al bZ 22 (by simp)
  have b2 : Hid (Below w.heap.size w ((((w.alloc (.cells (bR (A)).toArray 22)).alloc (.cells #[Value.int IntKind.u64 0, Value.int IntKind.u64 0, Value.int IntKind.u64 0, Value.int IntKind.u64 0, Value.int IntKind.u64 0, Value.int IntKind.u64 0, Value.int IntKind.u64 0, Value.int IntKind.u64 0, Value.int IntKind.u64 0, Value.int IntKind.u64 0, Value.int IntKind.u64 0, Value.int IntKind.u64 0] 67)).alloc (.cells #[Value.int IntKind.u8 0, Value.int IntKind.u8 0, Value.int IntKind.u8 0, Value.int IntKind.u8 0, Value.int IntKind.u8 0, Value.int IntKind.u8 0, Value.int IntKind.u8 0, Value.int IntKind.u8 0, Value.int IntKind.u8 0, Value.int IntKind.u8 0, Value.int IntKind.u8 0, Value.int IntKind.u8 0, Value.int IntKind.u8 0, Value.int IntKind.u8 0, Value.int IntKind.u8 0, Value.int IntKind.u8 0, Value.int IntKind.u8 0, Value.int IntKind.u8 0, Value.int IntKind.u8 0, Value.int IntKind.u8 0, Value.int IntKind.u8 0, Value.int IntKind.u8 0, Value.int IntKind.u8 0, Value.int IntKind.u8 0, Value.int IntKind.u8 0, Value.int IntKind.u8 0, Value.int IntKind.u8 0, Value.int IntKind.u8 0, Value.int IntKind.u8 0, Value.int IntKind.u8 0, Value.int IntKind.u8 0, Value.int IntKind.u8 0] 22)).alloc (.cells #[Value.int IntKind.u8 0, Value.int IntKind.u8 0, Value.int IntKind.u8 0, Value.int IntKind.u8 0, Value.int IntKind.u8 0, Value.int IntKind.u8 0, Value.int IntKind.u8 0, Value.int IntKind.u8 0, Value.int IntKind.u8 0, Value.int IntKind.u8 0, Value.int IntKind.u8 0, Value.int IntKind.u8 0, Value.int IntKind.u8 0, Value.int IntKind.u8 0, Value.int IntKind.u8 0, Value.int IntKind.u8 0, Value.int IntKind.u8 0, Value.int IntKind.u8 0, Value.int IntKind.u8 0, Value.int IntKind.u8 0, Value.int IntKind.u8 0, Value.int IntKind.u8 0, Value.int IntKind.u8 0, Value.int IntKind.u8 0, Value.int IntKind.u8 0, Value.int IntKind.u8 0, Value.int IntKind.u8 0, Value.int IntKind.u8 0, Value.int IntKind.u8 0, Value.int IntKind.u8 0, Value.int IntKind.u8 0, Value.int IntKind.u8 0] 22))) := b1.out.alloc b1.out.size _
  have z2 := b1.out.size
  clear s1 b1
  have R1 : Hid (((((w.alloc (.cells (bR A).toArray 22)).alloc (.cells #[Value.int IntKind.u64 0, Value.int IntKind.u64 0, Value.int IntKind.u64 0, Value.int IntKind.u64 0, Value.int IntKind.u64 0, Value.int IntKind.u64 0, Value.int IntKind.u64 0, Value.int IntKind.u64 0, Value.int IntKind.u64 0, Value.int IntKind.u64 0, Value.int IntKind.u64 0, Value.int IntKind.u64 0] 67)).alloc (.cells #[Value.int IntKind.u8 0, Value.int IntKind.u8 0, Value.int IntKind.u8 0, Value.int IntKind.u8 0, Value.int IntKind.u8 0, Value.int IntKind.u8 0, Value.int IntKind.u8 0, Value.int IntKind.u8 0, Value.int IntKind.u8 0, Value.int IntKind.u8 0, Value.int IntKind.u8 0, Value.int IntKind.u8 0, Value.int IntKind.u8 0, Value.int IntKind.u8 0, Value.int IntKind.u8 0, Value.int IntKind.u8 0, Value.int IntKind.u8 0, Value.int IntKind.u8 0, Value.int IntKind.u8 0, Value.int IntKind.u8 0, Value.int IntKind.u8 0, Value.int IntKind.u8 0, Value.int IntKind.u8 0, Value.int IntKind.u8 0, Value.int IntKind.u8 0, Value.int IntKind.u8 0, Value.int IntKind.u8 0, Value.int IntKind.u8 0, Value.int IntKind.u8 0, Value.int IntKind.u8 0, Value.int IntKind.u8 0, Value.int IntKind.u8 0] 22)).alloc (.cells #[Value.int IntKind.u8 0, Value.int IntKind.u8 0, Value.int IntKind.u8 0, Value.int IntKind.u8 0, Value.int IntKind.u8 0, Value.int IntKind.u8 0, Value.int IntKind.u8 0, Value.int IntKind.u8 0, Value.int IntKind.u8 0, Value.int IntKind.u8 0, Value.int IntKind.u8 0, Value.int IntKind.u8 0, Value.int IntKind.u8 0, Value.int IntKind.u8 0, Value.int IntKind.u8 0, Value.int IntKind.u8 0, Value.int IntKind.u8 0, Value.int IntKind.u8 0, Value.int IntKind.u8 0, Value.int IntKind.u8 0, Value.int IntKind.u8 0, Value.int IntKind.u8 0, Value.int IntKind.u8 0, Value.int IntKind.u8 0, Value.int IntKind.u8 0, Value.int IntKind.u8 0, Value.int IntKind.u8 0, Value.int IntKind.u8 0, Value.int IntKind.u8 0, Value.int IntKind.u8 0, Value.int IntKind.u8 0, Value.int IntKind.u8 0] 22)).rangeAt g o ((q.take 32).map b8)) := By.rng_take (HQ.out.up b2.out (Nat.le_refl _)) 32
  have T1 : Hid (((((w.alloc (.cells (bR A).toArray 22)).alloc (.cells #[Value.int IntKind.u64 0, Value.int IntKind.u64 0, Value.int IntKind.u64 0, Value.int IntKind.u64 0, Value.int IntKind.u64 0, Value.int IntKind.u64 0, Value.int IntKind.u64 0, Value.int IntKind.u64 0, Value.int IntKind.u64 0, Value.int IntKind.u64 0, Value.int IntKind.u64 0, Value.int IntKind.u64 0] 67)).alloc (.cells #[Value.int IntKind.u8 0, Value.int IntKind.u8 0, Value.int IntKind.u8 0, Value.int IntKind.u8 0, Value.int IntKind.u8 0, Value.int IntKind.u8 0, Value.int IntKind.u8 0, Value.int IntKind.u8 0, Value.int IntKind.u8 0, Value.int IntKind.u8 0, Value.int IntKind.u8 0, Value.int IntKind.u8 0, Value.int IntKind.u8 0, Value.int IntKind.u8 0, Value.int IntKind.u8 0, Value.int IntKind.u8 0, Value.int IntKind.u8 0, Value.int IntKind.u8 0, Value.int IntKind.u8 0, Value.int IntKind.u8 0, Value.int IntKind.u8 0, Value.int IntKind.u8 0, Value.int IntKind.u8 0, Value.int IntKind.u8 0, Value.int IntKind.u8 0, Value.int IntKind.u8 0, Value.int IntKind.u8 0, Value.int IntKind.u8 0, Value.int IntKind.u8 0, Value.int IntKind.u8 0, Value.int IntKind.u8 0, Value.int IntKind.u8 0] 22)).alloc (.cells #[Value.int IntKind.u8 0, Value.int IntKind.u8 0, Value.int IntKind.u8 0, Value.int IntKind.u8 0, Value.int IntKind.u8 0, Value.int IntKind.u8 0, Value.int IntKind.u8 0, Value.int IntKind.u8 0, Value.int IntKind.u8 0, Value.int IntKind.u8 0, Value.int IntKind.u8 0, Value.int IntKind.u8 0, Value.int IntKind.u8 0, Value.int IntKind.u8 0, Value.int IntKind.u8 0, Value.int IntKind.u8 0, Value.int IntKind.u8 0, Value.int IntKind.u8 0, Value.int IntKind.u8 0, Value.int IntKind.u8 0, Value.int IntKind.u8 0, Value.int IntKind.u8 0, Value.int IntKind.u8 0, Value.int IntKind.u8 0, Value.int IntKind.u8 0, Value.int IntKind.u8 0, Value.int IntKind.u8 0, Value.int IntKind.u8 0, Value.int IntKind.u8 0, Value.int IntKind.u8 0, Value.int IntKind.u8 0, Value.int IntKind.u8 0] 22)).there (w.heap.size + 1 + 1) 0 (q.take 32).length) := by
    have := Kn.there (us := bR 0) s2.out 1 rfl (by rw [bR_length, bZ_length])
    rw [L1.out]
    rw [bR_length] at this
    exact this
  go_wp2_with (first | simp only [zero_clm] | simp only [zero_b32] | refine wp_all32 rfl _ rfl (w.heap.size + 1 + 1) rfl ?_ | refine wp_copyR rfl _ _ rfl (w.heap.size + 1 + 1) 0 32 32 g o 64 cu (q.take 32) rfl rfl (by rw [L1.out]; rfl) R1.out T1.out ?_)
  intro w3 hw3
  have s3 : Hid (Kn w3 [(w.heap.size + 1 + 1, bR R), (w.heap.size + 1 + 1 + 1, bZ), (w.heap.size + 1, cmZ), (w.heap.size, bR A)]) := by
    rw [hw3.out, Q1.out]
    exact Kn.put (s2.out.front 1 rfl) (by rw [bR_length, bZ_length])
  have b3 : Hid (Below w.heap.size w w3) := by rw [hw3.out]; exact I.below_setCells _ _ _ b2.out (by omega)
  clear hw3 s2 b2 R1 T1
  go_wp2_with fail
  refine wp_region_two 0 1 [2, 3] [_, _] (.slice (some ⟨w.heap.size + 1 + 1 + 1, 0, none⟩) 32 32) (.slice (some ⟨g, o, none⟩) 64 cu) (by kernel_rfl) (by kernel_rfl) (fun _ _ d _ _ h => by cases d <;> exact h) rfl rfl (by kernel_rfl) (by kernel_rfl) rfl rfl (by kernel_rfl) (.inl ⟨rfl, exec_all32 _ rfl _ rfl⟩) (.inl ⟨rfl, exec_mv _ rfl rfl⟩) ?_
  intro w4 hb4 hh4
  clear hh4
  simp only [Act.put, List.setIfInBounds_toArray, List.set_cons_succ, List.set_cons_zero, List.getElem_toArray, List.getElem_cons_zero, List.getElem_cons_succ]
  have s4 : Hid (Kn w4 [(w.heap.size + 1 + 1, bR R), (w.heap.size + 1 + 1 + 1, bZ), (w.heap.size + 1, cmZ), (w.heap.size, bR A)]) := s3.out.up hb4.out
  have b4 : Hid (Below w.heap.size w w4) := b3.out.trans (hb4.out.mono b3.out.size)
  clear s3 b3 hb4
  refine wp_cutB rfl _ _ rfl (some ⟨g, o, none⟩) 64 cu 32 .i64 32 q rfl LQ.out.symm rfl rfl (by rw [LQ.out]; decide) w4 (HQ.out.up b4.out (Nat.le_refl _)) ?_
  intro v4 hy4
  obtain ⟨a4, c4', rfl⟩ := By.len hy4
  obtain ⟨g4, o4, rfl, _, R4⟩ := hy4.range (by rw [L2.out]; decide)
  have T4 : Hid (w4.there (w.heap.size + 1 + 1 + 1) 0 (q.drop 32).length) := by
    have := Kn.there (us := bR 0) s4.out 1 rfl (by rw [bR_length, bZ_length])
    rw [L2.out]
    rw [bR_length] at this
    exact this
  rw [L2.out]
  refine wp_copyR rfl _ _ rfl (w.heap.size + 1 + 1 + 1) 0 32 32 g4 o4 32 c4' (q.drop 32) rfl rfl (by rw [L2.out]; rfl) R4 T4.out ?_
  intro w5 hw5
  have s5 : Hid (Kn w5 [(w.heap.size + 1 + 1 + 1, bR s), (w.heap.size + 1 + 1, bR R), (w.heap.size + 1, cmZ), (w.heap.size, bR A)]) := by
    rw [hw5.out, Q2.out]
    exact Kn.put (s4.out.front 1 rfl) (by rw [bR_length, bZ_length])
  have b5 : Hid (Below w.heap.size w w5) := by rw [hw5.out]; exact I.below_setCells _ _ _ b4.out (by omega)
  clear hw5 s4 b4 R4 T4 hy4 HQ LQ Q1 Q2 L1 L2
  generalize w.heap.size + 1 + 1 + 1 = ks at *
  generalize w.heap.size + 1 + 1 = kf at *
  go_wp2_with (first | refine wp_ldW rfl 22 _ rfl (w.heap.size) 0 rfl (bR (A)) _ (Kn.rng s5.out 3 rfl) Tryd.underlying22 rfl (info_bR (A)) ?_ | simp only [Act.put, List.setIfInBounds_toArray, List.set_cons_succ, List.set_cons_zero])
  refine (UA _).mono ?_
  rintro e w6 ⟨rfl, hb6⟩
  have s6 : Hid (Kn w6 [(ks, (bR (s))), (kf, (bR (R))), (w.heap.size + 1, cmZ), (w.heap.size, (bR (A)))]) := s5.out.up hb6
  have b6 : Hid (Below w.heap.size w w6) := b5.out.trans (hb6.mono b5.out.size)
  have z6 := b6.out.size
  clear hb6 s5 b5
  have s7 : Hid (Kn (kalP w6 (ax) (ay)) [(w6.heap.size, (c8 (ax) (ay))), (ks, (bR (s))), (kf, (bR (R))), (w.heap.size + 1, cmZ), (w.heap.size, (bR (A)))]) := s6.out.al (c8 (ax) (ay)) 34 rfl
  have b7 : Hid (Below w.heap.size w (kalP w6 (ax) (ay))) := b6.out.alloc b6.out.size _
  have z7 := b6.out.size
  clear s6 b6
  go_wp2_with (first | refine wp_ldW rfl 22 _ rfl kf 0 rfl (bR (R)) _ (Kn.rng s7.out 2 rfl) Tryd.underlying22 rfl (info_bR (R)) ?_)
  refine (UR _).mono ?_
  rintro e w8 ⟨rfl, hb8⟩
  have s8 : Hid (Kn w8 [(w6.heap.size, (c8 (ax) (ay))), (ks, (bR (s))), (kf, (bR (R))), (w.heap.size + 1, cmZ), (w.heap.size, (bR (A)))]) := s7.out.up hb8
  have b8 : Hid (Below w.heap.size w w8) := b7.out.trans (hb8.mono b7.out.size)
  have z8 := b8.out.size
  clear hb8 s7 b7
  have s9 : Hid (Kn (kalP w8 (rx) (ry)) [(w8.heap.size, (c8 (rx) (ry))), (w6.heap.size, (c8 (ax) (ay))), (ks, (bR (s))), (kf, (bR (R))), (w.heap.size + 1, cmZ), (w.heap.size, (bR (A)))]) := s8.out.al (c8 (rx) (ry)) 34 rfl
  have b9 : Hid (Below w.heap.size w (kalP w8 (rx) (ry))) := b8.out.alloc b8.out.size _
  have z9 := b8.out.size
  clear s8 b8
  go_wp2_with (first | refine wp_ldW rfl 22 _ rfl ks 0 rfl (bR (s)) _ (Kn.rng s9.out 2 rfl) Tryd.underlying22 rfl (info_bR (s)) ?_)
  refine (OF _).mono ?_
  rintro e w10 ⟨rfl, hb10⟩
  have s10 : Hid (Kn w10 [(w8.heap.size, (c8 (rx) (ry))), (w6.heap.size, (c8 (ax) (ay))), (ks, (bR (s))), (kf, (bR (R))), (w.heap.size + 1, cmZ), (w.heap.size, (bR (A)))]) := s9.out.up hb10
  have b10 : Hid (Below w.heap.size w w10) := b9.out.trans (hb10.mono b9.out.size)
  have z10 := b10.out.size
  clear hb10 s9 b9
  have s11 : Hid (Kn (kal4 w10 (so)) [(w10.heap.size, (c4 (so))), (w8.heap.size, (c8 (rx) (ry))), (w6.heap.size, (c8 (ax) (ay))), (ks, (bR (s))), (kf, (bR (R))), (w.heap.size + 1, cmZ), (w.heap.size, (bR (A)))]) := s10.out.al (c4 (so)) 26 rfl
  have b11 : Hid (Below w.heap.size w (kal4 w10 (so))) := b10.out.alloc b10.out.size _
  have z11 := b10.out.size
  clear s10 b10
  go_wp2_with fail
  refine wp_region_up (by kernel_rfl) (by kernel_rfl) (fun U hU f hf hcl => ?_)
  have uo_0 := fun nx => (Kn.get (s11.out.up (hf nx).out) 0 0 rfl rfl : (f nx).cell? ⟨w10.heap.size, 0, none⟩ = some (.int .u64 (so).a))
  have uo_1 := fun nx => (Kn.get (s11.out.up (hf nx).out) 0 1 rfl rfl : (f nx).cell? ⟨w10.heap.size, 1, none⟩ = some (.int .u64 (so).b))
  have uo_2 := fun nx => (Kn.get (s11.out.up (hf nx).out) 0 2 rfl rfl : (f nx).cell? ⟨w10.heap.size, 2, none⟩ = some (.int .u64 (so).c))
  have uo_3 := fun nx => (Kn.get (s11.out.up (hf nx).out) 0 3 rfl rfl : (f nx).cell? ⟨w10.heap.size, 3, none⟩ = some (.int .u64 (so).d))
  try simp only [List.append_eq, List.cons_append, List.nil_append]
  repeat (go_big_quiet_step (first | (go_at_call 11; exact (SL _).mono fun e w'' ⟨he, hb⟩ => ⟨he, hcl.out _ _ hb⟩) | (go_at_call 10; exact (CM _).mono fun e w'' ⟨he, hb⟩ => ⟨he, hcl.out _ _ hb⟩)))
  refine wpQuiet_nil ?_
  intro nx
  have hb12 := (hf nx).out
  clear hf hcl uo_0 uo_1 uo_2 uo_3
  generalize f nx = w12 at hb12 ⊢
  have s12 : Hid (Kn w12 [(w10.heap.size, (c4 (so))), (w8.heap.size, (c8 (rx) (ry))), (w6.heap.size, (c8 (ax) (ay))), (ks, (bR (s))), (kf, (bR (R))), (w.heap.size + 1, cmZ), (w.heap.size, (bR (A)))]) := s11.out.up hb12
  have b12 : Hid (Below w.heap.size w w12) := b11.out.trans (hb12.mono b11.out.size)
  have z12 := b12.out.size
  clear hb12 s11 b11
  go_wp2_with fail
  have G : Hid _ := s12
  have KU : Hid (∀ W, Below w12.heap.size w12 W → KTab W) := fun W hW => HT.out.up (b12.out.trans (hW.mono b12.out.size)) HT.out.pos
  have VU : Hid (∀ W, Below w12.heap.size w12 W → By W (.slice av nv cv) p) := fun W hW => HV.out.up (b12.out.trans (hW.mono b12.out.size)) (Nat.le_refl _)
  refine wp_region_monoSE 6 [MP.eq (.slice (some ⟨kf, 0, none⟩) 32 32), MP.eq (.slice (some ⟨w.heap.size, 0, none⟩) 32 32), MP.eq (.slice av nv cv), MP.rw_ [S.by R, S.by A, p], MP.eq (N cn), MP.made w12.heap.size zz4] (by kernel_rfl) (by kernel_rfl) rfl (by decide) (by kernel_rfl) ?_
  apply Exists.intro
  refine ⟨fun vals => ?_, ?_, fun vals13 w13 hb13 hF hO => ?_⟩
  · simp only [putsV, dstL, List.length_cons, List.length_nil, Nat.zero_add, Nat.reduceAdd, List.getElem?_cons_zero, List.getElem?_cons_succ, Option.bind_some, Act.put, List.setIfInBounds_toArray, List.set_cons_succ, List.set_cons_zero]
    rfl
  · refine ⟨?_, ?_, ?_, ?_, ?_, ?_, trivial⟩
    · intro vals W hW hw hd
      try simp [Region.binds] at hd
      refine ⟨by first | rfl | simp [Region.wanted, yielded, hd], ?_⟩
      exact yields_all u_b32 u_b32r (by decide) (.tmp 8) rfl kf 0 rfl rfl
    · intro vals W hW hw hd
      try simp [Region.binds] at hd
      refine ⟨by first | rfl | simp [Region.wanted, yielded, hd], ?_⟩
      exact yields_all u_b32 u_b32r (by decide) (.tmp 3) rfl w.heap.size 0 rfl rfl
    · intro vals W hW hw hd
      try simp [Region.binds] at hd
      refine ⟨by first | rfl | simp [Region.wanted, yielded, hd], ?_⟩
      exact yields_mv (.tmp 1) rfl rfl
    · intro vals W hW hw hd
      try simp [Region.binds] at hd
      refine ⟨by first | rfl | simp [Region.wanted, yielded, hd], ?_⟩
      exact yields_rw3 (.tmp 51) (.tmp 52) (.tmp 53) rfl (by first | exact hd | exact hd.1 | exact hd.2 | exact hd.2.1 | exact hd.2.2 | exact hd.2.2.1 | exact hd.2.2.2 | exact hd.2.2.2.1 | exact hd.2.2.2.2) (by first | exact hd | exact hd.1 | exact hd.2 | exact hd.2.1 | exact hd.2.2 | exact hd.2.2.1 | exact hd.2.2.2 | exact hd.2.2.2.1 | exact hd.2.2.2.2) (by first | exact hd | exact hd.1 | exact hd.2 | exact hd.2.1 | exact hd.2.2 | exact hd.2.2.1 | exact hd.2.2.2 | exact hd.2.2.2.1 | exact hd.2.2.2.2) (By.of_rng (Kn.rng (G.out.up hW.out) 4 rfl)) (By.of_rng (Kn.rng (G.out.up hW.out) 6 rfl)) (VU.out W hW.out)
    · intro vals W hW hw hd
      try simp [Region.binds] at hd
      refine ⟨by first | rfl | simp [Region.wanted, yielded, hd], ?_⟩
      exact yields_call2 cfDg (.const (.int .u8 4)) (.tmp 54) _ rfl _ _ rfl rfl ((DG.out _ W (by first | exact hd | exact hd.1 | exact hd.2 | exact hd.2.1 | exact hd.2.2 | exact hd.2.2.1 | exact hd.2.2.2 | exact hd.2.2.2.1 | exact hd.2.2.2.2) (KU.out W hW.out)).mono fun e w' ⟨he, hb⟩ => ⟨_, he, rfl, hb⟩)
    · intro vals W hW hw hd
      try simp [Region.binds] at hd
      refine ⟨by first | rfl | simp [Region.wanted, yielded, hd], ?_⟩
      exact yields_mk rfl zero_n4 hW.out.size
  obtain ⟨f0, f1, f2, f3, f4, f5, _⟩ := hF
  simp only [MP.eq_p] at f0 f1 f2 f4
  obtain ⟨gc, eg, hg, bg⟩ := f5
  rw [f4, eg]
  simp only [List.drop_succ_cons, List.drop_zero]
  have s13 : Hid (Kn w13 [(gc, zz4), (w10.heap.size, c4 so), (w8.heap.size, c8 rx ry), (w6.heap.size, c8 ax ay), (ks, bR s), (kf, bR R), (w.heap.size + 1, cmZ), (w.heap.size, bR A)]) := s12.out.fresh_of hb13.out hg bg
  have b13 : Hid (Below w.heap.size w w13) := b12.out.trans (hb13.out.mono b12.out.size)
  have gg : w.heap.size ≤ gc := Nat.le_trans b12.out.size hg
  clear f0 f1 f2 f3 f4 eg hg bg hO hb13 s12 b12 G KU VU
  generalize w10.heap.size = ko at *
  generalize w8.heap.size = kr at *
  generalize w6.heap.size = ka at *
  have uco_0 : w13.cell? ⟨gc, 0, none⟩ = some (.int .u64 0) := Kn.get s13.out 0 0 rfl rfl
  have uco_1 : w13.cell? ⟨gc, 1, none⟩ = some (.int .u64 0) := Kn.get s13.out 0 1 rfl rfl
  have uco_2 : w13.cell? ⟨gc, 2, none⟩ = some (.int .u64 0) := Kn.get s13.out 0 2 rfl rfl
  have uco_3 : w13.cell? ⟨gc, 3, none⟩ = some (.int .u64 0) := Kn.get s13.out 0 3 rfl rfl
  have uco_z : ∀ j, w13.frozen? ⟨gc, j, none⟩ = false := Kn.fz s13.out 0 rfl
  have s14 : Hid (Kn (st4 w13 gc (cn)) [(gc, (c4 (cn))), (ko, (c4 (so))), (kr, (c8 (rx) (ry))), (ka, (c8 (ax) (ay))), (ks, (bR (s))), (kf, (bR (R))), (w.heap.size + 1, cmZ), (w.heap.size, (bR (A)))]) := Kn.st4 (L := [(ko, (c4 (so))), (kr, (c8 (rx) (ry))), (ka, (c8 (ax) (ay))), (ks, (bR (s))), (kf, (bR (R))), (w.heap.size + 1, cmZ), (w.heap.size, (bR (A)))]) (s13.out.front 0 rfl) (cn)
  have b14 : Hid (Below w.heap.size w (st4 w13 gc (cn))) := below_st4 b13.out (by omega)
  clear s13 b13
  go_wp2_with fail
  clear uco_0 uco_1 uco_2 uco_3 uco_z
  refine wp_region_up_then 7 (by kernel_rfl) (by kernel_rfl) (by kernel_rfl) (by kernel_rfl) (by decide) (fun _ _ d _ _ h => by cases d <;> exact h) (fun U hU f hf hcl => ?_)
  have uo_0 := fun nx => (Kn.get (s14.out.up (hf nx).out) 1 0 rfl rfl : (f nx).cell? ⟨ko, 0, none⟩ = some (.int .u64 (so).a))
  have uo_1 := fun nx => (Kn.get (s14.out.up (hf nx).out) 1 1 rfl rfl : (f nx).cell? ⟨ko, 1, none⟩ = some (.int .u64 (so).b))
  have uo_2 := fun nx => (Kn.get (s14.out.up (hf nx).out) 1 2 rfl rfl : (f nx).cell? ⟨ko, 2, none⟩ = some (.int .u64 (so).c))
  have uo_3 := fun nx => (Kn.get (s14.out.up (hf nx).out) 1 3 rfl rfl : (f nx).cell? ⟨ko, 3, none⟩ = some (.int .u64 (so).d))
  have ur_0 := fun nx => (Kn.get (s14.out.up (hf nx).out) 2 0 rfl rfl : (f nx).cell? ⟨kr, 0, none⟩ = some (.int .u64 (rx).a))
  have ur_1 := fun nx => (Kn.get (s14.out.up (hf nx).out) 2 1 rfl rfl : (f nx).cell? ⟨kr, 1, none⟩ = some (.int .u64 (rx).b))
  have ur_2 := fun nx => (Kn.get (s14.out.up (hf nx).out) 2 2 rfl rfl : (f nx).cell? ⟨kr, 2, none⟩ = some (.int .u64 (rx).c))
  have ur_3 := fun nx => (Kn.get (s14.out.up (hf nx).out) 2 3 rfl rfl : (f nx).cell? ⟨kr, 3, none⟩ = some (.int .u64 (rx).d))
  have ur_4 := fun nx => (Kn.get (s14.out.up (hf nx).out) 2 4 rfl rfl : (f nx).cell? ⟨kr, 4, none⟩ = some (.int .u64 (ry).a))
  have ur_5 := fun nx => (Kn.get (s14.out.up (hf nx).out) 2 5 rfl rfl : (f nx).cell? ⟨kr, 5, none⟩ = some (.int .u64 (ry).b))
  have ur_6 := fun nx => (Kn.get (s14.out.up (hf nx).out) 2 6 rfl rfl : (f nx).cell? ⟨kr, 6, none⟩ = some (.int .u64 (ry).c))
  have ur_7 := fun nx => (Kn.get (s14.out.up (hf nx).out) 2 7 rfl rfl : (f nx).cell? ⟨kr, 7, none⟩ = some (.int .u64 (ry).d))
  have uc_0 := fun nx => (Kn.get (s14.out.up (hf nx).out) 0 0 rfl rfl : (f nx).cell? ⟨gc, 0, none⟩ = some (.int .u64 (cn).a))
  have uc_1 := fun nx => (Kn.get (s14.out.up (hf nx).out) 0 1 rfl rfl : (f nx).cell? ⟨gc, 1, none⟩ = some (.int .u64 (cn).b))
  have uc_2 := fun nx => (Kn.get (s14.out.up (hf nx).out) 0 2 rfl rfl : (f nx).cell? ⟨gc, 2, none⟩ = some (.int .u64 (cn).c))
  have uc_3 := fun nx => (Kn.get (s14.out.up (hf nx).out) 0 3 rfl rfl : (f nx).cell? ⟨gc, 3, none⟩ = some (.int .u64 (cn).d))
  have ua_0 := fun nx => (Kn.get (s14.out.up (hf nx).out) 3 0 rfl rfl : (f nx).cell? ⟨ka, 0, none⟩ = some (.int .u64 (ax).a))
  have ua_1 := fun nx => (Kn.get (s14.out.up (hf nx).out) 3 1 rfl rfl : (f nx).cell? ⟨ka, 1, none⟩ = some (.int .u64 (ax).b))
  have ua_2 := fun nx => (Kn.get (s14.out.up (hf nx).out) 3 2 rfl rfl : (f nx).cell? ⟨ka, 2, none⟩ = some (.int .u64 (ax).c))
  have ua_3 := fun nx => (Kn.get (s14.out.up (hf nx).out) 3 3 rfl rfl : (f nx).cell? ⟨ka, 3, none⟩ = some (.int .u64 (ax).d))
  have ua_4 := fun nx => (Kn.get (s14.out.up (hf nx).out) 3 4 rfl rfl : (f nx).cell? ⟨ka, 4, none⟩ = some (.int .u64 (ay).a))
  have ua_5 := fun nx => (Kn.get (s14.out.up (hf nx).out) 3 5 rfl rfl : (f nx).cell? ⟨ka, 5, none⟩ = some (.int .u64 (ay).b))
  have ua_6 := fun nx => (Kn.get (s14.out.up (hf nx).out) 3 6 rfl rfl : (f nx).cell? ⟨ka, 6, none⟩ = some (.int .u64 (ay).c))
  have ua_7 := fun nx => (Kn.get (s14.out.up (hf nx).out) 3 7 rfl rfl : (f nx).cell? ⟨ka, 7, none⟩ = some (.int .u64 (ay).d))
  simp only [List.take_succ_cons, List.take_zero, List.drop_succ_cons, List.drop_zero]
  repeat (first | (refine quiet_build2 rfl 67 _ _ rfl (N so) (Wv ux uy) (cmR so ux uy) rfl rfl (clm_built so ux uy) ?_; simp only [Act.put, List.setIfInBounds_toArray, List.set_cons_succ, List.set_cons_zero]) | go_big_quiet_step (first | (go_at_call 39; exact (TM _).mono fun e w'' ⟨he, hb⟩ => ⟨he, hcl.out _ _ hb⟩) | (go_at_call 53; exact (SU _).mono fun e w'' ⟨he, hb⟩ => ⟨he, hcl.out _ _ hb⟩)))
  refine wpQuiet_nil ?_
  intro nx
  have hb15 := (hf nx).out
  clear hf hcl uo_0 uo_1 uo_2 uo_3 ur_0 ur_1 ur_2 ur_3 ur_4 ur_5 ur_6 ur_7 uc_0 uc_1 uc_2 uc_3 ua_0 ua_1 ua_2 ua_3 ua_4 ua_5 ua_6 ua_7
  generalize f nx = w15 at hb15 ⊢
  have s15 : Hid (Kn w15 [(gc, (c4 (cn))), (ko, (c4 (so))), (kr, (c8 (rx) (ry))), (ka, (c8 (ax) (ay))), (ks, (bR (s))), (kf, (bR (R))), (w.heap.size + 1, cmZ), (w.heap.size, (bR (A)))]) := s14.out.up hb15
  have b15 : Hid (Below w.heap.size w w15) := b14.out.trans (hb15.mono b14.out.size)
  have z15 := b15.out.size
  clear hb15 s14 b14
  have s16x : Hid (Kn w15 [(w.heap.size + 1, cmZ), (gc, (c4 (cn))), (ko, (c4 (so))), (kr, (c8 (rx) (ry))), (ka, (c8 (ax) (ay))), (ks, (bR (s))), (kf, (bR (R))), (w.heap.size, (bR (A)))]) := s15.out.front 6 rfl
  have b16x : Hid (Below w.heap.size w w15) := b15.out
  have TT16 : Hid (w15.there (w.heap.size + 1) 0 (cmR (so) (ux) (uy)).length) := Kn.there s16x.out 0 rfl (by rw [(cmR_length (so) (ux) (uy)), cmZ_length])
  go_wp2_with (first | refine I.wp_store_eq rfl 67 _ _ rfl (w.heap.size + 1) 0 (cmR (so) (ux) (uy)) rfl rfl TT16.out (info_cmR (so) (ux) (uy)) (cmR_one (so) (ux) (uy)) ?_)
  intro w16 hw16
  try simp only [Act.put, List.setIfInBounds_toArray, List.set_cons_succ, List.set_cons_zero]
  have s16 : Hid (Kn w16 [(w.heap.size + 1, (cmR (so) (ux) (uy))), (gc, (c4 (cn))), (ko, (c4 (so))), (kr, (c8 (rx) (ry))), (ka, (c8 (ax) (ay))), (ks, (bR (s))), (kf, (bR (R))), (w.heap.size, (bR (A)))]) := by rw [hw16.out]; exact Kn.put s16x.out (by rw [(cmR_length (so) (ux) (uy)), cmZ_length])
  have b16 : Hid (Below w.heap.size w w16) := by rw [hw16.out]; exact I.below_setCells _ _ _ b16x.out (by omega)
  have z16 := b16.out.size
  clear hw16 s16x b16x TT16 s15 b15
  go_wp2_with fail
  exact bodyPost_ret (v := .tuple #[cmV so ux uy, .int .i64 0]) (results_row2 (b := w.heap.size + 1) rfl rfl rfl (Kn.rng s16.out 0 rfl) Tryd.underlying67 rfl (info_cmR (so) (ux) (uy))) rfl ⟨rfl, b16.out⟩
/-- What package sign reads of a signature. -/
def rdN (A : Nat) (p q : List Nat) : Except Nat (Nat × Cv.Pt) := if q.length = 64 then Sg.clm chN A p (S.le (q.take 32)) (S.le (q.drop 32)) else .error 1
theorem vrN_rd (A : Nat) (p q : List Nat) : vrN A p q = match rdN A p q with | .ok (s, T) => (if Cv.times s Cv.base = T then 0 else 5) | .error e => e := by
  unfold vrN rdN
  split
  · rfl
  · rfl
theorem rd_ok {A : Nat} (hA : A < 2 ^ 256) {p q : List Nat} (lq : lowP q) {s : Nat} {T : Cv.Pt} (h : rdN A p q = .ok (s, T)) : s < Cv.ord ∧ Cv.On T := by
  unfold rdN at h
  split at h
  · rename_i hl
    obtain ⟨a, r, ha, hr, hs, e⟩ := Sg.clm_ok h
    cases e
    have h1 := S.low (xs := q.take 32) (by rw [List.length_take, hl]; rfl) fun x hx => lq.1 x (List.mem_of_mem_take hx)
    exact ⟨hs, Cv.closed (Cv.unp_some h1 hr).1 (Cv.times_on (Cv.unp_some hA ha).1 _)⟩
  · cases h
theorem cmp_nm {a b : Nat} (ha : a < 2 ^ 256) (hb : b < 2 ^ 256) : cmpV (nm a) (nm b) = if a < b then -1 else if b < a then 1 else 0 := by
  have e1 : (nm a).val = (a : Int) := by rw [← Nm.nat_cast (nm_ok a), nm_nat ha]
  have e2 : (nm b).val = (b : Int) := by rw [← Nm.nat_cast (nm_ok b), nm_nat hb]
  unfold cmpV
  rw [e1, e2]
  simp only [Int.ofNat_lt]
def SgRdC : Prop := ∀ A, A < 2 ^ 256 → ∀ p q, lowP p → lowP q → ∀ v u w, By w v p → By w u q → KTab w → Calls Tryd.prog 25 #[bV A, v, u] w fun e w' => e = .returned (match rdN A p q with | .ok (s, T) => .tuple #[cmV (nm s) (nm T.1) (nm T.2), .int .i64 0] | .error e => .tuple #[cmV nO nO nO, .int .i64 (e : Int)]) ∧ Below w.heap.size w w'
theorem sgRdC : SgRdC := fun A hA p q lp lq v u w hv hu hT => by
  obtain ⟨av, nv, cv, rfl⟩ : ∃ av nv cv, v = .slice av nv cv := by
    obtain ⟨a, c, e, _⟩ := hv
    exact ⟨a, _, c, e⟩
  obtain ⟨au, cu, rfl⟩ := hu.len
  by_cases hl : q.length = 64
  · obtain ⟨g, o, rfl, _, _⟩ := hu.range (by omega)
    have l1 : (q.take 32).length = 32 := by rw [List.length_take, hl]; rfl
    have l2 : (q.drop 32).length = 32 := by rw [List.length_drop, hl]
    have w1 : ∀ x ∈ q.take 32, x < 256 := fun x hx => lq.1 x (List.mem_of_mem_take hx)
    have w2 : ∀ x ∈ q.drop 32, x < 256 := fun x hx => lq.1 x (List.mem_of_mem_drop hx)
    have q1 := S.row l1 w1
    have q2 := S.row l2 w2
    have h1 := S.low l1 w1
    have h2 := S.low l2 w2
    have e0 : rdN A p q = Sg.clm chN A p (S.le (q.take 32)) (S.le (q.drop 32)) := by unfold rdN; rw [if_pos hl]
    rw [e0]
    rw [hl] at hu ⊢
    generalize S.le (q.take 32) = R at *
    generalize S.le (q.drop 32) = s at *
    unfold Sg.clm
    cases ha : Cv.unp A with
    | none => exact sgRead_no1 A R s g o cu av nv cv p q hl q1 q2 ((cUnpC A hA).2 ha) w hv hu hT
    | some a =>
      have UA := (cUnpC A hA).1 a ha
      cases hr : Cv.unp R with
      | none => exact sgRead_no2 A R s g o cu av nv cv p q hl q1 q2 _ _ UA ((cUnpC R h1).2 hr) w hv hu hT
      | some r =>
        have UR := (cUnpC R h1).1 r hr
        have CM := cmp_fun (nm s) (nm Cv.ord) (nm_ok _) (nm_ok _)
        rw [cmp_nm h2 ord_lt] at CM
        by_cases hs : s < Cv.ord
        · rw [if_pos hs] at CM
          simp only [if_pos hs]
          have TM := sgTimes_fun (nm (chN R A p)) (nm_ok _) a (Cv.unp_some hA ha).1
          rw [nm_nat (chN_lt _ _ _)] at TM
          exact sgRead_ok A R s g o cu av nv cv p q hl q1 q2 _ _ _ _ _ _ _ _ _ _ _ UA UR (of_n s h2) sLC CM (fun u w hu hT => chN_fun R A p lp u w hu hT) TM (sgSum_fun _ _ (Cv.unp_some h1 hr).1 (Cv.times_on (Cv.unp_some hA ha).1 _)) w hv hu hT
        · rw [if_neg hs] at CM
          simp only [if_neg hs]
          exact sgRead_big A R s g o cu av nv cv p q hl q1 q2 _ _ _ _ _ _ (if Cv.ord < s then 1 else 0) (by split <;> simp) UA UR (of_n s h2) sLC CM w hv hu hT
  · have e0 : rdN A p q = .error 1 := by unfold rdN; rw [if_neg hl]
    rw [e0]
    exact sgRead_len A _ au q.length cu hl w
set_option maxRecDepth 20000 in
set_option maxHeartbeats 2000000 in
theorem sgVer_bad (A : Nat) (p q : List Nat) (e : Int) (he : Hid (¬ e = 0)) (v u : Value)
    (RD : Hid (∀ w, By w v p → By w u q → KTab w → Calls Tryd.prog 25 #[bV A, v, u] w fun r w' => r = .returned (.tuple #[cmV nO nO nO, .int .i64 e]) ∧ Below w.heap.size w w'))
    (w : World) (hv : By w v p) (hu : By w u q) (hT : KTab w) :
    Calls Tryd.prog 12 #[bV A, v, u] w fun r w' => r = .returned (.int .i64 e) ∧ Below w.heap.size w w' := by
  have HV : Hid (By w v p) := hv
  have HU : Hid (By w u q) := hu
  have HT : Hid (KTab w) := hT
  have n1 : (e != 0) = true := by have := he.out; simp [this]
  clear hv hu hT he
  go_enter Tryd.func12, Tryd.ntmps12
  have s0 : Hid (Kn (w.alloc (.cells (bR (A)).toArray 22)) [(w.heap.size, (bR (A)))]) := ((Kn.nil w).al (bR (A)) 22 rfl)
  have b0 : Hid (Below w.heap.size w (w.alloc (.cells (bR (A)).toArray 22))) := ((Below.refl _ _).alloc (Nat.le_refl _) _)
  go_wp2_with (first | refine wp_ldW rfl 22 _ rfl (w.heap.size) 0 rfl (bR (A)) _ (Kn.rng s0.out 0 rfl) Tryd.underlying22 rfl (info_bR (A)) ?_)
  refine (RD.out _ (HV.out.up b0.out (Nat.le_refl _)) (HU.out.up b0.out (Nat.le_refl _)) (HT.out.up b0.out HT.out.pos)).mono ?_
  rintro e w1 ⟨rfl, hb1⟩
  have s1 : Hid (Kn w1 [(w.heap.size, (bR (A)))]) := s0.out.up hb1
  have b1 : Hid (Below w.heap.size w w1) := b0.out.trans (hb1.mono b0.out.size)
  have z1 := b1.out.size
  clear hb1 s0 b0
  have s2x : Hid (Kn (w1.alloc (.cells #[Value.int IntKind.u64 0, Value.int IntKind.u64 0, Value.int IntKind.u64 0, Value.int IntKind.u64 0, Value.int IntKind.u64 0, Value.int IntKind.u64 0, Value.int IntKind.u64 0, Value.int IntKind.u64 0, Value.int IntKind.u64 0, Value.int IntKind.u64 0, Value.int IntKind.u64 0, Value.int IntKind.u64 0] 67)) [(w1.heap.size, cmZ), (w.heap.size, (bR (A)))]) := s1.out.al cmZ 67 rfl
  have b2x : Hid (Below w.heap.size w (w1.alloc (.cells #[Value.int IntKind.u64 0, Value.int IntKind.u64 0, Value.int IntKind.u64 0, Value.int IntKind.u64 0, Value.int IntKind.u64 0, Value.int IntKind.u64 0, Value.int IntKind.u64 0, Value.int IntKind.u64 0, Value.int IntKind.u64 0, Value.int IntKind.u64 0, Value.int IntKind.u64 0, Value.int IntKind.u64 0] 67))) := b1.out.alloc b1.out.size _
  have g2 : w.heap.size ≤ w1.heap.size := b1.out.size
  have TT2 : Hid ((w1.alloc (.cells #[Value.int IntKind.u64 0, Value.int IntKind.u64 0, Value.int IntKind.u64 0, Value.int IntKind.u64 0, Value.int IntKind.u64 0, Value.int IntKind.u64 0, Value.int IntKind.u64 0, Value.int IntKind.u64 0, Value.int IntKind.u64 0, Value.int IntKind.u64 0, Value.int IntKind.u64 0, Value.int IntKind.u64 0] 67)).there (w1.heap.size) 0 (cmR (nO) (nO) (nO)).length) := Kn.there s2x.out 0 rfl (by rw [(cmR_length (nO) (nO) (nO)), cmZ_length])
  go_wp2_with (first | simp only [zero_clm] | refine I.wp_store_eq rfl 67 _ _ rfl (w1.heap.size) 0 (cmR (nO) (nO) (nO)) rfl rfl TT2.out (info_cmR (nO) (nO) (nO)) (cmR_one (nO) (nO) (nO)) ?_)
  intro w2 hw2
  try simp only [Act.put, List.setIfInBounds_toArray, List.set_cons_succ, List.set_cons_zero]
  have s2 : Hid (Kn w2 [(w1.heap.size, (cmR (nO) (nO) (nO))), (w.heap.size, (bR (A)))]) := by rw [hw2.out]; exact Kn.put s2x.out (by rw [(cmR_length (nO) (nO) (nO)), cmZ_length])
  have b2 : Hid (Below w.heap.size w w2) := by rw [hw2.out]; exact I.below_setCells _ _ _ b2x.out g2
  have z2 := b2.out.size
  clear hw2 s2x b2x TT2 s1 b1
  go_wp2_with fail
  go_ret
  exact ⟨rfl, b2.out⟩
set_option maxRecDepth 20000 in
set_option maxHeartbeats 2000000 in
theorem sgVer_ok (A : Nat) (p q : List Nat) (s x y : Nm) (c : Int) (v u : Value)
    (RD : Hid (∀ w, By w v p → By w u q → KTab w → Calls Tryd.prog 25 #[bV A, v, u] w fun r w' => r = .returned (.tuple #[cmV s x y, .int .i64 0]) ∧ Below w.heap.size w w'))
    (JG : ∀ w, Calls Tryd.prog 26 #[cmV s x y] w fun r w' => r = .returned (.int .i64 c) ∧ Below w.heap.size w w')
    (w : World) (hv : By w v p) (hu : By w u q) (hT : KTab w) :
    Calls Tryd.prog 12 #[bV A, v, u] w fun r w' => r = .returned (.int .i64 c) ∧ Below w.heap.size w w' := by
  have HV : Hid (By w v p) := hv
  have HU : Hid (By w u q) := hu
  have HT : Hid (KTab w) := hT
  clear hv hu hT
  go_enter Tryd.func12, Tryd.ntmps12
  have s0 : Hid (Kn (w.alloc (.cells (bR (A)).toArray 22)) [(w.heap.size, (bR (A)))]) := ((Kn.nil w).al (bR (A)) 22 rfl)
  have b0 : Hid (Below w.heap.size w (w.alloc (.cells (bR (A)).toArray 22))) := ((Below.refl _ _).alloc (Nat.le_refl _) _)
  go_wp2_with (first | refine wp_ldW rfl 22 _ rfl (w.heap.size) 0 rfl (bR (A)) _ (Kn.rng s0.out 0 rfl) Tryd.underlying22 rfl (info_bR (A)) ?_)
  refine (RD.out _ (HV.out.up b0.out (Nat.le_refl _)) (HU.out.up b0.out (Nat.le_refl _)) (HT.out.up b0.out HT.out.pos)).mono ?_
  rintro e w1 ⟨rfl, hb1⟩
  have s1 : Hid (Kn w1 [(w.heap.size, (bR (A)))]) := s0.out.up hb1
  have b1 : Hid (Below w.heap.size w w1) := b0.out.trans (hb1.mono b0.out.size)
  have z1 := b1.out.size
  clear hb1 s0 b0
  have s2x : Hid (Kn (w1.alloc (.cells #[Value.int IntKind.u64 0, Value.int IntKind.u64 0, Value.int IntKind.u64 0, Value.int IntKind.u64 0, Value.int IntKind.u64 0, Value.int IntKind.u64 0, Value.int IntKind.u64 0, Value.int IntKind.u64 0, Value.int IntKind.u64 0, Value.int IntKind.u64 0, Value.int IntKind.u64 0, Value.int IntKind.u64 0] 67)) [(w1.heap.size, cmZ), (w.heap.size, (bR (A)))]) := s1.out.al cmZ 67 rfl
  have b2x : Hid (Below w.heap.size w (w1.alloc (.cells #[Value.int IntKind.u64 0, Value.int IntKind.u64 0, Value.int IntKind.u64 0, Value.int IntKind.u64 0, Value.int IntKind.u64 0, Value.int IntKind.u64 0, Value.int IntKind.u64 0, Value.int IntKind.u64 0, Value.int IntKind.u64 0, Value.int IntKind.u64 0, Value.int IntKind.u64 0, Value.int IntKind.u64 0] 67))) := b1.out.alloc b1.out.size _
  have g2 : w.heap.size ≤ w1.heap.size := b1.out.size
  have TT2 : Hid ((w1.alloc (.cells #[Value.int IntKind.u64 0, Value.int IntKind.u64 0, Value.int IntKind.u64 0, Value.int IntKind.u64 0, Value.int IntKind.u64 0, Value.int IntKind.u64 0, Value.int IntKind.u64 0, Value.int IntKind.u64 0, Value.int IntKind.u64 0, Value.int IntKind.u64 0, Value.int IntKind.u64 0, Value.int IntKind.u64 0] 67)).there (w1.heap.size) 0 (cmR (s) (x) (y)).length) := Kn.there s2x.out 0 rfl (by rw [(cmR_length (s) (x) (y)), cmZ_length])
  go_wp2_with (first | simp only [zero_clm] | refine I.wp_store_eq rfl 67 _ _ rfl (w1.heap.size) 0 (cmR (s) (x) (y)) rfl rfl TT2.out (info_cmR (s) (x) (y)) (cmR_one (s) (x) (y)) ?_)
  intro w2 hw2
  try simp only [Act.put, List.setIfInBounds_toArray, List.set_cons_succ, List.set_cons_zero]
  have s2 : Hid (Kn w2 [(w1.heap.size, (cmR (s) (x) (y))), (w.heap.size, (bR (A)))]) := by rw [hw2.out]; exact Kn.put s2x.out (by rw [(cmR_length (s) (x) (y)), cmZ_length])
  have b2 : Hid (Below w.heap.size w w2) := by rw [hw2.out]; exact I.below_setCells _ _ _ b2x.out g2
  have z2 := b2.out.size
  clear hw2 s2x b2x TT2 s1 b1
  go_wp2_with (first | refine wp_ldW rfl 67 _ rfl (w1.heap.size) 0 rfl (cmR (s) (x) (y)) _ (Kn.rng s2.out 0 rfl) Tryd.underlying67 rfl (info_cmR (s) (x) (y)) ?_ | refine wp_ldW rfl 26 _ rfl (w1.heap.size) 0 rfl [Value.int IntKind.u64 s.a, Value.int IntKind.u64 s.b, Value.int IntKind.u64 s.c, Value.int IntKind.u64 s.d] _ (Kn.cng0 s2.out 0 rfl) Tryd.underlying26 rfl (info_c4 (s)) ?_ | refine wp_ldW rfl 34 _ rfl (w1.heap.size) 4 rfl [Value.int IntKind.u64 x.a, Value.int IntKind.u64 x.b, Value.int IntKind.u64 x.c, Value.int IntKind.u64 x.d, Value.int IntKind.u64 y.a, Value.int IntKind.u64 y.b, Value.int IntKind.u64 y.c, Value.int IntKind.u64 y.d] _ (Kn.cng1 s2.out 0 rfl) Tryd.underlying34 rfl (info_c8 (x) (y)) ?_)
  refine (JG _).mono ?_
  rintro e w3 ⟨rfl, hb3⟩
  have s3 : Hid (Kn w3 [(w1.heap.size, (cmR (s) (x) (y))), (w.heap.size, (bR (A)))]) := s2.out.up hb3
  have b3 : Hid (Below w.heap.size w w3) := b2.out.trans (hb3.mono b2.out.size)
  have z3 := b3.out.size
  clear hb3 s2 b2
  go_wp2_with fail
  go_ret
  exact ⟨rfl, b3.out⟩
theorem sg_ne {P Q : Cv.Pt} (hP : Cv.On P) (hQ : Cv.On Q) (h : P ≠ Q) (w : World) : (binOp .neq 34 (pv P) (pv Q)).run Tryd.prog w = .ok (.bool true) w := by
  rw [neP]
  have : (Nm.beq (nm P.1) (nm Q.1) && Nm.beq (nm P.2) (nm Q.2)) = false := by
    refine Bool.eq_false_iff.2 fun e => h ?_
    rw [Bool.and_eq_true] at e
    have l : ∀ {n : Nat}, n < F.p → n < 2 ^ 256 := fun h => Nat.lt_trans h F.p_lt
    have e1 := congrArg Nm.nat (Nm.beq_iff.1 e.1)
    have e2 := congrArg Nm.nat (Nm.beq_iff.1 e.2)
    rw [nm_nat (l hP.1), nm_nat (l hQ.1)] at e1
    rw [nm_nat (l hP.2.1), nm_nat (l hQ.2.1)] at e2
    exact Prod.ext e1 e2
  rw [this]
  rfl
theorem sgJudge_fun (s : Nat) (hs : s < 2 ^ 256) (T : Cv.Pt) (hT : Cv.On T) (w : World) : Calls Tryd.prog 26 #[cmV (nm s) (nm T.1) (nm T.2)] w fun r w' => r = .returned (.int .i64 (if Cv.times s Cv.base = T then 0 else 5)) ∧ Below w.heap.size w w' := by
  have TM := sgTimes_fun (nm s) (nm_ok _) Cv.base Cv.base_on
  rw [nm_nat hs] at TM
  have h2 := Cv.times_on Cv.base_on s
  have lt : ∀ {P : Cv.Pt}, Cv.On P → P.1 < 2 ^ 256 ∧ P.2 < 2 ^ 256 := fun h => ⟨Nat.lt_trans h.1 F.p_lt, Nat.lt_trans h.2.1 F.p_lt⟩
  by_cases h : Cv.times s Cv.base = T
  · rw [if_pos h]
    rw [h] at TM
    exact sgJudge_yes _ _ _ _ _ (fun w => by rw [neP]; simp [Nm.beq_self]) cBaseC TM w
  · rw [if_neg h]
    refine sgJudge_no _ _ _ _ _ _ _ (fun w => ?_) cBaseC TM w
    exact sg_ne h2 hT h w
theorem rd_no {A : Nat} {p q : List Nat} {e : Nat} (h : rdN A p q = .error e) : Hid (¬ (e : Int) = 0) := by
  have h4 : e = 4 ∨ e = 1 := by
    unfold rdN at h
    split at h
    · unfold Sg.clm at h
      split at h
      · split at h
        · cases h
        · cases h; exact .inl rfl
      · cases h; exact .inl rfl
    · cases h; exact .inr rfl
  show ¬ (e : Int) = 0
  omega
theorem sgVerC : SgVerC := fun A hA p q lp lq v u w hv hu hT => by
  have RD := sgRdC A hA p q lp lq v u
  rw [vrN_rd]
  cases h : rdN A p q with
  | error e =>
    rw [h] at RD
    exact sgVer_bad A p q e (rd_no h) v u (fun w hv hu hT => RD w hv hu hT) w hv hu hT
  | ok c =>
    obtain ⟨s, T⟩ := c
    rw [h] at RD
    obtain ⟨hs, hT'⟩ := rd_ok hA lq h
    have := sgVer_ok A p q _ _ _ _ v u RD (sgJudge_fun s (Nat.lt_trans hs ord_lt) T hT') w hv hu hT
    refine this.mono ?_
    rintro e w' ⟨rfl, hb⟩
    refine ⟨?_, hb⟩
    simp only []
    split <;> rfl
end Go.Proofs.YtfknkfninjjgbabDoor
