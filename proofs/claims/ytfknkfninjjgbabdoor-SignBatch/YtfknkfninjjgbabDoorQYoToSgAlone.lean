/- Texts that were joined: Yo, SgB, SgLaw, SgAlone. -/
import Derived.Test.YtfknkfninjjgbabDoorQLenToSgF
import Derived.Deep.MidRow
import Derived.Test.YtfknkfninjjgbabDoorQSgR
import Derived.Test.YtfknkfninjjgbabDoorQUpV
import Derived.Test.YtfknkfninjjgbabDoorQUpV3ToOfB
import Derived.Test.YtfknkfninjjgbabDoorQCOwnToSgC
import Derived.Test.YtfknkfninjjgbabDoorQMulWToAdN
import Derived.Test.YtfknkfninjjgbabDoorQCmp
/- Small operations among those of a drawn region, their operands told by their values: the frame is not looked at. -/
namespace Go.Proofs.YtfknkfninjjgbabDoor
open Go.RowKit
set_option linter.unusedSimpArgs false
theorem yields_run {o : Oper} {a : Act} {w : World} {v : Value} (e : (execOp a.eval o).run Tryd.prog w = .ok (.value v) w) : YieldsP Tryd.prog o a w (MP.eq v).p := by
  unfold YieldsP
  rw [e]
  exact ⟨rfl, Below.refl _ _⟩
theorem yields_ldR {o : Oper} {a : Act} {w : World} (ty : TypeId) (x : Operand) (ho : o.op = .load ty x) (b f : Nat) (hx : a.eval x = .pointer (some ⟨b, f, none⟩)) (cs : List Value) (d : TypeDesc) (hc : w.rangeAt b f cs) (hu : Tryd.prog.underlying ty = some d) (hd : d.isRow = true) (hi : (Tryd.prog.info? ty).map (·.size) = some cs.length) : YieldsP Tryd.prog o a w (MP.eq (.agg cs.toArray)).p :=
  yields_run (by
    unfold execOp
    simp only [ho, hx, Instr.loadAt, Instr.sureAddr, Sem.run_bind, Sem.run_pure, Result.andThen_ok, run_loadVar_mid w b f ty cs d hc hu hd hi])
theorem yields_binI {o : Oper} {a : Act} {w : World} {p : BinOp} {t u : TypeId} (x y : Operand) (ho : o.op = .binOp p t x y u) {k l : IntKind} {m n : Int} {v : Value} (hx : a.eval x = .int k m) (hy : a.eval y = .int l n) (hr : ∀ w, (binOp p t (.int k m) (.int l n)).run Tryd.prog w = .ok v w) : YieldsP Tryd.prog o a w (MP.eq v).p :=
  yields_run (by
    have e1 : (eqGuard p t x y (.int k m) (.int l n)).run Tryd.prog w = .ok () w := by
      cases p <;> simp [eqGuard]
    generalize a.eval = ev at *
    unfold execOp
    simp [ho, hx, hy, e1, hr])
theorem yields_binA {o : Oper} {a : Act} {w : World} {p : BinOp} {t u : TypeId} (x y : Operand) (ho : o.op = .binOp p t x y u) {c d : Array Value} {v : Value} (hx : a.eval x = .agg c) (hy : a.eval y = .agg d) (hg : Tryd.prog.eqGuardType Tryd.prog.depth t = false) (hr : ∀ w, (binOp p t (.agg c) (.agg d)).run Tryd.prog w = .ok v w) : YieldsP Tryd.prog o a w (MP.eq v).p :=
  yields_run (by
    have e1 : (eqGuard p t x y (.agg c) (.agg d)).run Tryd.prog w = .ok () w := by
      cases p <;> simp [eqGuard, hg]
    generalize a.eval = ev at *
    unfold execOp
    simp [ho, hx, hy, e1, hr])
theorem yields_pickT {o : Oper} {a : Act} {w : World} (c x y : Operand) (ho : o.op = .pick c x y) {v : Value} (hc : a.eval c = .bool true) (hx : a.eval x = v) : YieldsP Tryd.prog o a w (MP.eq v).p :=
  yields_run (by
    generalize a.eval = ev at *
    unfold execOp
    simp [ho, hc, hx, go_sem])
theorem yields_pickF {o : Oper} {a : Act} {w : World} (c x y : Operand) (ho : o.op = .pick c x y) {v : Value} (hc : a.eval c = .bool false) (hy : a.eval y = v) : YieldsP Tryd.prog o a w (MP.eq v).p :=
  yields_run (by
    generalize a.eval = ev at *
    unfold execOp
    simp [ho, hc, hy, go_sem])
theorem yields_len {o : Oper} {a : Act} {w : World} (x : Operand) (ho : o.op = .call { callee := .builtin .len, args := #[x], argTypes := #[23] }) {p : Option Addr} {n c : Nat} (hx : a.eval x = .slice p n c) : YieldsP Tryd.prog o a w (MP.eq (.int .i64 n)).p :=
  yields_run (by
    generalize a.eval = ev at *
    unfold execOp
    simp [ho, hx, go_sem])
theorem yields_b0 {o : Oper} {a : Act} {w : World} {t : TypeId} {cs : Array Value} (ho : o.op = .build t #[]) (hb : Tryd.prog.built t [] = some cs) : YieldsP Tryd.prog o a w (MP.eq (.agg cs)).p :=
  yields_run (by
    have e1 : (Instr.build t ((#[] : Array (Nat × Operand)).map fun x => (x.fst, a.eval x.snd))).run Tryd.prog w = .ok (.agg cs) w := run_build w t _ _ (by simpa using hb)
    simp only [execOp, ho, Sem.run_bind, e1, Result.andThen_ok, Sem.run_pure])
theorem yields_as {o : Oper} {a : Act} {w : World} {v : Value} (x : Operand) (ho : o.op = .assign x) (hx : a.eval x = v) : YieldsP Tryd.prog o a w (MP.eq v).p :=
  yields_run (by
    generalize a.eval = ev at *
    unfold execOp
    simp [ho, hx, go_sem])
end Go.Proofs.YtfknkfninjjgbabDoor

/- Batches: signatures in a row of memory; claims added. -/
namespace Go.Proofs.YtfknkfninjjgbabDoor
open Go.RowKit
attribute [local go_sem] World.cell?_alloc_some cell_alloc2 cell_alloc3 cell_alloc4 frozen?_alloc_cells frozen_out
attribute [local simp] MP.eq_p
set_option linter.unusedSimpArgs false
/-- A signature with its public one and its text. -/
def sdR (A : Nat) (vp vq : Value) : List Value := bR A ++ [vp, vq]
def sdZ : List Value := List.replicate 32 (.int .u8 0) ++ [.slice none 0 0, .slice none 0 0]
theorem sdR_length (A : Nat) (vp vq : Value) : (sdR A vp vq).length = 34 := by simp [sdR, bR_length]
theorem sdZ_length : sdZ.length = 34 := rfl
theorem sdR_one {A : Nat} {vp vq : Value} (hp : vp.oneCell' = true) (hq : vq.oneCell' = true) : ∀ v ∈ sdR A vp vq, v.oneCell' = true := fun v hv => by
  unfold sdR at hv
  rcases List.mem_append.1 hv with h | h
  · exact bR_one A v h
  · simp only [List.mem_cons, List.not_mem_nil, or_false] at h
    rcases h with rfl | rfl
    · exact hp
    · exact hq
theorem info_signed : (Tryd.prog.info? 49).map (·.size) = some 34 := by kernel_rfl
theorem info_sdR (A : Nat) (vp vq : Value) : (Tryd.prog.info? 49).map (·.size) = some (sdR A vp vq).length := by rw [sdR_length]; exact info_signed
theorem zero_signed (w : World) : (zeroValue 49).run Tryd.prog w = .ok (.agg sdZ.toArray) w := I.zero_of (by kernel_rfl) w
theorem Kn.dng0 {w : World} {L : List (Nat × List Value)} (h : Kn w L) (i : Nat) {k A : Nat} {vp vq : Value} (hp : L[i]? = some (k, sdR A vp vq)) : w.rangeAt k 0 (bR A) := (range_app (h.rng i hp)).1
theorem Kn.dng1 {w : World} {L : List (Nat × List Value)} (h : Kn w L) (i : Nat) {k A : Nat} {vp vq : Value} (hp : L[i]? = some (k, sdR A vp vq)) : w.cell? ⟨k, 32, none⟩ = some vp := by
  have := (range_app (h.rng i hp)).2 0 vp rfl
  rwa [bR_length] at this
theorem Kn.dng2 {w : World} {L : List (Nat × List Value)} (h : Kn w L) (i : Nat) {k A : Nat} {vp vq : Value} (hp : L[i]? = some (k, sdR A vp vq)) : w.cell? ⟨k, 33, none⟩ = some vq := by
  have := (range_app (h.rng i hp)).2 1 vq rfl
  rwa [bR_length] at this
/-- What is to be verified: a public one, a text, a signature. -/
abbrev Sge := Nat × List Nat × List Nat
def Sgd (w : World) (g o : Nat) (e : Sge) : Prop := ∃ vp vq, w.rangeAt g o (sdR e.1 vp vq) ∧ By w vp e.2.1 ∧ By w vq e.2.2
def Sds (w : World) (v : Value) (l : List Sge) : Prop := ∃ a c, v = .slice a l.length c ∧ (0 < l.length → ∃ g o, a = some ⟨g, o, none⟩ ∧ ∀ i e, l[i]? = some e → Sgd w g (o + i * 34) e)
def Nms (w : World) (v : Value) (l : List Nm) : Prop := ∃ a c, v = .slice a l.length c ∧ (0 < l.length → ∃ g o, a = some ⟨g, o, none⟩ ∧ ∀ (i : Nat) x, l[i]? = some x → w.rangeAt g (o + i * 4) (c4 x))
theorem rng_up {W w1 : World} {k o B : Nat} {vs : List Value} (h : W.rangeAt k o vs) (h0 : 0 < vs.length) (hb : Below B W w1) (hB : W.heap.size ≤ B) : w1.rangeAt k o vs := fun j v hj => by
  have hlt : k < B := by
    have h1 := h 0 vs[0] (List.getElem?_eq_getElem h0)
    exact Nat.lt_of_lt_of_le (lt_of_cellB h1) hB
  exact (hb.cell (p := ⟨k, o + j, none⟩) hlt).trans (h j v hj)
theorem Sgd.up {W w1 : World} {g o : Nat} {e : Sge} (h : Sgd W g o e) (hb : Below W.heap.size W w1) : Sgd w1 g o e := by
  obtain ⟨vp, vq, h1, h2, h3⟩ := h
  exact ⟨vp, vq, rng_up h1 (by rw [sdR_length]; decide) hb (Nat.le_refl _), h2.up hb (Nat.le_refl _), h3.up hb (Nat.le_refl _)⟩
theorem Sds.up {W w1 : World} {v : Value} {l : List Sge} (h : Sds W v l) (hb : Below W.heap.size W w1) : Sds w1 v l := by
  obtain ⟨a, c, e, h1⟩ := h
  refine ⟨a, c, e, fun hp => ?_⟩
  obtain ⟨g, o, e2, h2⟩ := h1 hp
  exact ⟨g, o, e2, fun i x hx => (h2 i x hx).up hb⟩
theorem Nms.up {W w1 : World} {v : Value} {l : List Nm} (h : Nms W v l) (hb : Below W.heap.size W w1) : Nms w1 v l := by
  obtain ⟨a, c, e, h1⟩ := h
  refine ⟨a, c, e, fun hp => ?_⟩
  obtain ⟨g, o, e2, h2⟩ := h1 hp
  exact ⟨g, o, e2, fun i x hx => rng_up (h2 i x hx) (by simp) hb (Nat.le_refl _)⟩
set_option maxRecDepth 20000 in
set_option maxHeartbeats 2000000 in
theorem sgPlus_walk (s x y t a b k mu su tx ty ux uy : Nm)
    (MU : ∀ w, Calls Tryd.prog 30 #[N k, N t] w fun e w' => e = .returned (N mu) ∧ Below w.heap.size w w')
    (AD : ∀ w, Calls Tryd.prog 29 #[N s, N mu] w fun e w' => e = .returned (N su) ∧ Below w.heap.size w w')
    (TM : ∀ w, Calls Tryd.prog 39 #[N k, Wv a b] w fun e w' => e = .returned (Wv tx ty) ∧ Below w.heap.size w w')
    (SU : ∀ w, Calls Tryd.prog 53 #[Wv x y, Wv tx ty] w fun e w' => e = .returned (Wv ux uy) ∧ Below w.heap.size w w')
    (w : World) :
    Calls Tryd.prog 32 #[cmV s x y, cmV t a b, N k] w fun e w' => e = .returned (cmV su ux uy) ∧ Below w.heap.size w w' := by
  go_enter Tryd.func32, Tryd.ntmps32
  have s0 : Hid (Kn ((kal4 ((w.alloc (.cells (cmR (s) (x) (y)).toArray 67)).alloc (.cells (cmR (t) (a) (b)).toArray 67)) (k)).alloc (.cells #[Value.int IntKind.u64 0, Value.int IntKind.u64 0, Value.int IntKind.u64 0, Value.int IntKind.u64 0, Value.int IntKind.u64 0, Value.int IntKind.u64 0, Value.int IntKind.u64 0, Value.int IntKind.u64 0, Value.int IntKind.u64 0, Value.int IntKind.u64 0, Value.int IntKind.u64 0, Value.int IntKind.u64 0] 67)) [(w.heap.size + 1 + 1 + 1, cmZ), (w.heap.size + 1 + 1, (c4 (k))), (w.heap.size + 1, (cmR (t) (a) (b))), (w.heap.size, (cmR (s) (x) (y)))]) := (((((Kn.nil w).al (cmR (s) (x) (y)) 67 rfl).al (cmR (t) (a) (b)) 67 (by simp)).al (c4 (k)) 26 (by simp)).al cmZ 67 (by simp))
  have b0 : Hid (Below w.heap.size w ((kal4 ((w.alloc (.cells (cmR (s) (x) (y)).toArray 67)).alloc (.cells (cmR (t) (a) (b)).toArray 67)) (k)).alloc (.cells #[Value.int IntKind.u64 0, Value.int IntKind.u64 0, Value.int IntKind.u64 0, Value.int IntKind.u64 0, Value.int IntKind.u64 0, Value.int IntKind.u64 0, Value.int IntKind.u64 0, Value.int IntKind.u64 0, Value.int IntKind.u64 0, Value.int IntKind.u64 0, Value.int IntKind.u64 0, Value.int IntKind.u64 0] 67))) := (((((Below.refl _ _).alloc (Nat.le_refl _) _).alloc (by simp <;> omega) _).alloc (by simp <;> omega) _).alloc (by simp <;> omega) _)
  go_wp2_with (first | simp only [zero_clm])
  refine wp_region_up_then 15 (by kernel_rfl) (by kernel_rfl) (by kernel_rfl) (by kernel_rfl) (by decide) (fun _ _ d _ _ h => by cases d <;> exact h) (fun U hU f hf hcl => ?_)
  have uk_0 := fun nx => (Kn.get (s0.out.up (hf nx).out) 1 0 rfl rfl : (f nx).cell? ⟨w.heap.size + 1 + 1, 0, none⟩ = some (.int .u64 (k).a))
  have uk_1 := fun nx => (Kn.get (s0.out.up (hf nx).out) 1 1 rfl rfl : (f nx).cell? ⟨w.heap.size + 1 + 1, 1, none⟩ = some (.int .u64 (k).b))
  have uk_2 := fun nx => (Kn.get (s0.out.up (hf nx).out) 1 2 rfl rfl : (f nx).cell? ⟨w.heap.size + 1 + 1, 2, none⟩ = some (.int .u64 (k).c))
  have uk_3 := fun nx => (Kn.get (s0.out.up (hf nx).out) 1 3 rfl rfl : (f nx).cell? ⟨w.heap.size + 1 + 1, 3, none⟩ = some (.int .u64 (k).d))
  have ra_c_0 := fun nx => (Kn.rng (s0.out.up (hf nx).out) 3 rfl : (f nx).rangeAt (w.heap.size) 0 (cmR (s) (x) (y)))
  have ra_c_1 := fun nx => (Kn.cng0 (s0.out.up (hf nx).out) 3 rfl : (f nx).rangeAt (w.heap.size) 0 [Value.int IntKind.u64 s.a, Value.int IntKind.u64 s.b, Value.int IntKind.u64 s.c, Value.int IntKind.u64 s.d])
  have ra_c_2 := fun nx => (Kn.cng1 (s0.out.up (hf nx).out) 3 rfl : (f nx).rangeAt (w.heap.size) 4 [Value.int IntKind.u64 x.a, Value.int IntKind.u64 x.b, Value.int IntKind.u64 x.c, Value.int IntKind.u64 x.d, Value.int IntKind.u64 y.a, Value.int IntKind.u64 y.b, Value.int IntKind.u64 y.c, Value.int IntKind.u64 y.d])
  have ra_d_0 := fun nx => (Kn.rng (s0.out.up (hf nx).out) 2 rfl : (f nx).rangeAt (w.heap.size + 1) 0 (cmR (t) (a) (b)))
  have ra_d_1 := fun nx => (Kn.cng0 (s0.out.up (hf nx).out) 2 rfl : (f nx).rangeAt (w.heap.size + 1) 0 [Value.int IntKind.u64 t.a, Value.int IntKind.u64 t.b, Value.int IntKind.u64 t.c, Value.int IntKind.u64 t.d])
  have ra_d_2 := fun nx => (Kn.cng1 (s0.out.up (hf nx).out) 2 rfl : (f nx).rangeAt (w.heap.size + 1) 4 [Value.int IntKind.u64 a.a, Value.int IntKind.u64 a.b, Value.int IntKind.u64 a.c, Value.int IntKind.u64 a.d, Value.int IntKind.u64 b.a, Value.int IntKind.u64 b.b, Value.int IntKind.u64 b.c, Value.int IntKind.u64 b.d])
  simp only [List.take_succ_cons, List.take_zero, List.drop_succ_cons, List.drop_zero]
  repeat (first | (refine quiet_build2 rfl 67 _ _ rfl (N su) (Wv ux uy) (cmR su ux uy) rfl rfl (clm_built su ux uy) ?_; simp only [Act.put, List.setIfInBounds_toArray, List.set_cons_succ, List.set_cons_zero]) | (refine I.quiet_load rfl 67 _ rfl (w.heap.size) 0 rfl (cmR (s) (x) (y)) _ (fun W hW => by obtain ⟨nx, rfl⟩ := hW; exact ra_c_0 nx) Tryd.underlying67 rfl (info_cmR (s) (x) (y)) ?_; simp only [Act.put, List.setIfInBounds_toArray, List.set_cons_succ, List.set_cons_zero]) | (refine I.quiet_load rfl 26 _ rfl (w.heap.size) 0 rfl [Value.int IntKind.u64 s.a, Value.int IntKind.u64 s.b, Value.int IntKind.u64 s.c, Value.int IntKind.u64 s.d] _ (fun W hW => by obtain ⟨nx, rfl⟩ := hW; exact ra_c_1 nx) Tryd.underlying26 rfl (info_c4 (s)) ?_; simp only [Act.put, List.setIfInBounds_toArray, List.set_cons_succ, List.set_cons_zero]) | (refine I.quiet_load rfl 34 _ rfl (w.heap.size) 4 rfl [Value.int IntKind.u64 x.a, Value.int IntKind.u64 x.b, Value.int IntKind.u64 x.c, Value.int IntKind.u64 x.d, Value.int IntKind.u64 y.a, Value.int IntKind.u64 y.b, Value.int IntKind.u64 y.c, Value.int IntKind.u64 y.d] _ (fun W hW => by obtain ⟨nx, rfl⟩ := hW; exact ra_c_2 nx) Tryd.underlying34 rfl (info_c8 (x) (y)) ?_; simp only [Act.put, List.setIfInBounds_toArray, List.set_cons_succ, List.set_cons_zero]) | (refine I.quiet_load rfl 67 _ rfl (w.heap.size + 1) 0 rfl (cmR (t) (a) (b)) _ (fun W hW => by obtain ⟨nx, rfl⟩ := hW; exact ra_d_0 nx) Tryd.underlying67 rfl (info_cmR (t) (a) (b)) ?_; simp only [Act.put, List.setIfInBounds_toArray, List.set_cons_succ, List.set_cons_zero]) | (refine I.quiet_load rfl 26 _ rfl (w.heap.size + 1) 0 rfl [Value.int IntKind.u64 t.a, Value.int IntKind.u64 t.b, Value.int IntKind.u64 t.c, Value.int IntKind.u64 t.d] _ (fun W hW => by obtain ⟨nx, rfl⟩ := hW; exact ra_d_1 nx) Tryd.underlying26 rfl (info_c4 (t)) ?_; simp only [Act.put, List.setIfInBounds_toArray, List.set_cons_succ, List.set_cons_zero]) | (refine I.quiet_load rfl 34 _ rfl (w.heap.size + 1) 4 rfl [Value.int IntKind.u64 a.a, Value.int IntKind.u64 a.b, Value.int IntKind.u64 a.c, Value.int IntKind.u64 a.d, Value.int IntKind.u64 b.a, Value.int IntKind.u64 b.b, Value.int IntKind.u64 b.c, Value.int IntKind.u64 b.d] _ (fun W hW => by obtain ⟨nx, rfl⟩ := hW; exact ra_d_2 nx) Tryd.underlying34 rfl (info_c8 (a) (b)) ?_; simp only [Act.put, List.setIfInBounds_toArray, List.set_cons_succ, List.set_cons_zero]) | go_big_quiet_step (first | (go_at_call 30; exact (MU _).mono fun e w'' ⟨he, hb⟩ => ⟨he, hcl.out _ _ hb⟩) | (go_at_call 29; exact (AD _).mono fun e w'' ⟨he, hb⟩ => ⟨he, hcl.out _ _ hb⟩) | (go_at_call 39; exact (TM _).mono fun e w'' ⟨he, hb⟩ => ⟨he, hcl.out _ _ hb⟩) | (go_at_call 53; exact (SU _).mono fun e w'' ⟨he, hb⟩ => ⟨he, hcl.out _ _ hb⟩)))
  refine wpQuiet_nil ?_
  intro nx
  have hb1 := (hf nx).out
  clear hf hcl uk_0 uk_1 uk_2 uk_3
  generalize f nx = w1 at hb1 ⊢
  have s1 : Hid (Kn w1 [(w.heap.size + 1 + 1 + 1, cmZ), (w.heap.size + 1 + 1, (c4 (k))), (w.heap.size + 1, (cmR (t) (a) (b))), (w.heap.size, (cmR (s) (x) (y)))]) := s0.out.up hb1
  have b1 : Hid (Below w.heap.size w w1) := b0.out.trans (hb1.mono b0.out.size)
  have z1 := b1.out.size
  clear hb1 s0 b0
  have s2x : Hid (Kn w1 [(w.heap.size + 1 + 1 + 1, cmZ), (w.heap.size + 1 + 1, (c4 (k))), (w.heap.size + 1, (cmR (t) (a) (b))), (w.heap.size, (cmR (s) (x) (y)))]) := s1.out.front 0 rfl
  have b2x : Hid (Below w.heap.size w w1) := b1.out
  have TT2 : Hid (w1.there (w.heap.size + 1 + 1 + 1) 0 (cmR (su) (ux) (uy)).length) := Kn.there s2x.out 0 rfl (by rw [(cmR_length (su) (ux) (uy)), cmZ_length])
  go_wp2_with (first | refine I.wp_store_eq rfl 67 _ _ rfl (w.heap.size + 1 + 1 + 1) 0 (cmR (su) (ux) (uy)) rfl rfl TT2.out (info_cmR (su) (ux) (uy)) (cmR_one (su) (ux) (uy)) ?_)
  intro w2 hw2
  try simp only [Act.put, List.setIfInBounds_toArray, List.set_cons_succ, List.set_cons_zero]
  have s2 : Hid (Kn w2 [(w.heap.size + 1 + 1 + 1, (cmR (su) (ux) (uy))), (w.heap.size + 1 + 1, (c4 (k))), (w.heap.size + 1, (cmR (t) (a) (b))), (w.heap.size, (cmR (s) (x) (y)))]) := by rw [hw2.out]; exact Kn.put s2x.out (by rw [(cmR_length (su) (ux) (uy)), cmZ_length])
  have b2 : Hid (Below w.heap.size w w2) := by rw [hw2.out]; exact I.below_setCells _ _ _ b2x.out (by omega)
  have z2 := b2.out.size
  clear hw2 s2x b2x TT2 s1 b1
  go_wp2_with fail
  exact bodyPost_ret (v := cmV su ux uy) (I.results_cell (b := w.heap.size + 1 + 1 + 1) rfl rfl (Kn.rng s2.out 0 rfl) Tryd.underlying67 rfl (info_cmR (su) (ux) (uy))) rfl ⟨rfl, b2.out⟩
theorem sgPlus_fun {s t : Nat} {T U : Cv.Pt} (hs : s < 2 ^ 256) (ht : t < 2 ^ 256) (hT : Cv.On T) (hU : Cv.On U) (k : Nm) (ok : k.ok) (w : World) :
    Calls Tryd.prog 32 #[cmV (nm s) (nm T.1) (nm T.2), cmV (nm t) (nm U.1) (nm U.2), N k] w fun e w' => e = .returned (cmV (nm ((s + k.nat * t % Cv.ord) % Cv.ord)) (nm (Cv.add T (Cv.times k.nat U)).1) (nm (Cv.add T (Cv.times k.nat U)).2)) ∧ Below w.heap.size w w' := by
  have MU := sMulC k (nm t) ok (nm_ok _)
  rw [nm_nat ht] at MU
  have hm : k.nat * t % Cv.ord < 2 ^ 256 := Nat.lt_trans (Nat.mod_lt _ ord_pos) ord_lt
  have AD := sAddC (nm s) (nm (k.nat * t % Cv.ord)) (nm_ok _) (nm_ok _)
  rw [nm_nat hs, nm_nat hm] at AD
  exact sgPlus_walk _ _ _ _ _ _ _ _ _ _ _ _ _ MU AD (sgTimes_fun k ok U hU) (sgSum_fun _ _ hT (Cv.times_on hU _)) w
/-- What Batch answers. -/
def batN : List (Nm × Sge) → Nat → Cv.Pt → Nat
  | [], s, T => if Cv.times s Cv.base = T then 0 else 5
  | (k, A, p, q) :: r, s, T => match rdN A p q with
    | .error e => e
    | .ok (t, U) => batN r ((s + k.nat * t % Cv.ord) % Cv.ord) (Cv.add T (Cv.times k.nat U))
def bchN (l : List Sge) (ws : List Nm) : Nat := if 20 < l.length then 2 else if ws.length ≠ l.length then 1 else batN (ws.zip l) 0 Cv.zero
abbrev okE (e : Sge) : Prop := e.1 < 2 ^ 256 ∧ lowP e.2.1 ∧ lowP e.2.2
def SgBatC : Prop := ∀ (l : List Sge) (ws : List Nm), (∀ e ∈ l, okE e) → (∀ x ∈ ws, x.ok) → ∀ v u w, Sds w v l → Nms w u ws → KTab w → Calls Tryd.prog 15 #[v, u] w fun e w' => e = .returned (.int .i64 (bchN l ws : Nat)) ∧ Below w.heap.size w w'
end Go.Proofs.YtfknkfninjjgbabDoor

/- SignTrue, SignPairs, SignOnly, out of what package sign must keep. -/
namespace Go.Proofs.YtfknkfninjjgbabDoor
open Go.RowKit
attribute [local go_sem] World.cell?_alloc_some cell_alloc2 cell_alloc3 cell_alloc4 frozen?_alloc_cells frozen_out
set_option linter.unusedSimpArgs false
set_option maxRecDepth 20000 in
set_option maxHeartbeats 1000000 in
theorem signs_walk (m a r s : Nat) (x : Nm) (ne : ∀ w, (binOp .neq 46 (sgV r s) (sgV 0 0)).run Tryd.prog w = .ok (.bool true) w)
    (NW : ∀ w, KTab w → Calls Tryd.prog 6 #[bV 0] w fun e w' => e = .returned (prV x m a) ∧ Below w.heap.size w w')
    (SG : ∀ w, KTab w → Calls Tryd.prog 14 #[bV 0, .slice none 0 0] w fun e w' => e = .returned (sgV r s) ∧ Below w.heap.size w w')
    (VR : ∀ u w, By w u (S.by r ++ S.by s) → KTab w → Calls Tryd.prog 12 #[bV a, .slice none 0 0, u] w fun e w' => e = .returned (.int .i64 0) ∧ Below w.heap.size w w')
    (w : World) (hK : KTab w) :
    Calls Tryd.prog 13 #[] w fun e w' => e = .returned (.bool true) ∧ Below w.heap.size w w' := by
  have HK : Hid (KTab w) := hK
  clear hK
  go_enter Tryd.func13, Tryd.ntmps13
  have s0 : Hid (Kn w []) := (Kn.nil w)
  have b0 : Hid (Below w.heap.size w w) := (Below.refl _ _)
  go_wp2_with (first | refine wp_buildZ rfl rfl b32_zero ?_)
  refine (SG _ (HK.out.up b0.out HK.out.pos)).mono ?_
  rintro e w1 ⟨rfl, hb1⟩
  have s1 : Hid (Kn w1 []) := s0.out.up hb1
  have b1 : Hid (Below w.heap.size w w1) := b0.out.trans (hb1.mono b0.out.size)
  have z1 := b1.out.size
  clear hb1 s0 b0
  have s2x : Hid (Kn (w1.alloc (.cells #[Value.int IntKind.u8 0, Value.int IntKind.u8 0, Value.int IntKind.u8 0, Value.int IntKind.u8 0, Value.int IntKind.u8 0, Value.int IntKind.u8 0, Value.int IntKind.u8 0, Value.int IntKind.u8 0, Value.int IntKind.u8 0, Value.int IntKind.u8 0, Value.int IntKind.u8 0, Value.int IntKind.u8 0, Value.int IntKind.u8 0, Value.int IntKind.u8 0, Value.int IntKind.u8 0, Value.int IntKind.u8 0, Value.int IntKind.u8 0, Value.int IntKind.u8 0, Value.int IntKind.u8 0, Value.int IntKind.u8 0, Value.int IntKind.u8 0, Value.int IntKind.u8 0, Value.int IntKind.u8 0, Value.int IntKind.u8 0, Value.int IntKind.u8 0, Value.int IntKind.u8 0, Value.int IntKind.u8 0, Value.int IntKind.u8 0, Value.int IntKind.u8 0, Value.int IntKind.u8 0, Value.int IntKind.u8 0, Value.int IntKind.u8 0, Value.int IntKind.u8 0, Value.int IntKind.u8 0, Value.int IntKind.u8 0, Value.int IntKind.u8 0, Value.int IntKind.u8 0, Value.int IntKind.u8 0, Value.int IntKind.u8 0, Value.int IntKind.u8 0, Value.int IntKind.u8 0, Value.int IntKind.u8 0, Value.int IntKind.u8 0, Value.int IntKind.u8 0, Value.int IntKind.u8 0, Value.int IntKind.u8 0, Value.int IntKind.u8 0, Value.int IntKind.u8 0, Value.int IntKind.u8 0, Value.int IntKind.u8 0, Value.int IntKind.u8 0, Value.int IntKind.u8 0, Value.int IntKind.u8 0, Value.int IntKind.u8 0, Value.int IntKind.u8 0, Value.int IntKind.u8 0, Value.int IntKind.u8 0, Value.int IntKind.u8 0, Value.int IntKind.u8 0, Value.int IntKind.u8 0, Value.int IntKind.u8 0, Value.int IntKind.u8 0, Value.int IntKind.u8 0, Value.int IntKind.u8 0] 46)) [(w1.heap.size, sgZ)]) := s1.out.al sgZ 46 rfl
  have b2x : Hid (Below w.heap.size w (w1.alloc (.cells #[Value.int IntKind.u8 0, Value.int IntKind.u8 0, Value.int IntKind.u8 0, Value.int IntKind.u8 0, Value.int IntKind.u8 0, Value.int IntKind.u8 0, Value.int IntKind.u8 0, Value.int IntKind.u8 0, Value.int IntKind.u8 0, Value.int IntKind.u8 0, Value.int IntKind.u8 0, Value.int IntKind.u8 0, Value.int IntKind.u8 0, Value.int IntKind.u8 0, Value.int IntKind.u8 0, Value.int IntKind.u8 0, Value.int IntKind.u8 0, Value.int IntKind.u8 0, Value.int IntKind.u8 0, Value.int IntKind.u8 0, Value.int IntKind.u8 0, Value.int IntKind.u8 0, Value.int IntKind.u8 0, Value.int IntKind.u8 0, Value.int IntKind.u8 0, Value.int IntKind.u8 0, Value.int IntKind.u8 0, Value.int IntKind.u8 0, Value.int IntKind.u8 0, Value.int IntKind.u8 0, Value.int IntKind.u8 0, Value.int IntKind.u8 0, Value.int IntKind.u8 0, Value.int IntKind.u8 0, Value.int IntKind.u8 0, Value.int IntKind.u8 0, Value.int IntKind.u8 0, Value.int IntKind.u8 0, Value.int IntKind.u8 0, Value.int IntKind.u8 0, Value.int IntKind.u8 0, Value.int IntKind.u8 0, Value.int IntKind.u8 0, Value.int IntKind.u8 0, Value.int IntKind.u8 0, Value.int IntKind.u8 0, Value.int IntKind.u8 0, Value.int IntKind.u8 0, Value.int IntKind.u8 0, Value.int IntKind.u8 0, Value.int IntKind.u8 0, Value.int IntKind.u8 0, Value.int IntKind.u8 0, Value.int IntKind.u8 0, Value.int IntKind.u8 0, Value.int IntKind.u8 0, Value.int IntKind.u8 0, Value.int IntKind.u8 0, Value.int IntKind.u8 0, Value.int IntKind.u8 0, Value.int IntKind.u8 0, Value.int IntKind.u8 0, Value.int IntKind.u8 0, Value.int IntKind.u8 0] 46))) := b1.out.alloc b1.out.size _
  have g2 : w.heap.size ≤ w1.heap.size := b1.out.size
  have TT2 : Hid ((w1.alloc (.cells #[Value.int IntKind.u8 0, Value.int IntKind.u8 0, Value.int IntKind.u8 0, Value.int IntKind.u8 0, Value.int IntKind.u8 0, Value.int IntKind.u8 0, Value.int IntKind.u8 0, Value.int IntKind.u8 0, Value.int IntKind.u8 0, Value.int IntKind.u8 0, Value.int IntKind.u8 0, Value.int IntKind.u8 0, Value.int IntKind.u8 0, Value.int IntKind.u8 0, Value.int IntKind.u8 0, Value.int IntKind.u8 0, Value.int IntKind.u8 0, Value.int IntKind.u8 0, Value.int IntKind.u8 0, Value.int IntKind.u8 0, Value.int IntKind.u8 0, Value.int IntKind.u8 0, Value.int IntKind.u8 0, Value.int IntKind.u8 0, Value.int IntKind.u8 0, Value.int IntKind.u8 0, Value.int IntKind.u8 0, Value.int IntKind.u8 0, Value.int IntKind.u8 0, Value.int IntKind.u8 0, Value.int IntKind.u8 0, Value.int IntKind.u8 0, Value.int IntKind.u8 0, Value.int IntKind.u8 0, Value.int IntKind.u8 0, Value.int IntKind.u8 0, Value.int IntKind.u8 0, Value.int IntKind.u8 0, Value.int IntKind.u8 0, Value.int IntKind.u8 0, Value.int IntKind.u8 0, Value.int IntKind.u8 0, Value.int IntKind.u8 0, Value.int IntKind.u8 0, Value.int IntKind.u8 0, Value.int IntKind.u8 0, Value.int IntKind.u8 0, Value.int IntKind.u8 0, Value.int IntKind.u8 0, Value.int IntKind.u8 0, Value.int IntKind.u8 0, Value.int IntKind.u8 0, Value.int IntKind.u8 0, Value.int IntKind.u8 0, Value.int IntKind.u8 0, Value.int IntKind.u8 0, Value.int IntKind.u8 0, Value.int IntKind.u8 0, Value.int IntKind.u8 0, Value.int IntKind.u8 0, Value.int IntKind.u8 0, Value.int IntKind.u8 0, Value.int IntKind.u8 0, Value.int IntKind.u8 0] 46)).there (w1.heap.size) 0 (sgR (r) (s)).length) := Kn.there s2x.out 0 rfl (by rw [(sgR_length (r) (s)), sgZ_length])
  go_wp2_with (first | simp only [zero_b64] | refine I.wp_store_eq rfl 46 _ _ rfl (w1.heap.size) 0 (sgR (r) (s)) rfl rfl TT2.out (info_sgR (r) (s)) (sgR_one (r) (s)) ?_)
  intro w2 hw2
  try simp only [Act.put, List.setIfInBounds_toArray, List.set_cons_succ, List.set_cons_zero]
  have s2 : Hid (Kn w2 [(w1.heap.size, (sgR (r) (s)))]) := by rw [hw2.out]; exact Kn.put s2x.out (by rw [(sgR_length (r) (s)), sgZ_length])
  have b2 : Hid (Below w.heap.size w w2) := by rw [hw2.out]; exact I.below_setCells _ _ _ b2x.out g2
  have z2 := b2.out.size
  clear hw2 s2x b2x TT2 s1 b1
  go_wp2_with fail
  refine wp_region_up (by kernel_rfl) (by kernel_rfl) (fun U hU f hf hcl => ?_)
  have ra_sg_0 := fun nx => (Kn.rng (s2.out.up (hf nx).out) 0 rfl : (f nx).rangeAt (w1.heap.size) 0 (sgR (r) (s)))
  have KT := fun nx => HK.out.up (b2.out.trans ((hf nx).out.mono b2.out.size)) HK.out.pos
  have BS := fun nx => Kn.by64 (s2.out.up (hf nx).out) 0 rfl
  try simp only [List.append_eq, List.cons_append, List.nil_append]
  repeat (first | (refine quiet_buildZ rfl rfl b64_zero ?_; simp only [Act.put, List.setIfInBounds_toArray, List.set_cons_succ, List.set_cons_zero]) | (refine quiet_buildZ rfl rfl b32_zero ?_; simp only [Act.put, List.setIfInBounds_toArray, List.set_cons_succ, List.set_cons_zero]) | (refine quiet_all64 rfl _ rfl w1.heap.size rfl ?_; simp only [Act.put, List.setIfInBounds_toArray, List.set_cons_succ, List.set_cons_zero]) | (refine quiet_pub rfl _ rfl x m a rfl ?_; simp only [Act.put, List.setIfInBounds_toArray, List.set_cons_succ, List.set_cons_zero]) | (refine I.quiet_load rfl 46 _ rfl (w1.heap.size) 0 rfl (sgR (r) (s)) _ (fun W hW => by obtain ⟨nx, rfl⟩ := hW; exact ra_sg_0 nx) Tryd.underlying46 rfl (info_sgR (r) (s)) ?_; simp only [Act.put, List.setIfInBounds_toArray, List.set_cons_succ, List.set_cons_zero]) | go_big_quiet_step (first | (go_at_call 6; exact (NW _ (KT _)).mono fun e w'' ⟨he, hb⟩ => ⟨he, hcl.out _ _ hb⟩) | (go_at_call 12; exact (VR _ _ (BS _) (KT _)).mono fun e w'' ⟨he, hb⟩ => ⟨he, hcl.out _ _ hb⟩)))
  refine wpQuiet_nil ?_
  intro nx
  have hb3 := (hf nx).out
  clear hf hcl
  generalize f nx = w3 at hb3 ⊢
  have s3 : Hid (Kn w3 [(w1.heap.size, (sgR (r) (s)))]) := s2.out.up hb3
  have b3 : Hid (Below w.heap.size w w3) := b2.out.trans (hb3.mono b2.out.size)
  have z3 := b3.out.size
  clear hb3 s2 b2
  go_wp2_with fail
  go_ret
  exact ⟨rfl, b3.out⟩
theorem signs_fun (NC : SgNewC) (SC : SgSignC) (VC : SgVerC) (w : World) (hK : KTab w) : Calls Tryd.prog 13 #[] w fun e w' => e = .returned (.bool true) ∧ Below w.heap.size w w' := by
  have l0 : lowP [] := ⟨by simp, by simp⟩
  have z : (0 : Nat) < 2 ^ 256 := by decide
  refine signs_walk (mskN 0) (pubN 0) (frN 0 []) (bkN 0 []) (nm (secN 0)) (neSg (fr_lt 0 []) (fr_no 0 [])) (NC 0 z) (fun w hK => SC 0 z [] l0 _ w (By.nil w) hK) (fun u w hu hK => ?_) w hK
  have := VC (pubN 0) (pub_lt 0) [] _ l0 (low_sig _ _) _ u w (By.nil w) hu hK
  rw [vr_true] at this
  exact this
end Go.Proofs.YtfknkfninjjgbabDoor

/- SignAlone, out of what package sign must keep. -/
namespace Go.Proofs.YtfknkfninjjgbabDoor
open Go.RowKit
attribute [local go_sem] World.cell?_alloc_some cell_alloc2 cell_alloc3 cell_alloc4 frozen?_alloc_cells frozen_out
attribute [local simp] MP.eq_p
set_option linter.unusedSimpArgs false
def MP.sds (l : List Sge) : MP := ⟨fun v w => Sds w v l, fun h hb => Sds.up h hb⟩
def MP.nms (l : List Nm) : MP := ⟨fun v w => Nms w v l, fun h hb => Nms.up h hb⟩
set_option maxRecDepth 100000 in
theorem run_bsS (A : Nat) (a1 : Option Addr) (n1 c1 : Nat) (a2 : Option Addr) (n2 c2 : Nat) (w : World) : (Instr.buildSlice 45 1 #[(0, .agg (sdR A (.slice a1 n1 c1) (.slice a2 n2 c2)).toArray)]).run Tryd.prog w = .ok (.slice (some ⟨w.heap.size, 0, none⟩) 1 1) (w.alloc (.cells (sdR A (.slice a1 n1 c1) (.slice a2 n2 c2)).toArray 49)) := by kernel_rfl
theorem signed_built (A : Nat) (a1 : Option Addr) (n1 c1 : Nat) (a2 : Option Addr) (n2 c2 : Nat) : Tryd.prog.built 49 [(0, bV A), (1, .slice a1 n1 c1), (2, .slice a2 n2 c2)] = some (sdR A (.slice a1 n1 c1) (.slice a2 n2 c2)).toArray := by kernel_rfl
theorem range_al0 {w : World} {cs : List Value} {t : TypeId} : (w.alloc (.cells cs.toArray t)).rangeAt w.heap.size 0 cs := fun j v hj => by
  rw [cell_top rfl, Nat.zero_add]
  simpa using hj
theorem yields_sds1 {o : Oper} {a : Act} {w : World} {x : Operand} (ho : o.op = .buildSlice 45 1 #[(0, x)]) {A : Nat} {vp vq : Value} {p q : List Nat} (hx : a.eval x = .agg (sdR A vp vq).toArray) (hp : By w vp p) (hq : By w vq q) : YieldsP Tryd.prog o a w (MP.sds [(A, p, q)]).p := by
  have hp' := hp
  have hq' := hq
  obtain ⟨a1, c1, rfl, _⟩ := hp
  obtain ⟨a2, c2, rfl, _⟩ := hq
  have e0 := run_bsS A a1 p.length c1 a2 q.length c2 w
  have e : (execOp a.eval o).run Tryd.prog w = .ok (.value (.slice (some ⟨w.heap.size, 0, none⟩) 1 1)) (w.alloc (.cells (sdR A (.slice a1 p.length c1) (.slice a2 q.length c2)).toArray 49)) := by
    generalize a.eval = ev at *
    unfold execOp
    simp [ho, hx, e0]
  unfold YieldsP
  rw [e]
  have hb : Below w.heap.size w (w.alloc (.cells (sdR A (.slice a1 p.length c1) (.slice a2 q.length c2)).toArray 49)) := (Below.refl _ _).alloc (Nat.le_refl _) _
  refine ⟨⟨_, _, rfl, fun _ => ⟨_, _, rfl, fun i e he => ?_⟩⟩, hb⟩
  match i, he with
  | 0, he =>
    cases he
    exact ⟨_, _, by rw [Nat.zero_mul, Nat.zero_add]; exact range_al0, hp'.up hb (Nat.le_refl _), hq'.up hb (Nat.le_refl _)⟩
theorem yields_nms1 {o : Oper} {a : Act} {w : World} {x : Operand} (ho : o.op = .buildSlice 43 1 #[(0, x)]) {k : Nm} (hx : a.eval x = N k) : YieldsP Tryd.prog o a w (MP.nms [k]).p := by
  have e : (execOp a.eval o).run Tryd.prog w = .ok (.value (.slice (some ⟨w.heap.size, 0, none⟩) 1 1)) (w.alloc (.cells (c4 k).toArray 26)) := by
    generalize a.eval = ev at *
    unfold execOp
    simp [ho, hx, go_sem]
  unfold YieldsP
  rw [e]
  have hb : Below w.heap.size w (w.alloc (.cells (c4 k).toArray 26)) := (Below.refl _ _).alloc (Nat.le_refl _) _
  refine ⟨⟨_, _, rfl, fun _ => ⟨_, _, rfl, fun i e he => ?_⟩⟩, hb⟩
  match i, he with
  | 0, he =>
    cases he
    rw [Nat.zero_mul, Nat.zero_add]
    exact range_al0
theorem cfBt (args : Array Value) (W : World) : (callFunc 15 args).run Tryd.prog W = .ok (.enter 15 args) W := cf_is (fn := Tryd.f15) (by kernel_rfl) (by decide) (by kernel_rfl) args W
theorem cfVg (args : Array Value) (W : World) : (callFunc 12 args).run Tryd.prog W = .ok (.enter 12 args) W := cf_is (fn := Tryd.f12) (by kernel_rfl) (by decide) (by kernel_rfl) args W
theorem num_one : Tryd.prog.built 26 [(0, .int .u64 1)] = some (c4 ⟨1, 0, 0, 0⟩).toArray := by kernel_rfl
theorem yields_b1 {o : Oper} {a : Act} {w : World} {t : TypeId} (x : Operand) (ho : o.op = .build t #[(0, x)]) {u : Value} {cs : List Value} (hx : a.eval x = u) (hb : Tryd.prog.built t [(0, u)] = some cs.toArray) : YieldsP Tryd.prog o a w (MP.eq (.agg cs.toArray)).p :=
  yields_run (by
    have e1 : (Instr.build t ((#[(0, x)] : Array (Nat × Operand)).map fun x => (x.fst, a.eval x.snd))).run Tryd.prog w = .ok (.agg cs.toArray) w := run_build w t _ _ (by simpa [hx] using hb)
    simp only [execOp, ho, Sem.run_bind, e1, Result.andThen_ok, Sem.run_pure])
set_option maxRecDepth 20000 in
set_option maxHeartbeats 2000000 in
theorem signAlone_walk (A r : Nat) (av : Option Addr) (nv cv : Nat) (au : Option Addr) (nu cu : Nat) (p q : List Nat)
    (SS : ∀ w, KTab w → Calls Tryd.prog 13 #[] w fun e w' => e = .returned (.bool true) ∧ Below w.heap.size w w')
    (BT : Hid (∀ v u w, Sds w v [(A, p, q)] → Nms w u [⟨1, 0, 0, 0⟩] → KTab w → Calls Tryd.prog 15 #[v, u] w fun e w' => e = .returned (.int .i64 (r : Int)) ∧ Below w.heap.size w w'))
    (B0 : Hid (∀ w, KTab w → Calls Tryd.prog 15 #[.slice none 0 0, .slice none 0 0] w fun e w' => e = .returned (.int .i64 0) ∧ Below w.heap.size w w'))
    (VR : Hid (∀ w, By w (.slice av nv cv) p → By w (.slice au nu cu) q → KTab w → Calls Tryd.prog 12 #[bV A, .slice av nv cv, .slice au nu cu] w fun e w' => e = .returned (.int .i64 (r : Int)) ∧ Below w.heap.size w w'))
    (w : World) (hv : By w (.slice av nv cv) p) (hu : By w (.slice au nu cu) q) (hT : KTab w) :
    Calls Tryd.prog 5 #[bV A, .slice av nv cv, .slice au nu cu] w fun e w' => e = .returned (.bool true) ∧ Below w.heap.size w w' := by
  have HV : Hid (By w (.slice av nv cv) p) := hv
  have HU : Hid (By w (.slice au nu cu) q) := hu
  have HT : Hid (KTab w) := hT
  clear hv hu hT
  go_enter Tryd.func5, Tryd.ntmps5
  have s0 : Hid (Kn (w.alloc (.cells (bR (A)).toArray 22)) [(w.heap.size, (bR (A)))]) := ((Kn.nil w).al (bR (A)) 22 rfl)
  have b0 : Hid (Below w.heap.size w (w.alloc (.cells (bR (A)).toArray 22))) := ((Below.refl _ _).alloc (Nat.le_refl _) _)
  go_wp2_with fail
  refine (SS _ (HT.out.up b0.out HT.out.pos)).mono ?_
  rintro e w1 ⟨rfl, hb1⟩
  have s1 : Hid (Kn w1 [(w.heap.size, (bR (A)))]) := s0.out.up hb1
  have b1 : Hid (Below w.heap.size w w1) := b0.out.trans (hb1.mono b0.out.size)
  have z1 := b1.out.size
  clear hb1 s0 b0
  go_wp2_with fail
  have G : Hid _ := s1
  have KU : Hid (∀ W, Below w1.heap.size w1 W → KTab W) := fun W hW => HT.out.up (b1.out.trans (hW.mono b1.out.size)) HT.out.pos
  have VU : Hid (∀ W, Below w1.heap.size w1 W → By W (.slice av nv cv) p) := fun W hW => HV.out.up (b1.out.trans (hW.mono b1.out.size)) (Nat.le_refl _)
  have UU : Hid (∀ W, Below w1.heap.size w1 W → By W (.slice au nu cu) q) := fun W hW => HU.out.up (b1.out.trans (hW.mono b1.out.size)) (Nat.le_refl _)
  refine wp_region_monoE [MP.eq (bV A), MP.eq (.slice av nv cv), MP.eq (.slice au nu cu), MP.eq (.agg (sdR A (.slice av nv cv) (.slice au nu cu)).toArray), MP.sds [(A, p, q)], MP.eq (N ⟨1, 0, 0, 0⟩), MP.nms [⟨1, 0, 0, 0⟩], MP.eq (.int .i64 (r : Int)), MP.eq (bV A), MP.eq (.slice av nv cv), MP.eq (.slice au nu cu), MP.eq (.int .i64 (r : Int)), MP.eq (.bool true), MP.eq (.bool true), MP.eq (.int .i64 0), MP.eq (.bool true), MP.eq (.bool true), MP.eq (.bool true)] (by kernel_rfl) (by kernel_rfl) rfl ?_
  apply Exists.intro
  refine ⟨fun vals => ?_, ?_, fun vals2 w2 hb2 hF => ?_⟩
  · simp only [putsV, dstL, List.length_cons, List.length_nil, Nat.zero_add, Nat.reduceAdd, List.getElem?_cons_zero, List.getElem?_cons_succ, Option.bind_some, Act.put, List.setIfInBounds_toArray, List.set_cons_succ, List.set_cons_zero]
    rfl
  · refine ⟨?_, ?_, ?_, ?_, ?_, ?_, ?_, ?_, ?_, ?_, ?_, ?_, ?_, ?_, ?_, ?_, ?_, ?_, trivial⟩
    · intro vals W hW hw hd
      try simp [Region.binds] at hd
      refine ⟨by first | rfl | simp [Region.wanted, yielded, hd], ?_⟩
      exact yields_ldR 22 (.tmp 3) rfl w.heap.size 0 rfl (bR A) _ (Kn.rng (G.out.up hW.out) 0 rfl) Tryd.underlying22 rfl (info_bR A)
    · intro vals W hW hw hd
      try simp [Region.binds] at hd
      refine ⟨by first | rfl | simp [Region.wanted, yielded, hd], ?_⟩
      exact yields_mv (.tmp 1) rfl rfl
    · intro vals W hW hw hd
      try simp [Region.binds] at hd
      refine ⟨by first | rfl | simp [Region.wanted, yielded, hd], ?_⟩
      exact yields_mv (.tmp 2) rfl rfl
    · intro vals W hW hw hd
      try simp [Region.binds] at hd
      refine ⟨by first | rfl | simp [Region.wanted, yielded, hd], ?_⟩
      exact yields_build3 49 (.tmp 9) (.tmp 10) (.tmp 11) rfl (by first | exact hd | exact hd.1 | exact hd.2 | exact hd.2.1 | exact hd.2.2 | exact hd.2.2.1 | exact hd.2.2.2 | exact hd.2.2.2.1 | exact hd.2.2.2.2) (by first | exact hd | exact hd.1 | exact hd.2 | exact hd.2.1 | exact hd.2.2 | exact hd.2.2.1 | exact hd.2.2.2 | exact hd.2.2.2.1 | exact hd.2.2.2.2) (by first | exact hd | exact hd.1 | exact hd.2 | exact hd.2.1 | exact hd.2.2 | exact hd.2.2.1 | exact hd.2.2.2 | exact hd.2.2.2.1 | exact hd.2.2.2.2) (signed_built A av nv cv au nu cu)
    · intro vals W hW hw hd
      try simp [Region.binds] at hd
      refine ⟨by first | rfl | simp [Region.wanted, yielded, hd], ?_⟩
      exact yields_sds1 (x := .tmp 12) rfl (by first | exact hd | exact hd.1 | exact hd.2 | exact hd.2.1 | exact hd.2.2 | exact hd.2.2.1 | exact hd.2.2.2 | exact hd.2.2.2.1 | exact hd.2.2.2.2) (VU.out W hW.out) (UU.out W hW.out)
    · intro vals W hW hw hd
      try simp [Region.binds] at hd
      refine ⟨by first | rfl | simp [Region.wanted, yielded, hd], ?_⟩
      exact yields_b1 (.const (.int .u64 1)) rfl rfl num_one
    · intro vals W hW hw hd
      try simp [Region.binds] at hd
      refine ⟨by first | rfl | simp [Region.wanted, yielded, hd], ?_⟩
      exact yields_nms1 (x := .tmp 14) rfl (by first | exact hd | exact hd.1 | exact hd.2 | exact hd.2.1 | exact hd.2.2 | exact hd.2.2.1 | exact hd.2.2.2 | exact hd.2.2.2.1 | exact hd.2.2.2.2)
    · intro vals W hW hw hd
      try simp [Region.binds] at hd
      refine ⟨by first | rfl | simp [Region.wanted, yielded, hd], ?_⟩
      exact yields_call2 cfBt (.tmp 13) (.tmp 15) _ rfl _ _ rfl rfl ((BT.out _ _ W (by first | exact hd | exact hd.1 | exact hd.2 | exact hd.2.1 | exact hd.2.2 | exact hd.2.2.1 | exact hd.2.2.2 | exact hd.2.2.2.1 | exact hd.2.2.2.2) (by first | exact hd | exact hd.1 | exact hd.2 | exact hd.2.1 | exact hd.2.2 | exact hd.2.2.1 | exact hd.2.2.2 | exact hd.2.2.2.1 | exact hd.2.2.2.2) (KU.out W hW.out)).mono fun e w' ⟨he, hb⟩ => ⟨_, he, rfl, hb⟩)
    · intro vals W hW hw hd
      try simp [Region.binds] at hd
      refine ⟨by first | rfl | simp [Region.wanted, yielded, hd], ?_⟩
      exact yields_ldR 22 (.tmp 3) rfl w.heap.size 0 rfl (bR A) _ (Kn.rng (G.out.up hW.out) 0 rfl) Tryd.underlying22 rfl (info_bR A)
    · intro vals W hW hw hd
      try simp [Region.binds] at hd
      refine ⟨by first | rfl | simp [Region.wanted, yielded, hd], ?_⟩
      exact yields_mv (.tmp 1) rfl rfl
    · intro vals W hW hw hd
      try simp [Region.binds] at hd
      refine ⟨by first | rfl | simp [Region.wanted, yielded, hd], ?_⟩
      exact yields_mv (.tmp 2) rfl rfl
    · intro vals W hW hw hd
      try simp [Region.binds] at hd
      refine ⟨by first | rfl | simp [Region.wanted, yielded, hd], ?_⟩
      exact yields_call3 cfVg (.tmp 17) (.tmp 18) (.tmp 19) _ rfl (bV A) (.slice av nv cv) (.slice au nu cu) (by first | exact hd | exact hd.1 | exact hd.2 | exact hd.2.1 | exact hd.2.2 | exact hd.2.2.1 | exact hd.2.2.2 | exact hd.2.2.2.1 | exact hd.2.2.2.2) (by first | exact hd | exact hd.1 | exact hd.2 | exact hd.2.1 | exact hd.2.2 | exact hd.2.2.1 | exact hd.2.2.2 | exact hd.2.2.2.1 | exact hd.2.2.2.2) (by first | exact hd | exact hd.1 | exact hd.2 | exact hd.2.1 | exact hd.2.2 | exact hd.2.2.1 | exact hd.2.2.2 | exact hd.2.2.2.1 | exact hd.2.2.2.2) ((VR.out W (VU.out W hW.out) (UU.out W hW.out) (KU.out W hW.out)).mono fun e w' ⟨he, hb⟩ => ⟨_, he, rfl, hb⟩)
    · intro vals W hW hw hd
      try simp [Region.binds] at hd
      refine ⟨by first | rfl | simp [Region.wanted, yielded, hd], ?_⟩
      exact yields_binI (.tmp 16) (.tmp 20) rfl (by first | exact hd | exact hd.1 | exact hd.2 | exact hd.2.1 | exact hd.2.2 | exact hd.2.2.1 | exact hd.2.2.2 | exact hd.2.2.2.1 | exact hd.2.2.2.2) (by first | exact hd | exact hd.1 | exact hd.2 | exact hd.2.1 | exact hd.2.2 | exact hd.2.2.1 | exact hd.2.2.2 | exact hd.2.2.2.1 | exact hd.2.2.2.2) (fun w => by simp [go_sem])
    · intro vals W hW hw hd
      try simp [Region.binds] at hd
      refine ⟨by first | rfl | simp [Region.wanted, yielded, hd], ?_⟩
      exact yields_mv (.tmp 21) rfl (by first | exact hd | exact hd.1 | exact hd.2 | exact hd.2.1 | exact hd.2.2 | exact hd.2.2.1 | exact hd.2.2.2 | exact hd.2.2.2.1 | exact hd.2.2.2.2)
    · intro vals W hW hw hd
      try simp [Region.binds] at hd
      refine ⟨by first | rfl | simp [Region.wanted, yielded, hd], ?_⟩
      exact yields_call2 cfBt (.const (.slice none 0 0)) (.const (.slice none 0 0)) _ rfl _ _ rfl rfl ((B0.out W (KU.out W hW.out)).mono fun e w' ⟨he, hb⟩ => ⟨_, he, rfl, hb⟩)
    · intro vals W hW hw hd
      try simp [Region.binds] at hd
      refine ⟨by first | rfl | simp [Region.wanted, yielded, hd], ?_⟩
      exact yields_binI (.tmp 23) (.const (.int .i64 0)) rfl (by first | exact hd | exact hd.1 | exact hd.2 | exact hd.2.1 | exact hd.2.2 | exact hd.2.2.1 | exact hd.2.2.2 | exact hd.2.2.2.1 | exact hd.2.2.2.2) rfl (fun w => by simp [go_sem])
    · intro vals W hW hw hd
      try simp [Region.binds] at hd
      refine ⟨by first | rfl | simp [Region.wanted, yielded, hd], ?_⟩
      exact yields_pickT (.tmp 22) (.tmp 24) (.const (.bool false)) rfl (by first | exact hd | exact hd.1 | exact hd.2 | exact hd.2.1 | exact hd.2.2 | exact hd.2.2.1 | exact hd.2.2.2 | exact hd.2.2.2.1 | exact hd.2.2.2.2) (by first | exact hd | exact hd.1 | exact hd.2 | exact hd.2.1 | exact hd.2.2 | exact hd.2.2.1 | exact hd.2.2.2 | exact hd.2.2.2.1 | exact hd.2.2.2.2)
    · intro vals W hW hw hd
      try simp [Region.binds] at hd
      refine ⟨by first | rfl | simp [Region.wanted, yielded, hd], ?_⟩
      exact yields_as (.tmp 25) rfl (by first | exact hd | exact hd.1 | exact hd.2 | exact hd.2.1 | exact hd.2.2 | exact hd.2.2.1 | exact hd.2.2.2 | exact hd.2.2.2.1 | exact hd.2.2.2.2)
  obtain ⟨f0, f1, f2, f3, f4, f5, f6, f7, f8, f9, f10, f11, f12, f13, f14, f15, f16, f17, _⟩ := hF
  simp only [MP.eq_p] at f0 f1 f2 f3 f5 f7 f8 f9 f10 f11 f12 f13 f14 f15 f16 f17
  rw [f17]
  have b2 : Hid (Below w.heap.size w w2) := b1.out.trans (hb2.out.mono b1.out.size)
  clear f0 f1 f2 f3 f4 f5 f6 f7 f8 f9 f10 f11 f12 f13 f14 f15 f16 f17 hb2 s1 b1 G KU VU UU
  go_wp2_with fail
  go_ret
  exact ⟨rfl, b2.out⟩
theorem signAlone_of (NC : SgNewC) (SC : SgSignC) (VC : SgVerC) (BC : SgBatC) (A : Nat) (hA : A < 2 ^ 256) (p q : List Nat) (lp : lowP p) (lq : lowP q) (v u : Value) (w : World) (hv : By w v p) (hu : By w u q) (hT : KTab w) :
    Calls Tryd.prog 5 #[bV A, v, u] w fun e w' => e = .returned (.bool true) ∧ Below w.heap.size w w' := by
  obtain ⟨av, cv, rfl⟩ := hv.len
  obtain ⟨au, cu, rfl⟩ := hu.len
  have o1 : (⟨1, 0, 0, 0⟩ : Nm).ok := by rw [one_nm]; exact nm_ok 1
  have n1 : (⟨1, 0, 0, 0⟩ : Nm).nat = 1 := by rw [one_nm]; exact nm_nat (by decide)
  refine signAlone_walk A (vrN A p q) av _ cv au _ cu p q (signs_fun NC SC VC) (fun v u w hv hu hT => ?_) (fun w hT => ?_) (fun w hv hu hT => VC A hA p q lp lq _ _ w hv hu hT) w hv hu hT
  · have := BC [(A, p, q)] [⟨1, 0, 0, 0⟩] (fun e he => by rw [List.mem_singleton.1 he]; exact ⟨hA, lp, lq⟩) (fun x hx => by rw [List.mem_singleton.1 hx]; exact o1) v u w hv hu hT
    have e : bchN [(A, p, q)] [⟨1, 0, 0, 0⟩] = vrN A p q := by
      rw [vrN_rd]
      unfold bchN
      rw [if_neg (by simp), if_neg (by simp)]
      show batN [(⟨1, 0, 0, 0⟩, A, p, q)] 0 Cv.zero = _
      rw [batN]
      cases h : rdN A p q with
      | error e => rfl
      | ok tU =>
        obtain ⟨t, U⟩ := tU
        obtain ⟨ht, hU⟩ := rd_ok hA lq h
        simp only [batN]
        rw [n1, Nat.one_mul, Nat.zero_add, Nat.mod_mod, Nat.mod_eq_of_lt ht, Cv.times_one hU, Cv.zero_add hU]
    rwa [e] at this
  · have := BC [] [] (by simp) (by simp) (.slice none 0 0) (.slice none 0 0) w ⟨none, 0, rfl, fun h => absurd h (by simp)⟩ ⟨none, 0, rfl, fun h => absurd h (by simp)⟩ hT
    rwa [show bchN [] [] = 0 by
      unfold bchN
      rw [if_neg (by simp), if_neg (by simp)]
      show batN [] 0 Cv.zero = 0
      rw [batN, if_pos]
      rfl] at this
end Go.Proofs.YtfknkfninjjgbabDoor
