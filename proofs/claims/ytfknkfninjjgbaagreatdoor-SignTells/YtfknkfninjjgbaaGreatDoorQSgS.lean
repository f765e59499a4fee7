/- Package sign, as it landed: Sign. -/
import Derived.Test.YtfknkfninjjgbaaGreatDoorQSgNToSgTp
import Derived.Test.YtfknkfninjjgbaaGreatDoorQHLawToSDig
namespace Go.Proofs.YtfknkfninjjgbaaGreatDoor
open Go.RowKit
attribute [local go_sem] World.cell?_alloc_some cell_alloc2 cell_alloc3 cell_alloc4 frozen?_alloc_cells frozen_out
attribute [local simp] MP.eq_p
set_option linter.unusedSimpArgs false
theorem By.of_rng {w : World} {k o n : Nat} (h : w.rangeAt k o (bR n)) : By w (.slice (some ⟨k, o, none⟩) 32 32) (S.by n) := by
 have := By.of_cells (w := w) (b := k) (o := o) (c := 32) (xs := S.by n) (by rw [S.by_length]; decide) fun j hj => by
  refine h j _ ?_
  rw [S.by_row, List.getElem?_map, List.getElem?_eq_getElem hj, List.getD_eq_getElem?_getD, List.getElem?_eq_getElem hj]
  rfl
 rw [S.by_length] at this
 exact this
theorem wp_all32o {ops : Array Oper} {rest : List Oper} {o : Oper} {a : Act} {Q : Exit → Act → World → Prop} {w : World} (hgd : o.guard = none) (x : Operand) (ho : o.op = .slice 22 x none none none) (b f : Nat) (hx : a.eval x = .pointer (some ⟨b, f, none⟩))
  (h : wpList Tryz.prog ops Q rest (a.put o.dst (.slice (some ⟨b, f, none⟩) 32 32)) w) : wpList Tryz.prog ops Q (o :: rest) a w := by
 refine wpList_plain hgd fun K hK => ?_
 have e1 := slice_all u_b32 u_b32r (by decide) b f w
 unfold Oper.wp
 simp [execOp, ho, hx, e1, Result.andThen]
 exact hK _ _ h
theorem exec_all64 {o : Oper} {a : Act} (x : Operand) (ho : o.op = .slice 30 x none none none) (b : Nat) (hx : a.eval x = .pointer (some ⟨b, 0, none⟩)) (W : World) : (execOp a.eval o).run Tryz.prog W = .ok (.value (.slice (some ⟨b, 0, none⟩) 64 64)) W := by
 have e1 := slice_all u_b64 u_b32r (by decide) b 0 W
 unfold execOp
 simp [ho, hx, e1]
theorem exec_from64 {o : Oper} {a : Act} (x y : Operand) (ho : o.op = .slice 30 x (some y) none none) (b : Nat) (hx : a.eval x = .pointer (some ⟨b, 0, none⟩)) (hy : a.eval y = .int .i64 32) (W : World) : (execOp a.eval o).run Tryz.prog W = .ok (.value (.slice (some ⟨b, 32, none⟩) 32 32)) W := by
 have e1 : (Instr.sliceAt 30 (.pointer (some ⟨b, 0, none⟩)) (some (.int .i64 32)) none none).run Tryz.prog W = .ok (.slice (some ⟨b, 32, none⟩) 32 32) W := by
  have := slice_from u_b64 u_b32r .i64 32 (by decide) b 0 W
  simpa using this
 unfold execOp
 simp [ho, hx, hy, e1]
theorem yields_pub2 {o : Oper} {a : Act} {w : World} (x : Operand) (ho : o.op = .fieldAddr 28 x 2) (b : Nat) (hx : a.eval x = .pointer (some ⟨b, 0, none⟩)) : YieldsP Tryz.prog o a w (MP.eq (.pointer (some ⟨b, 36, none⟩))).p := by
 have e : (execOp a.eval o).run Tryz.prog w = .ok (.value (.pointer (some ⟨b, 36, none⟩))) w := by
  generalize a.eval = ev at *
  unfold execOp
  simp [ho, hx, go_sem]
 unfold YieldsP
 rw [e]
 exact ⟨rfl, Below.refl _ _⟩
theorem Kn.putAt {w : World} {L : List (Nat × List Value)} {k o : Nat} {a b c b' : List Value} (h : Kn w ((k, a ++ (b ++ c)) :: L)) (ho : o = a.length) (hl : b'.length = b.length) : Kn (w.setCells k o b') ((k, a ++ (b' ++ c)) :: L) := by
 refine ⟨h.nd, fun p hp => ?_⟩
 rcases List.mem_cons.1 hp with rfl | hp
 ·have h0 := h.all _ List.mem_cons_self
  have h1 : Blk w k (a ++ (b ++ c)) := ⟨h0.lt, h0.cell, h0.fz⟩
  have h2 := h1.store (b' := b') ho hl
  exact ⟨h2.lt, h2.cell, h2.fz⟩
 ·have hb := h.all p (List.mem_cons_of_mem _ hp)
  have hk : p.1 ≠ k := fun e => by
   have := (List.nodup_cons.1 h.nd).1
   exact this (List.mem_map.2 ⟨p, hp, e⟩)
  exact ⟨by rw [I.size_setCells]; exact hb.lt, fun j v hv => by rw [World.cell?_setCells_out k b' o w ⟨p.1, j, none⟩ (fun e _ => absurd e hk)]; exact hb.cell j v hv, fun j => by rw [World.frozen?_setCells]; exact hb.fz j⟩
theorem sgZ_is : sgZ = sgR 0 0 := by kernel_rfl
theorem Kn.sg0 {w : World} {L : List (Nat × List Value)} {k : Nat} (h : Kn w ((k, sgZ) :: L)) (f : Nat) : Kn (w.setCells k 0 ((S.by f).map b8)) ((k, sgR f 0) :: L) := by
 rw [sgZ_is] at h
 rw [← S.by_row]
 exact Kn.putAt (a := []) (b := bR 0) (c := bR 0) h rfl (by rw [bR_length, bR_length])
theorem Kn.sg1 {w : World} {L : List (Nat × List Value)} {k f : Nat} (h : Kn w ((k, sgR f 0) :: L)) (s : Nat) : Kn (w.setCells k 32 ((S.by s).map b8)) ((k, sgR f s) :: L) := by
 rw [← S.by_row]
 have h' : Kn w ((k, bR f ++ (bR 0 ++ [])) :: L) := by rw [List.append_nil]; exact h
 have := Kn.putAt (b' := bR s) h' (bR_length f).symm (by rw [bR_length, bR_length])
 rwa [List.append_nil] at this
theorem cfDg (args : Array Value) (W : World) : (callFunc 28 args).run Tryz.prog W = .ok (.enter 28 args) W := cf_is (fn := Tryz.f28) (by kernel_rfl) (by decide) (by kernel_rfl) args W
theorem zero_n4 (w : World) : (zeroValue 26).run Tryz.prog w = .ok (.agg zz4.toArray) w := I.zero_of (by kernel_rfl) w
set_option maxRecDepth 20000 in
set_option maxHeartbeats 4000000 in
theorem sgSign_walk (n m a f s : Nat) (x d1 r d2 mu su : Nm) (av : Option Addr) (nv cv : Nat) (p : List Nat)
  (NW : Hid (∀ w, KTab w → Calls Tryz.prog 6 #[bV n] w fun e w' => e = .returned (prV x m a) ∧ Below w.heap.size w w'))
  (D1 : Hid (∀ u w, Rw w u [S.by m, p] → KTab w → Calls Tryz.prog 28 #[.int .u8 3, u] w fun e w' => e = .returned (N d1) ∧ Below w.heap.size w w'))
  (OO : ∀ w, Calls Tryz.prog 14 #[N d1] w fun e w' => e = .returned (N r) ∧ Below w.heap.size w w')
  (PB : ∀ w, Calls Tryz.prog 19 #[N r] w fun e w' => e = .returned (.agg (bR (f)).toArray) ∧ Below w.heap.size w w')
  (D2 : Hid (∀ u w, Rw w u [S.by f, S.by a, p] → KTab w → Calls Tryz.prog 28 #[.int .u8 4, u] w fun e w' => e = .returned (N d2) ∧ Below w.heap.size w w'))
  (MU : ∀ w, Calls Tryz.prog 31 #[N d2, N x] w fun e w' => e = .returned (N mu) ∧ Below w.heap.size w w')
  (AD : ∀ w, Calls Tryz.prog 30 #[N r, N mu] w fun e w' => e = .returned (N su) ∧ Below w.heap.size w w')
  (BY : ∀ w, Calls Tryz.prog 29 #[N su] w fun e w' => e = .returned (.agg (bR (s)).toArray) ∧ Below w.heap.size w w')
  (w : World) (hv : By w (.slice av nv cv) p) (hT : KTab w) :
  Calls Tryz.prog 8 #[bV n, .slice av nv cv] w fun e w' => e = .returned (sgV f s) ∧ Below w.heap.size w w' := by
 have HV : Hid (By w (.slice av nv cv) p) := hv
 have HT : Hid (KTab w) := hT
 clear hv hT
 go_enter Tryz.func8, Tryz.ntmps8
 have s0 : Hid (Kn ((w.alloc (.cells (bR (n)).toArray 22)).alloc (.cells #[Value.int IntKind.u8 0, .int .u8 0, .int .u8 0, .int .u8 0, .int .u8 0, .int .u8 0, .int .u8 0, .int .u8 0, .int .u8 0, .int .u8 0, .int .u8 0, .int .u8 0, .int .u8 0, .int .u8 0, .int .u8 0, .int .u8 0, .int .u8 0, .int .u8 0, .int .u8 0, .int .u8 0, .int .u8 0, .int .u8 0, .int .u8 0, .int .u8 0, .int .u8 0, .int .u8 0, .int .u8 0, .int .u8 0, .int .u8 0, .int .u8 0, .int .u8 0, .int .u8 0, .int .u8 0, .int .u8 0, .int .u8 0, .int .u8 0, .int .u8 0, .int .u8 0, .int .u8 0, .int .u8 0, .int .u8 0, .int .u8 0, .int .u8 0, .int .u8 0, .int .u8 0, .int .u8 0, .int .u8 0, .int .u8 0, .int .u8 0, .int .u8 0, .int .u8 0, .int .u8 0, .int .u8 0, .int .u8 0, .int .u8 0, .int .u8 0, .int .u8 0, .int .u8 0, .int .u8 0, .int .u8 0, .int .u8 0, .int .u8 0, .int .u8 0, .int .u8 0] 30)) [(w.heap.size + 1, sgZ), (w.heap.size, (bR (n)))]) := (((Kn.nil w).al (bR (n)) 22 rfl).al sgZ 30 (by simp))
 have b0 : Hid (Below w.heap.size w ((w.alloc (.cells (bR (n)).toArray 22)).alloc (.cells #[Value.int IntKind.u8 0, .int .u8 0, .int .u8 0, .int .u8 0, .int .u8 0, .int .u8 0, .int .u8 0, .int .u8 0, .int .u8 0, .int .u8 0, .int .u8 0, .int .u8 0, .int .u8 0, .int .u8 0, .int .u8 0, .int .u8 0, .int .u8 0, .int .u8 0, .int .u8 0, .int .u8 0, .int .u8 0, .int .u8 0, .int .u8 0, .int .u8 0, .int .u8 0, .int .u8 0, .int .u8 0, .int .u8 0, .int .u8 0, .int .u8 0, .int .u8 0, .int .u8 0, .int .u8 0, .int .u8 0, .int .u8 0, .int .u8 0, .int .u8 0, .int .u8 0, .int .u8 0, .int .u8 0, .int .u8 0, .int .u8 0, .int .u8 0, .int .u8 0, .int .u8 0, .int .u8 0, .int .u8 0, .int .u8 0, .int .u8 0, .int .u8 0, .int .u8 0, .int .u8 0, .int .u8 0, .int .u8 0, .int .u8 0, .int .u8 0, .int .u8 0, .int .u8 0, .int .u8 0, .int .u8 0, .int .u8 0, .int .u8 0, .int .u8 0, .int .u8 0] 30))) := (((Below.refl _ _).alloc (Nat.le_refl _) _).alloc (by simp <;> omega) _)
 go_wp2_with (first | refine wp_ldW rfl 22 _ rfl (w.heap.size) 0 rfl (bR (n)) _ (Kn.rng s0.out 1 rfl) Tryz.underlying22 rfl (info_bR (n)) ?_ | simp only [zero_b64])
 refine (NW.out _ (HT.out.up b0.out HT.out.pos)).mono ?_
 rintro e w1 ⟨rfl, hb1⟩
 have s1 : Hid (Kn w1 _) := s0.out.up hb1
 have b1 : Hid (Below w.heap.size w w1) := b0.out.trans (hb1.mono b0.out.size)
 have z1 := b1.out.size
 clear hb1 s0 b0
 have s2x : Hid (Kn (w1.alloc (.cells #[Value.int IntKind.u64 0, .int .u64 0, .int .u64 0, .int .u64 0, Value.int IntKind.u8 0, .int .u8 0, .int .u8 0, .int .u8 0, .int .u8 0, .int .u8 0, .int .u8 0, .int .u8 0, .int .u8 0, .int .u8 0, .int .u8 0, .int .u8 0, .int .u8 0, .int .u8 0, .int .u8 0, .int .u8 0, .int .u8 0, .int .u8 0, .int .u8 0, .int .u8 0, .int .u8 0, .int .u8 0, .int .u8 0, .int .u8 0, .int .u8 0, .int .u8 0, .int .u8 0, .int .u8 0, .int .u8 0, .int .u8 0, .int .u8 0, .int .u8 0, .int .u8 0, .int .u8 0, .int .u8 0, .int .u8 0, .int .u8 0, .int .u8 0, .int .u8 0, .int .u8 0, .int .u8 0, .int .u8 0, .int .u8 0, .int .u8 0, .int .u8 0, .int .u8 0, .int .u8 0, .int .u8 0, .int .u8 0, .int .u8 0, .int .u8 0, .int .u8 0, .int .u8 0, .int .u8 0, .int .u8 0, .int .u8 0, .int .u8 0, .int .u8 0, .int .u8 0, .int .u8 0, .int .u8 0, .int .u8 0, .int .u8 0, .int .u8 0] 28)) [(w1.heap.size, pairZ), (w.heap.size + 1, sgZ), (w.heap.size, (bR (n)))]) := s1.out.al pairZ 28 rfl
 have b2x : Hid (Below w.heap.size w (w1.alloc (.cells #[Value.int IntKind.u64 0, .int .u64 0, .int .u64 0, .int .u64 0, Value.int IntKind.u8 0, .int .u8 0, .int .u8 0, .int .u8 0, .int .u8 0, .int .u8 0, .int .u8 0, .int .u8 0, .int .u8 0, .int .u8 0, .int .u8 0, .int .u8 0, .int .u8 0, .int .u8 0, .int .u8 0, .int .u8 0, .int .u8 0, .int .u8 0, .int .u8 0, .int .u8 0, .int .u8 0, .int .u8 0, .int .u8 0, .int .u8 0, .int .u8 0, .int .u8 0, .int .u8 0, .int .u8 0, .int .u8 0, .int .u8 0, .int .u8 0, .int .u8 0, .int .u8 0, .int .u8 0, .int .u8 0, .int .u8 0, .int .u8 0, .int .u8 0, .int .u8 0, .int .u8 0, .int .u8 0, .int .u8 0, .int .u8 0, .int .u8 0, .int .u8 0, .int .u8 0, .int .u8 0, .int .u8 0, .int .u8 0, .int .u8 0, .int .u8 0, .int .u8 0, .int .u8 0, .int .u8 0, .int .u8 0, .int .u8 0, .int .u8 0, .int .u8 0, .int .u8 0, .int .u8 0, .int .u8 0, .int .u8 0, .int .u8 0, .int .u8 0] 28))) := b1.out.alloc b1.out.size _
 have g2 : w.heap.size ≤ w1.heap.size := b1.out.size
 have TT2 : Hid ((w1.alloc (.cells #[Value.int IntKind.u64 0, .int .u64 0, .int .u64 0, .int .u64 0, Value.int IntKind.u8 0, .int .u8 0, .int .u8 0, .int .u8 0, .int .u8 0, .int .u8 0, .int .u8 0, .int .u8 0, .int .u8 0, .int .u8 0, .int .u8 0, .int .u8 0, .int .u8 0, .int .u8 0, .int .u8 0, .int .u8 0, .int .u8 0, .int .u8 0, .int .u8 0, .int .u8 0, .int .u8 0, .int .u8 0, .int .u8 0, .int .u8 0, .int .u8 0, .int .u8 0, .int .u8 0, .int .u8 0, .int .u8 0, .int .u8 0, .int .u8 0, .int .u8 0, .int .u8 0, .int .u8 0, .int .u8 0, .int .u8 0, .int .u8 0, .int .u8 0, .int .u8 0, .int .u8 0, .int .u8 0, .int .u8 0, .int .u8 0, .int .u8 0, .int .u8 0, .int .u8 0, .int .u8 0, .int .u8 0, .int .u8 0, .int .u8 0, .int .u8 0, .int .u8 0, .int .u8 0, .int .u8 0, .int .u8 0, .int .u8 0, .int .u8 0, .int .u8 0, .int .u8 0, .int .u8 0, .int .u8 0, .int .u8 0, .int .u8 0, .int .u8 0] 28)).there (w1.heap.size) 0 (prR (x) (m) (a)).length) := Kn.there s2x.out 0 rfl (by rw [(prR_length (x) (m) (a)), pairZ_length])
 go_wp2_with (first | simp only [zero_pair] | refine I.wp_store_eq rfl 28 _ _ rfl (w1.heap.size) 0 (prR (x) (m) (a)) rfl rfl TT2.out (info_prR (x) (m) (a)) (prR_one (x) (m) (a)) ?_)
 intro w2 hw2
 try simp only [Act.put, List.setIfInBounds_toArray, List.set_cons_succ, List.set_cons_zero]
 have s2 : Hid (Kn w2 [(w1.heap.size, (prR (x) (m) (a))), (w.heap.size + 1, sgZ), (w.heap.size, (bR (n)))]) := by rw [hw2.out]; exact Kn.put s2x.out (by rw [(prR_length (x) (m) (a)), pairZ_length])
 have b2 : Hid (Below w.heap.size w w2) := by rw [hw2.out]; exact I.below_setCells _ _ _ b2x.out g2
 have z2 := b2.out.size
 clear hw2 s2x b2x TT2 s1 b1
 go_wp2_with (first | refine wp_all32o rfl _ rfl w1.heap.size 4 rfl ?_)
 have R3 := Rw.made2 w2 (By.of_rng (Kn.png1 s2.out 0 rfl)) (HV.out.up b2.out (Nat.le_refl _))
 have s3 : Hid (Kn (w2.alloc (.cells #[.slice (some ⟨w1.heap.size, 4, none⟩) 32 32, .slice av nv cv] 23)) [(w1.heap.size, prR x m a), (w.heap.size + 1, sgZ), (w.heap.size, bR n)]) := s2.out.up ((Below.refl _ _).alloc (Nat.le_refl _) _)
 have b3 : Hid (Below w.heap.size w (w2.alloc (.cells #[.slice (some ⟨w1.heap.size, 4, none⟩) 32 32, .slice av nv cv] 23))) := b2.out.alloc b2.out.size _
 clear s2 b2
 refine (D1.out _ _ R3 (HT.out.up b3.out HT.out.pos)).mono ?_
 rintro e w4 ⟨rfl, hb4⟩
 have s4 : Hid (Kn w4 _) := s3.out.up hb4
 have b4 : Hid (Below w.heap.size w w4) := b3.out.trans (hb4.mono b3.out.size)
 have z4 := b4.out.size
 clear hb4 s3 b3
 clear R3
 go_wp2_with fail
 refine (OO _).mono ?_
 rintro e w5 ⟨rfl, hb5⟩
 have s5 : Hid (Kn w5 _) := s4.out.up hb5
 have b5 : Hid (Below w.heap.size w w5) := b4.out.trans (hb5.mono b4.out.size)
 have z5 := b5.out.size
 clear hb5 s4 b4
 have s6 : Hid (Kn (kal4 w5 (r)) [(w5.heap.size, (c4 (r))), (w1.heap.size, (prR (x) (m) (a))), (w.heap.size + 1, sgZ), (w.heap.size, (bR (n)))]) := s5.out.al (c4 (r)) 26 rfl
 have b6 : Hid (Below w.heap.size w (kal4 w5 (r))) := b5.out.alloc b5.out.size _
 have z6 := b5.out.size
 clear s5 b5
 have ur_0 : (kal4 w5 (r)).cell? ⟨w5.heap.size, 0, none⟩ = some (.int .u64 (r).a) := Kn.get s6.out 0 0 rfl rfl
 have ur_1 : (kal4 w5 (r)).cell? ⟨w5.heap.size, 1, none⟩ = some (.int .u64 (r).b) := Kn.get s6.out 0 1 rfl rfl
 have ur_2 : (kal4 w5 (r)).cell? ⟨w5.heap.size, 2, none⟩ = some (.int .u64 (r).c) := Kn.get s6.out 0 2 rfl rfl
 have ur_3 : (kal4 w5 (r)).cell? ⟨w5.heap.size, 3, none⟩ = some (.int .u64 (r).d) := Kn.get s6.out 0 3 rfl rfl
 go_wp2_with fail
 clear ur_0 ur_1 ur_2 ur_3
 refine (PB _).mono ?_
 rintro e w7 ⟨rfl, hb7⟩
 have s7 : Hid (Kn w7 _) := s6.out.up hb7
 have b7 : Hid (Below w.heap.size w w7) := b6.out.trans (hb7.mono b6.out.size)
 have z7 := b7.out.size
 clear hb7 s6 b6
 have s8x : Hid (Kn (w7.alloc (.cells #[Value.int IntKind.u8 0, .int .u8 0, .int .u8 0, .int .u8 0, .int .u8 0, .int .u8 0, .int .u8 0, .int .u8 0, .int .u8 0, .int .u8 0, .int .u8 0, .int .u8 0, .int .u8 0, .int .u8 0, .int .u8 0, .int .u8 0, .int .u8 0, .int .u8 0, .int .u8 0, .int .u8 0, .int .u8 0, .int .u8 0, .int .u8 0, .int .u8 0, .int .u8 0, .int .u8 0, .int .u8 0, .int .u8 0, .int .u8 0, .int .u8 0, .int .u8 0, .int .u8 0] 22)) [(w7.heap.size, bZ), (w5.heap.size, (c4 (r))), (w1.heap.size, (prR (x) (m) (a))), (w.heap.size + 1, sgZ), (w.heap.size, (bR (n)))]) := s7.out.al bZ 22 rfl
 have b8x : Hid (Below w.heap.size w (w7.alloc (.cells #[Value.int IntKind.u8 0, .int .u8 0, .int .u8 0, .int .u8 0, .int .u8 0, .int .u8 0, .int .u8 0, .int .u8 0, .int .u8 0, .int .u8 0, .int .u8 0, .int .u8 0, .int .u8 0, .int .u8 0, .int .u8 0, .int .u8 0, .int .u8 0, .int .u8 0, .int .u8 0, .int .u8 0, .int .u8 0, .int .u8 0, .int .u8 0, .int .u8 0, .int .u8 0, .int .u8 0, .int .u8 0, .int .u8 0, .int .u8 0, .int .u8 0, .int .u8 0, .int .u8 0] 22))) := b7.out.alloc b7.out.size _
 have g8 : w.heap.size ≤ w7.heap.size := b7.out.size
 have TT8 : Hid ((w7.alloc (.cells #[Value.int IntKind.u8 0, .int .u8 0, .int .u8 0, .int .u8 0, .int .u8 0, .int .u8 0, .int .u8 0, .int .u8 0, .int .u8 0, .int .u8 0, .int .u8 0, .int .u8 0, .int .u8 0, .int .u8 0, .int .u8 0, .int .u8 0, .int .u8 0, .int .u8 0, .int .u8 0, .int .u8 0, .int .u8 0, .int .u8 0, .int .u8 0, .int .u8 0, .int .u8 0, .int .u8 0, .int .u8 0, .int .u8 0, .int .u8 0, .int .u8 0, .int .u8 0, .int .u8 0] 22)).there (w7.heap.size) 0 (bR (f)).length) := Kn.there s8x.out 0 rfl (by rw [(bR_length (f)), bZ_length])
 go_wp2_with (first | simp only [zero_b32] | refine I.wp_store_eq rfl 22 _ _ rfl (w7.heap.size) 0 (bR (f)) rfl rfl TT8.out (info_bR (f)) (bR_one (f)) ?_)
 intro w8 hw8
 try simp only [Act.put, List.setIfInBounds_toArray, List.set_cons_succ, List.set_cons_zero]
 have s8 : Hid (Kn w8 [(w7.heap.size, (bR (f))), (w5.heap.size, (c4 (r))), (w1.heap.size, (prR (x) (m) (a))), (w.heap.size + 1, sgZ), (w.heap.size, (bR (n)))]) := by rw [hw8.out]; exact Kn.put s8x.out (by rw [(bR_length (f)), bZ_length])
 have b8 : Hid (Below w.heap.size w w8) := by rw [hw8.out]; exact I.below_setCells _ _ _ b8x.out g8
 have z8 := b8.out.size
 clear hw8 s8x b8x TT8 s7 b7
 go_wp2_with fail
 have G : Hid _ := s8
 have KU : Hid (∀ W, Below w8.heap.size w8 W → KTab W) := fun W hW => HT.out.up (b8.out.trans (hW.mono b8.out.size)) HT.out.pos
 have VU : Hid (∀ W, Below w8.heap.size w8 W → By W (.slice av nv cv) p) := fun W hW => HV.out.up (b8.out.trans (hW.mono b8.out.size)) (Nat.le_refl _)
 refine wp_region_monoSE 7 [MP.eq (.slice (some ⟨w7.heap.size, 0, none⟩) 32 32), MP.eq (.pointer (some ⟨w1.heap.size, 36, none⟩)), MP.eq (.slice (some ⟨w1.heap.size, 36, none⟩) 32 32), MP.eq (.slice av nv cv), MP.rw_ [S.by f, S.by a, p], MP.eq (N d2), MP.made w8.heap.size zz4] (by kernel_rfl) (by kernel_rfl) rfl (by decide) (by kernel_rfl) ?_
 apply Exists.intro
 refine ⟨fun vals => ?_, ?_, fun vals9 w9 hb9 hF hO => ?_⟩
 ·simp only [putsV, dstL, List.length_cons, List.length_nil, Nat.zero_add, Nat.reduceAdd, List.getElem?_cons_zero, List.getElem?_cons_succ, Option.bind_some, Act.put, List.setIfInBounds_toArray, List.set_cons_succ, List.set_cons_zero]
  rfl
 ·refine ⟨?_, ?_, ?_, ?_, ?_, ?_, ?_, trivial⟩
  ·intro vals W hW hw hd
   try simp [Region.binds] at hd
   refine ⟨by first | rfl | simp [Region.wanted, yielded, hd], ?_⟩
   exact yields_all u_b32 u_b32r (by decide) (.tmp 7) rfl w7.heap.size 0 rfl rfl
  ·intro vals W hW hw hd
   try simp [Region.binds] at hd
   refine ⟨by first | rfl | simp [Region.wanted, yielded, hd], ?_⟩
   exact yields_pub2 (.tmp 5) rfl w1.heap.size rfl
  ·intro vals W hW hw hd
   try simp [Region.binds] at hd
   refine ⟨by first | rfl | simp [Region.wanted, yielded, hd], ?_⟩
   exact yields_all u_b32 u_b32r (by decide) (.tmp 22) rfl w1.heap.size 36 (by first | exact hd | exact hd.1 | exact hd.2 | exact hd.2.1 | exact hd.2.2 | exact hd.2.2.1 | exact hd.2.2.2 | exact hd.2.2.2.1 | exact hd.2.2.2.2) rfl
  ·intro vals W hW hw hd
   try simp [Region.binds] at hd
   refine ⟨by first | rfl | simp [Region.wanted, yielded, hd], ?_⟩
   exact yields_mv (.tmp 1) rfl rfl
  ·intro vals W hW hw hd
   try simp [Region.binds] at hd
   refine ⟨by first | rfl | simp [Region.wanted, yielded, hd], ?_⟩
   exact yields_rw3 (.tmp 21) (.tmp 23) (.tmp 24) rfl (by first | exact hd | exact hd.1 | exact hd.2 | exact hd.2.1 | exact hd.2.2 | exact hd.2.2.1 | exact hd.2.2.2 | exact hd.2.2.2.1 | exact hd.2.2.2.2) (by first | exact hd | exact hd.1 | exact hd.2 | exact hd.2.1 | exact hd.2.2 | exact hd.2.2.1 | exact hd.2.2.2 | exact hd.2.2.2.1 | exact hd.2.2.2.2) (by first | exact hd | exact hd.1 | exact hd.2 | exact hd.2.1 | exact hd.2.2 | exact hd.2.2.1 | exact hd.2.2.2 | exact hd.2.2.2.1 | exact hd.2.2.2.2) (By.of_rng (Kn.rng (G.out.up hW.out) 0 rfl)) (By.of_rng (Kn.png2 (G.out.up hW.out) 2 rfl)) (VU.out W hW.out)
  ·intro vals W hW hw hd
   try simp [Region.binds] at hd
   refine ⟨by first | rfl | simp [Region.wanted, yielded, hd], ?_⟩
   exact yields_call2 cfDg (.const (.int .u8 4)) (.tmp 25) _ rfl _ _ rfl rfl ((D2.out _ W (by first | exact hd | exact hd.1 | exact hd.2 | exact hd.2.1 | exact hd.2.2 | exact hd.2.2.1 | exact hd.2.2.2 | exact hd.2.2.2.1 | exact hd.2.2.2.2) (KU.out W hW.out)).mono fun e w' ⟨he, hb⟩ => ⟨_, he, rfl, hb⟩)
  ·intro vals W hW hw hd
   try simp [Region.binds] at hd
   refine ⟨by first | rfl | simp [Region.wanted, yielded, hd], ?_⟩
   exact yields_mk rfl zero_n4 hW.out.size
 obtain ⟨f0, f1, f2, f3, f4, f5, f6, _⟩ := hF
 simp only [MP.eq_p] at f0 f1 f2 f3 f5
 obtain ⟨g, eg, hg, bg⟩ := f6
 rw [f5, eg]
 simp only [List.drop_succ_cons, List.drop_zero]
 have s9 : Hid (Kn w9 [(g, zz4), (w7.heap.size, bR f), (w5.heap.size, c4 r), (w1.heap.size, prR x m a), (w.heap.size + 1, sgZ), (w.heap.size, bR n)]) := s8.out.fresh_of hb9.out hg bg
 have b9 : Hid (Below w.heap.size w w9) := b8.out.trans (hb9.out.mono b8.out.size)
 have gg : w.heap.size ≤ g := Nat.le_trans b8.out.size hg
 clear f0 f1 f2 f3 f4 f5 eg hg bg hO hb9 s8 b8 G KU VU z8
 generalize w7.heap.size = kp at *
 generalize w5.heap.size = kr at *
 generalize w1.heap.size = kk at *
 have uco_0 : w9.cell? ⟨g, 0, none⟩ = some (.int .u64 0) := Kn.get s9.out 0 0 rfl rfl
 have uco_1 : w9.cell? ⟨g, 1, none⟩ = some (.int .u64 0) := Kn.get s9.out 0 1 rfl rfl
 have uco_2 : w9.cell? ⟨g, 2, none⟩ = some (.int .u64 0) := Kn.get s9.out 0 2 rfl rfl
 have uco_3 : w9.cell? ⟨g, 3, none⟩ = some (.int .u64 0) := Kn.get s9.out 0 3 rfl rfl
 have uco_z : ∀ j, w9.frozen? ⟨g, j, none⟩ = false := Kn.fz s9.out 0 rfl
 have s10 : Hid (Kn (st4 w9 g (d2)) [(g, (c4 (d2))), (kp, (bR (f))), (kr, (c4 (r))), (kk, (prR (x) (m) (a))), (w.heap.size + 1, sgZ), (w.heap.size, (bR (n)))]) := Kn.st4 (L := [(kp, (bR (f))), (kr, (c4 (r))), (kk, (prR (x) (m) (a))), (w.heap.size + 1, sgZ), (w.heap.size, (bR (n)))]) (s9.out.front 0 rfl) (d2)
 have b10 : Hid (Below w.heap.size w (st4 w9 g (d2))) := below_st4 b9.out (by omega)
 clear s9 b9
 go_wp2_with fail
 clear uco_0 uco_1 uco_2 uco_3 uco_z
 refine wp_region_alloc1 7 (.cells #[Value.int IntKind.u8 0, .int .u8 0, .int .u8 0, .int .u8 0, .int .u8 0, .int .u8 0, .int .u8 0, .int .u8 0, .int .u8 0, .int .u8 0, .int .u8 0, .int .u8 0, .int .u8 0, .int .u8 0, .int .u8 0, .int .u8 0, .int .u8 0, .int .u8 0, .int .u8 0, .int .u8 0, .int .u8 0, .int .u8 0, .int .u8 0, .int .u8 0, .int .u8 0, .int .u8 0, .int .u8 0, .int .u8 0, .int .u8 0, .int .u8 0, .int .u8 0, .int .u8 0] 22) (by kernel_rfl) (by kernel_rfl) (by kernel_rfl) (by kernel_rfl) (by decide) (fun _ _ d _ _ h => by cases d <;> exact h) rfl rfl (fun _ _ => by kernel_rfl) ?_
 apply Exists.intro
 refine ⟨fun U hU f hf hcl => ?_, fun k11 w11 hb11 hk11 hc11 => ?_⟩
 ·skip
  have ur_0 := fun nx => (Kn.get (s10.out.up (hf nx).out) 2 0 rfl rfl : (f nx).cell? ⟨kr, 0, none⟩ = some (.int .u64 (r).a))
  have ur_1 := fun nx => (Kn.get (s10.out.up (hf nx).out) 2 1 rfl rfl : (f nx).cell? ⟨kr, 1, none⟩ = some (.int .u64 (r).b))
  have ur_2 := fun nx => (Kn.get (s10.out.up (hf nx).out) 2 2 rfl rfl : (f nx).cell? ⟨kr, 2, none⟩ = some (.int .u64 (r).c))
  have ur_3 := fun nx => (Kn.get (s10.out.up (hf nx).out) 2 3 rfl rfl : (f nx).cell? ⟨kr, 3, none⟩ = some (.int .u64 (r).d))
  have uc_0 := fun nx => (Kn.get (s10.out.up (hf nx).out) 0 0 rfl rfl : (f nx).cell? ⟨g, 0, none⟩ = some (.int .u64 (d2).a))
  have uc_1 := fun nx => (Kn.get (s10.out.up (hf nx).out) 0 1 rfl rfl : (f nx).cell? ⟨g, 1, none⟩ = some (.int .u64 (d2).b))
  have uc_2 := fun nx => (Kn.get (s10.out.up (hf nx).out) 0 2 rfl rfl : (f nx).cell? ⟨g, 2, none⟩ = some (.int .u64 (d2).c))
  have uc_3 := fun nx => (Kn.get (s10.out.up (hf nx).out) 0 3 rfl rfl : (f nx).cell? ⟨g, 3, none⟩ = some (.int .u64 (d2).d))
  have ra_k_0 := fun nx => (Kn.rng (s10.out.up (hf nx).out) 3 rfl : (f nx).rangeAt kk 0 (prR (x) (m) (a)))
  have ra_k_1 := fun nx => (Kn.png0 (s10.out.up (hf nx).out) 3 rfl : (f nx).rangeAt kk 0 [Value.int IntKind.u64 x.a, Value.int IntKind.u64 x.b, Value.int IntKind.u64 x.c, Value.int IntKind.u64 x.d])
  have ra_k_2 := fun nx => (Kn.png1 (s10.out.up (hf nx).out) 3 rfl : (f nx).rangeAt kk 4 (bR (m)))
  have ra_k_3 := fun nx => (Kn.png2 (s10.out.up (hf nx).out) 3 rfl : (f nx).rangeAt kk 36 (bR (a)))
  clear hf
  simp only [List.take_succ_cons, List.take_zero]
  repeat (first | (refine I.quiet_load rfl 28 _ rfl kk 0 rfl (prR (x) (m) (a)) _ (fun W hW => by obtain ⟨nx, rfl⟩ := hW; exact ra_k_0 nx) Tryz.underlying28 rfl (info_prR (x) (m) (a)) ?_; simp only [Act.put, List.setIfInBounds_toArray, List.set_cons_succ, List.set_cons_zero]) | (refine I.quiet_load rfl 26 _ rfl kk 0 rfl [Value.int IntKind.u64 x.a, Value.int IntKind.u64 x.b, Value.int IntKind.u64 x.c, Value.int IntKind.u64 x.d] _ (fun W hW => by obtain ⟨nx, rfl⟩ := hW; exact ra_k_1 nx) Tryz.underlying26 rfl (info_c4 (x)) ?_; simp only [Act.put, List.setIfInBounds_toArray, List.set_cons_succ, List.set_cons_zero]) | (refine I.quiet_load rfl 22 _ rfl kk 4 rfl (bR (m)) _ (fun W hW => by obtain ⟨nx, rfl⟩ := hW; exact ra_k_2 nx) Tryz.underlying22 rfl (info_bR (m)) ?_; simp only [Act.put, List.setIfInBounds_toArray, List.set_cons_succ, List.set_cons_zero]) | (refine I.quiet_load rfl 22 _ rfl kk 36 rfl (bR (a)) _ (fun W hW => by obtain ⟨nx, rfl⟩ := hW; exact ra_k_3 nx) Tryz.underlying22 rfl (info_bR (a)) ?_; simp only [Act.put, List.setIfInBounds_toArray, List.set_cons_succ, List.set_cons_zero]) | go_big_quiet_step (first | (go_at_call 31; exact (MU _).mono fun e w'' ⟨he, hb⟩ => ⟨he, hcl.out _ _ hb⟩) | (go_at_call 30; exact (AD _).mono fun e w'' ⟨he, hb⟩ => ⟨he, hcl.out _ _ hb⟩) | (go_at_call 29; exact (BY _).mono fun e w'' ⟨he, hb⟩ => ⟨he, hcl.out _ _ hb⟩)))
  exact wpQuiet_nil rfl
 simp only [List.drop_succ_cons, List.drop_zero]
 have z11 := b10.out.size
 have s11 : Hid (Kn w11 [(k11, bZ), (g, (c4 (d2))), (kp, (bR (f))), (kr, (c4 (r))), (kk, (prR (x) (m) (a))), (w.heap.size + 1, sgZ), (w.heap.size, (bR (n)))]) := s10.out.fresh (vs := bZ) hb11.out hk11 hc11.out
 have g11 : w.heap.size ≤ k11 := Nat.le_trans b10.out.size hk11
 have b11 : Hid (Below w.heap.size w w11) := b10.out.trans (hb11.out.mono b10.out.size)
 clear s10 b10 hb11 hc11 hk11
 have s12x : Hid (Kn w11 [(k11, bZ), (g, (c4 (d2))), (kp, (bR (f))), (kr, (c4 (r))), (kk, (prR (x) (m) (a))), (w.heap.size + 1, sgZ), (w.heap.size, (bR (n)))]) := s11.out.front 0 rfl
 have b12x : Hid (Below w.heap.size w w11) := b11.out
 have TT12 : Hid (w11.there k11 0 (bR (s)).length) := Kn.there s12x.out 0 rfl (by rw [(bR_length (s)), bZ_length])
 go_wp2_with (first | refine I.wp_store_eq rfl 22 _ _ rfl k11 0 (bR (s)) rfl rfl TT12.out (info_bR (s)) (bR_one (s)) ?_)
 intro w12 hw12
 try simp only [Act.put, List.setIfInBounds_toArray, List.set_cons_succ, List.set_cons_zero]
 have s12 : Hid (Kn w12 [(k11, (bR (s))), (g, (c4 (d2))), (kp, (bR (f))), (kr, (c4 (r))), (kk, (prR (x) (m) (a))), (w.heap.size + 1, sgZ), (w.heap.size, (bR (n)))]) := by rw [hw12.out]; exact Kn.put s12x.out (by rw [(bR_length (s)), bZ_length])
 have b12 : Hid (Below w.heap.size w w12) := by rw [hw12.out]; exact I.below_setCells _ _ _ b12x.out g11
 have z12 := b12.out.size
 clear hw12 s12x b12x TT12 s11 b11
 have s13 : Hid (Kn (w12.alloc (.cells #[Value.int IntKind.u8 0, .int .u8 0, .int .u8 0, .int .u8 0, .int .u8 0, .int .u8 0, .int .u8 0, .int .u8 0, .int .u8 0, .int .u8 0, .int .u8 0, .int .u8 0, .int .u8 0, .int .u8 0, .int .u8 0, .int .u8 0, .int .u8 0, .int .u8 0, .int .u8 0, .int .u8 0, .int .u8 0, .int .u8 0, .int .u8 0, .int .u8 0, .int .u8 0, .int .u8 0, .int .u8 0, .int .u8 0, .int .u8 0, .int .u8 0, .int .u8 0, .int .u8 0, .int .u8 0, .int .u8 0, .int .u8 0, .int .u8 0, .int .u8 0, .int .u8 0, .int .u8 0, .int .u8 0, .int .u8 0, .int .u8 0, .int .u8 0, .int .u8 0, .int .u8 0, .int .u8 0, .int .u8 0, .int .u8 0, .int .u8 0, .int .u8 0, .int .u8 0, .int .u8 0, .int .u8 0, .int .u8 0, .int .u8 0, .int .u8 0, .int .u8 0, .int .u8 0, .int .u8 0, .int .u8 0, .int .u8 0, .int .u8 0, .int .u8 0, .int .u8 0] 30)) [(w12.heap.size, sgZ), (k11, (bR (s))), (g, (c4 (d2))), (kp, (bR (f))), (kr, (c4 (r))), (kk, (prR (x) (m) (a))), (w.heap.size + 1, sgZ), (w.heap.size, (bR (n)))]) := s12.out.al sgZ 30 rfl
 have b13 : Hid (Below w.heap.size w (w12.alloc (.cells #[Value.int IntKind.u8 0, .int .u8 0, .int .u8 0, .int .u8 0, .int .u8 0, .int .u8 0, .int .u8 0, .int .u8 0, .int .u8 0, .int .u8 0, .int .u8 0, .int .u8 0, .int .u8 0, .int .u8 0, .int .u8 0, .int .u8 0, .int .u8 0, .int .u8 0, .int .u8 0, .int .u8 0, .int .u8 0, .int .u8 0, .int .u8 0, .int .u8 0, .int .u8 0, .int .u8 0, .int .u8 0, .int .u8 0, .int .u8 0, .int .u8 0, .int .u8 0, .int .u8 0, .int .u8 0, .int .u8 0, .int .u8 0, .int .u8 0, .int .u8 0, .int .u8 0, .int .u8 0, .int .u8 0, .int .u8 0, .int .u8 0, .int .u8 0, .int .u8 0, .int .u8 0, .int .u8 0, .int .u8 0, .int .u8 0, .int .u8 0, .int .u8 0, .int .u8 0, .int .u8 0, .int .u8 0, .int .u8 0, .int .u8 0, .int .u8 0, .int .u8 0, .int .u8 0, .int .u8 0, .int .u8 0, .int .u8 0, .int .u8 0, .int .u8 0, .int .u8 0] 30))) := b12.out.alloc b12.out.size _
 have z13 := b12.out.size
 clear s12 b12
 go_wp2_with (simp only [zero_b64])
 have gs : w.heap.size ≤ w12.heap.size := z13
 refine wp_region_two 0 1 [2] [_] (.slice (some ⟨w12.heap.size, 0, none⟩) 64 64) (.slice (some ⟨kp, 0, none⟩) 32 32) (by kernel_rfl) (by kernel_rfl) (fun _ _ d _ _ h => by cases d <;> exact h) rfl rfl (by kernel_rfl) (by kernel_rfl) rfl rfl (by kernel_rfl) (.inl ⟨rfl, exec_all64 _ rfl _ rfl⟩) (.inl ⟨rfl, exec_all32 _ rfl _ rfl⟩) ?_
 intro w14 hb14 hh14
 clear hh14
 simp only [Act.put, List.setIfInBounds_toArray, List.set_cons_succ, List.set_cons_zero, List.getElem_toArray, List.getElem_cons_zero, List.getElem_cons_succ]
 have s14 : Hid (Kn w14 _) := s13.out.up hb14.out
 have b14 : Hid (Below w.heap.size w w14) := b13.out.trans (hb14.out.mono b13.out.size)
 clear s13 b13 hb14
 have T14 : Hid (w14.there w12.heap.size 0 (S.by f).length) := by
  have := Kn.there (us := (S.by f).map b8 ++ (S.by f).map b8) s14.out 0 rfl (by simp [S.by_length, sgZ_length])
  rw [S.by_length]
  exact fun j hj => this j (by simp [S.by_length]; omega)
 have R14 : Hid (w14.rangeAt kp 0 ((S.by f).map b8)) := by rw [← S.by_row]; exact Kn.rng s14.out 3 rfl
 go_wp2_with (refine wp_copyR rfl _ _ rfl w12.heap.size 0 64 64 kp 0 32 32 (S.by f) rfl rfl (by rw [S.by_length]; rfl) R14.out T14.out ?_)
 intro w15 hw15
 have s15 : Hid (Kn w15 [(w12.heap.size, sgR f 0), (k11, bR s), (g, c4 d2), (kp, bR f), (kr, c4 r), (kk, prR x m a), (w.heap.size + 1, sgZ), (w.heap.size, bR n)]) := by rw [hw15.out]; exact Kn.sg0 s14.out f
 have b15 : Hid (Below w.heap.size w w15) := by rw [hw15.out]; exact I.below_setCells _ _ _ b14.out gs
 clear hw15 s14 b14 T14 R14
 go_wp2_with fail
 refine wp_region_two 0 1 [2] [_] (.slice (some ⟨w12.heap.size, 32, none⟩) 32 32) (.slice (some ⟨k11, 0, none⟩) 32 32) (by kernel_rfl) (by kernel_rfl) (fun _ _ d _ _ h => by cases d <;> exact h) rfl rfl (by kernel_rfl) (by kernel_rfl) rfl rfl (by kernel_rfl) (.inl ⟨rfl, exec_from64 _ _ rfl _ rfl rfl⟩) (.inl ⟨rfl, exec_all32 _ rfl _ rfl⟩) ?_
 intro w16 hb16 hh16
 clear hh16
 simp only [Act.put, List.setIfInBounds_toArray, List.set_cons_succ, List.set_cons_zero, List.getElem_toArray, List.getElem_cons_zero, List.getElem_cons_succ]
 have s16 : Hid (Kn w16 _) := s15.out.up hb16.out
 have b16 : Hid (Below w.heap.size w w16) := b15.out.trans (hb16.out.mono b15.out.size)
 clear s15 b15 hb16
 have T16 : Hid (w16.there w12.heap.size 32 (S.by s).length) := by
  have := Kn.there (us := (S.by f).map b8 ++ (S.by f).map b8) s16.out 0 rfl (by simp [S.by_length, sgR_length])
  rw [S.by_length]
  intro j hj
  have := this (32 + j) (by simp [S.by_length]; omega)
  rwa [Nat.zero_add] at this
 have R16 : Hid (w16.rangeAt k11 0 ((S.by s).map b8)) := by rw [← S.by_row]; exact Kn.rng s16.out 1 rfl
 go_wp2_with (refine wp_copyR rfl _ _ rfl w12.heap.size 32 32 32 k11 0 32 32 (S.by s) rfl rfl (by rw [S.by_length]; rfl) R16.out T16.out ?_)
 intro w17 hw17
 have s17 : Hid (Kn w17 [(w12.heap.size, sgR f s), (k11, bR s), (g, c4 d2), (kp, bR f), (kr, c4 r), (kk, prR x m a), (w.heap.size + 1, sgZ), (w.heap.size, bR n)]) := by rw [hw17.out]; exact Kn.sg1 s16.out s
 have b17 : Hid (Below w.heap.size w w17) := by rw [hw17.out]; exact I.below_setCells _ _ _ b16.out gs
 clear hw17 s16 b16 T16 R16
 have s18x : Hid (Kn w17 [(w.heap.size + 1, sgZ), (w12.heap.size, (sgR (f) (s))), (k11, (bR (s))), (g, (c4 (d2))), (kp, (bR (f))), (kr, (c4 (r))), (kk, (prR (x) (m) (a))), (w.heap.size, (bR (n)))]) := s17.out.front 6 rfl
 have b18x : Hid (Below w.heap.size w w17) := b17.out
 have TT18 : Hid (w17.there (w.heap.size + 1) 0 (sgR (f) (s)).length) := Kn.there s18x.out 0 rfl (by rw [(sgR_length (f) (s)), sgZ_length])
 go_wp2_with (first | refine wp_ldW rfl 30 _ rfl (w12.heap.size) 0 rfl (sgR (f) (s)) _ (Kn.rng s17.out 0 rfl) Tryz.underlying30 rfl (info_sgR (f) (s)) ?_ | refine I.wp_store_eq rfl 30 _ _ rfl (w.heap.size + 1) 0 (sgR (f) (s)) rfl rfl TT18.out (info_sgR (f) (s)) (sgR_one (f) (s)) ?_)
 intro w18 hw18
 try simp only [Act.put, List.setIfInBounds_toArray, List.set_cons_succ, List.set_cons_zero]
 have s18 : Hid (Kn w18 [(w.heap.size + 1, (sgR (f) (s))), (w12.heap.size, (sgR (f) (s))), (k11, (bR (s))), (g, (c4 (d2))), (kp, (bR (f))), (kr, (c4 (r))), (kk, (prR (x) (m) (a))), (w.heap.size, (bR (n)))]) := by rw [hw18.out]; exact Kn.put s18x.out (by rw [(sgR_length (f) (s)), sgZ_length])
 have b18 : Hid (Below w.heap.size w w18) := by rw [hw18.out]; exact I.below_setCells _ _ _ b18x.out (by omega)
 have z18 := b18.out.size
 clear hw18 s18x b18x TT18 s17 b17
 go_wp2_with fail
 exact bodyPost_ret (v := sgV f s) (I.results_cell (b := w.heap.size + 1) rfl rfl (Kn.rng s18.out 0 rfl) Tryz.underlying30 rfl (info_sgR (f) (s))) rfl ⟨rfl, b18.out⟩
theorem sum3 (x y z : List Nat) : (([x, y, z] : List (List Nat)).map List.length).sum = x.length + (y.length + z.length) := by simp
theorem low_three {x y z : List Nat} (hx : ∀ q ∈ x, q < 256) (hy : ∀ q ∈ y, q < 256) (hz : ∀ q ∈ z, q < 256) : ∀ l ∈ [x, y, z], ∀ q ∈ l, q < 256 := fun l hl => by
 rcases List.mem_cons.1 hl with rfl | hl
 ·exact hx
 ·rcases List.mem_cons.1 hl with rfl | hl
  ·exact hy
  ·rcases List.mem_cons.1 hl with rfl | hl
   ·exact hz
   ·cases hl
/-- The digest of a binding. -/
theorem chN_fun (R A : Nat) (p : List Nat) (lp : lowP p) (u : Value) (w : World) (hu : Rw w u [S.by R, S.by A, p]) (hT : KTab w) :
  Calls Tryz.prog 28 #[.int .u8 4, u] w fun e w' => e = .returned (N (nm (chN R A p))) ∧ Below w.heap.size w w' := by
 have := sgDig_fun 4 (by decide) [S.by R, S.by A, p] (by simp) (low_three (S.by_low R) (S.by_low A) lp.1) (by simp) (by rw [sum3, S.by_length, S.by_length]; have := lp.2; omega) u w hu hT
 rwa [show ([S.by R, S.by A, p] : List (List Nat)).flatten = S.by R ++ (S.by A ++ p) by simp] at this
theorem chN_lt (R A : Nat) (p : List Nat) : chN R A p < 2 ^ 256 := Nat.lt_trans (Nat.mod_lt _ ord_pos) ord_lt
theorem sgSignC : SgSignC := fun n hn p lp v w hv hT => by
 obtain ⟨av, nv, cv, rfl⟩ : ∃ av nv cv, v = .slice av nv cv := by
  obtain ⟨a, c, e, _⟩ := hv
  exact ⟨a, _, c, e⟩
 have hd : dgN 3 (S.by (mskN n) ++ p) < 2 ^ 256 := Nat.lt_trans (Nat.mod_lt _ ord_pos) ord_lt
 have hr : rN n p < Cv.ord := by
  unfold rN nzN
  split
  ·decide
  ·exact Nat.mod_lt _ ord_pos
 have hr2 := Nat.lt_trans hr ord_lt
 have hx := Nat.lt_trans (sec_lt n) ord_lt
 have MU := sMulC (nm (chN (frN n p) (pubN n) p)) (nm (secN n)) (nm_ok _) (nm_ok _)
 rw [nm_nat (chN_lt _ _ _), nm_nat hx] at MU
 have hm : chN (frN n p) (pubN n) p * secN n % Cv.ord < 2 ^ 256 := Nat.lt_trans (Nat.mod_lt _ ord_pos) ord_lt
 have AD := sAddC (nm (rN n p)) (nm (chN (frN n p) (pubN n) p * secN n % Cv.ord)) (nm_ok _) (nm_ok _)
 rw [nm_nat hr2, nm_nat hm, Nat.add_mod_mod] at AD
 exact sgSign_walk n (mskN n) (pubN n) (frN n p) (bkN n p) _ (nm (dgN 3 (S.by (mskN n) ++ p))) (nm (rN n p)) _ _ _ av nv cv p (fun w hT => sgNewC n hn w hT)
  (fun u w hu hT => by
   have := sgDig_fun 3 (by decide) [S.by (mskN n), p] (by simp) (fun l hl => low_three (S.by_low (mskN n)) lp.1 lp.1 l (by simp at hl ⊢; rcases hl with h | h <;> simp [h])) (by simp) (by have := lp.2; simp [S.by_length]; omega) u w hu hT
   rwa [show ([S.by (mskN n), p] : List (List Nat)).flatten = S.by (mskN n) ++ p by simp] at this)
  (sgOne_fun _ hd) (sgBase_fun _ hr2) (fun u w hu hT => chN_fun _ _ p lp u w hu hT) MU AD (bytes_n _ (bk_lt n p)) w hv hT
end Go.Proofs.YtfknkfninjjgbaaGreatDoor
