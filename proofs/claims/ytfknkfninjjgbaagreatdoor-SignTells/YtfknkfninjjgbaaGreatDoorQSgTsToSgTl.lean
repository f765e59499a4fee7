/- Texts that were joined: SgTs, SgTl. -/
import Derived.Test.YtfknkfninjjgbaaGreatDoorQSgNToSgTp
import Derived.Test.YtfknkfninjjgbaaGreatDoorQSgS
import Derived.Test.YtfknkfninjjgbaaGreatDoorQDRestToDNumP
import Derived.Test.YtfknkfninjjgbaaGreatDoorQCAssToRPt
/- The document's Signature. -/
namespace Go.Proofs.YtfknkfninjjgbaaGreatDoor
open Go.RowKit
attribute [local go_sem] World.cell?_alloc_some cell_alloc2 cell_alloc3 cell_alloc4 frozen?_alloc_cells frozen_out
attribute [local simp] MP.eq_p
set_option linter.unusedSimpArgs false
theorem fill_next {l : List Value} {z : Value} {j : Nat} {v : Value} (h : l[j]? = some v) : (l.take j ++ List.replicate (l.length - j) z).set j v = l.take (j + 1) ++ List.replicate (l.length - (j + 1)) z := by
 have hj : j < l.length := by
  rcases Nat.lt_or_ge j l.length with h1 | h1
  ·exact h1
  ·rw [List.getElem?_eq_none h1] at h; cases h
 have ht : (l.take j).length = j := by rw [List.length_take]; omega
 rw [List.set_append_right j v (by rw [ht]; exact Nat.le_refl _), ht, Nat.sub_self, show l.length - j = (l.length - (j + 1)) + 1 by omega, List.replicate_succ, List.set_cons_zero, List.take_add_one, h]
 simp
theorem fill_old {l : List Value} {z : Value} {j : Nat} (h : j < l.length) : (l.take j ++ List.replicate (l.length - j) z)[j]? = some z := by
 have ht : (l.take j).length = j := by rw [List.length_take]; omega
 rw [List.getElem?_append_right (by omega), ht, Nat.sub_self, List.getElem?_replicate]
 rw [if_pos (by omega)]
/-- The first j bytes of a signature, noughts behind. -/
def sgP (f s j : Nat) : List Value := (sgR f s).take j ++ List.replicate ((sgR f s).length - j) (.int .u8 0)
theorem sgP_zero (f s : Nat) : sgP f s 0 = sgZ := by
 unfold sgP
 rw [sgR_length]
 rfl
theorem sgP_all (f s : Nat) : sgP f s 64 = sgR f s := by
 unfold sgP
 rw [sgR_length, List.take_of_length_le (by rw [sgR_length]; decide)]
 simp
theorem sgP_length {f s j : Nat} (h : j ≤ 64) : (sgP f s j).length = 64 := by
 unfold sgP
 rw [List.length_append, List.length_take, List.length_replicate, sgR_length]
 omega
theorem sgR_front (f s j : Nat) (h : j < 32) : (sgR f s)[j]? = some (.int .u8 ((f / 256 ^ j % 256 : Nat) : Int)) := by
 unfold sgR
 rw [List.getElem?_append_left (by rw [bR_length]; exact h)]
 exact bR_get _ _ h
theorem sgR_back (f s q : Nat) (h : q < 32) : (sgR f s)[32 + q]? = some (.int .u8 ((s / 256 ^ q % 256 : Nat) : Int)) := by
 unfold sgR
 rw [List.getElem?_append_right (by rw [bR_length]; omega), bR_length, Nat.add_sub_cancel_left]
 exact bR_get _ _ h
theorem sgP_next {f s j : Nat} {v : Value} (h : (sgR f s)[j]? = some v) : (sgP f s j).set j v = sgP f s (j + 1) := fill_next h
theorem sgP_old {f s j : Nat} (h : j < 64) : (sgP f s j)[j]? = some (.int .u8 ((0 : Nat) : Int)) := fill_old (by rw [sgR_length]; exact h)
theorem cfDgR (args : Array Value) (W : World) : (callFunc 21 args).run Tryz.prog W = .ok (.enter 21 args) W := cf_is (fn := Tryz.f21) (by kernel_rfl) (by decide) (by kernel_rfl) args W
theorem yields_asS {o : Oper} {a : Act} {w : World} {xs : List Nat} (x : Operand) (ho : o.op = .assign x) (hx : Sl w (a.eval x) xs) : YieldsP Tryz.prog o a w (MP.sl xs).p := by
 have e : (execOp a.eval o).run Tryz.prog w = .ok (.value (a.eval x)) w := by
  generalize a.eval = ev at *
  unfold execOp
  simp [ho, go_sem]
 unfold YieldsP
 rw [e]
 exact ⟨hx, Below.refl _ _⟩
set_option maxRecDepth 20000 in
set_option maxHeartbeats 4000000 in
theorem signature_walk (n m a f s D R C Y X E O gx gy rx ry rt : Nat) (x px py su : Nm) (ms fs as_ ps t1 t2 t3 : ByteArray)
  (MS : Hid (sOf (S.by m) = ms)) (FS : Hid (sOf (S.by f) = fs)) (AS : Hid (sOf (S.by a) = as_)) (T1 : Hid (ms ++ ps = t1)) (T2 : Hid (fs ++ as_ = t2)) (T3 : Hid (t2 ++ ps = t3))
  (L1 : ¬ 9223372036854775807 < ms.size + ps.size) (L2 : Hid (¬ 9223372036854775807 < fs.size + as_.size)) (L3 : Hid (¬ 9223372036854775807 < t2.size + ps.size))
  (PO : Hid (∀ w, RTab w → Calls Tryz.prog 7 #[bV n] w fun e w' => e = .returned (prV x m a) ∧ Below w.heap.size w w'))
  (D3 : Hid (∀ w, RTab w → Calls Tryz.prog 21 #[.int .u8 3, .string t1] w fun e w' => (∃ v', e = .returned v' ∧ Sl w' v' (P.dg D)) ∧ Below w.heap.size w w'))
  (NO : Hid (∀ v w, Sl w v (P.dg D) → Calls Tryz.prog 20 #[v] w fun e w' => (∃ v', e = .returned v' ∧ Sl w' v' (P.dg R)) ∧ Below w.heap.size w w'))
  (PB : ∀ w, Calls Tryz.prog 25 #[] w fun e w' => e = .returned (.agg (pR (gx) (gy) (1)).toArray) ∧ Below w.heap.size w w')
  (OF : Hid (∀ v w, Sl w v (P.dg R) → Calls Tryz.prog 26 #[pV gx gy 1, v] w fun e w' => e = .returned (pV rx ry rt) ∧ Below w.heap.size w w'))
  (PP : ∀ w, Calls Tryz.prog 27 #[.agg (pR (rx) (ry) (rt)).toArray] w fun e w' => e = .returned (Wv px py) ∧ Below w.heap.size w w')
  (PK : ∀ w, Calls Tryz.prog 24 #[Wv px py] w fun e w' => e = .returned (.agg (bR (f)).toArray) ∧ Below w.heap.size w w')
  (D4 : Hid (∀ w, RTab w → Calls Tryz.prog 21 #[.int .u8 4, .string t3] w fun e w' => (∃ v', e = .returned v' ∧ Sl w' v' (P.dg C)) ∧ Below w.heap.size w w'))
  (ON : Hid (∀ w, Calls Tryz.prog 36 #[N x] w fun e w' => (∃ v', e = .returned v' ∧ Sl w' v' (P.dg X)) ∧ Below w.heap.size w w'))
  (TM : Hid (∀ u v w, Sl w u (P.dg C) → Sl w v (P.dg X) → Calls Tryz.prog 35 #[u, v] w fun e w' => (∃ v', e = .returned v' ∧ Sl w' v' (P.dg Y)) ∧ Below w.heap.size w w'))
  (PL : Hid (∀ u v w, Sl w u (P.dg R) → Sl w v (P.dg Y) → Calls Tryz.prog 34 #[u, v] w fun e w' => (∃ v', e = .returned v' ∧ Sl w' v' (P.dg E)) ∧ Below w.heap.size w w'))
  (PR : Hid (∀ w, Calls Tryz.prog 37 #[] w fun e w' => (∃ v', e = .returned v' ∧ Sl w' v' (P.dg O)) ∧ Below w.heap.size w w'))
  (RS : Hid (∀ u v w, Sl w u (P.dg E) → Sl w v (P.dg O) → Calls Tryz.prog 33 #[u, v] w fun e w' => (∃ v', e = .returned v' ∧ Sl w' v' (P.dg s)) ∧ Below w.heap.size w w'))
  (TN : Hid (∀ v w, Sl w v (P.dg s) → Calls Tryz.prog 22 #[v] w fun e w' => e = .returned (N su) ∧ Below w.heap.size w w'))
  (BY : ∀ w, Calls Tryz.prog 32 #[N su] w fun e w' => e = .returned (.agg (bR (s)).toArray) ∧ Below w.heap.size w w')
  (w : World) (hT : RTab w) :
  Calls Tryz.prog 9 #[bV n, .string ps] w fun e w' => e = .returned (sgV f s) ∧ Below w.heap.size w w' := by
 have HT : Hid (RTab w) := hT
 clear hT
 go_enter Tryz.func9, Tryz.ntmps9
 have s0 : Hid (Kn ((w.alloc (.cells (bR (n)).toArray 22)).alloc (.cells #[Value.int IntKind.u8 0, .int .u8 0, .int .u8 0, .int .u8 0, .int .u8 0, .int .u8 0, .int .u8 0, .int .u8 0, .int .u8 0, .int .u8 0, .int .u8 0, .int .u8 0, .int .u8 0, .int .u8 0, .int .u8 0, .int .u8 0, .int .u8 0, .int .u8 0, .int .u8 0, .int .u8 0, .int .u8 0, .int .u8 0, .int .u8 0, .int .u8 0, .int .u8 0, .int .u8 0, .int .u8 0, .int .u8 0, .int .u8 0, .int .u8 0, .int .u8 0, .int .u8 0, .int .u8 0, .int .u8 0, .int .u8 0, .int .u8 0, .int .u8 0, .int .u8 0, .int .u8 0, .int .u8 0, .int .u8 0, .int .u8 0, .int .u8 0, .int .u8 0, .int .u8 0, .int .u8 0, .int .u8 0, .int .u8 0, .int .u8 0, .int .u8 0, .int .u8 0, .int .u8 0, .int .u8 0, .int .u8 0, .int .u8 0, .int .u8 0, .int .u8 0, .int .u8 0, .int .u8 0, .int .u8 0, .int .u8 0, .int .u8 0, .int .u8 0, .int .u8 0] 30)) [(w.heap.size + 1, sgZ), (w.heap.size, (bR (n)))]) := (((Kn.nil w).al (bR (n)) 22 rfl).al sgZ 30 (by simp))
 have b0 : Hid (Below w.heap.size w ((w.alloc (.cells (bR (n)).toArray 22)).alloc (.cells #[Value.int IntKind.u8 0, .int .u8 0, .int .u8 0, .int .u8 0, .int .u8 0, .int .u8 0, .int .u8 0, .int .u8 0, .int .u8 0, .int .u8 0, .int .u8 0, .int .u8 0, .int .u8 0, .int .u8 0, .int .u8 0, .int .u8 0, .int .u8 0, .int .u8 0, .int .u8 0, .int .u8 0, .int .u8 0, .int .u8 0, .int .u8 0, .int .u8 0, .int .u8 0, .int .u8 0, .int .u8 0, .int .u8 0, .int .u8 0, .int .u8 0, .int .u8 0, .int .u8 0, .int .u8 0, .int .u8 0, .int .u8 0, .int .u8 0, .int .u8 0, .int .u8 0, .int .u8 0, .int .u8 0, .int .u8 0, .int .u8 0, .int .u8 0, .int .u8 0, .int .u8 0, .int .u8 0, .int .u8 0, .int .u8 0, .int .u8 0, .int .u8 0, .int .u8 0, .int .u8 0, .int .u8 0, .int .u8 0, .int .u8 0, .int .u8 0, .int .u8 0, .int .u8 0, .int .u8 0, .int .u8 0, .int .u8 0, .int .u8 0, .int .u8 0, .int .u8 0] 30))) := (((Below.refl _ _).alloc (Nat.le_refl _) _).alloc (by simp <;> omega) _)
 go_wp2_with (first | refine wp_ldW rfl 22 _ rfl (w.heap.size) 0 rfl (bR (n)) _ (Kn.rng s0.out 1 rfl) Tryz.underlying22 rfl (info_bR (n)) ?_ | simp only [zero_b64])
 refine (PO.out _ (HT.out.up b0.out HT.out.pos)).mono ?_
 rintro e w1 ⟨rfl, hb1⟩
 have s1 : Hid (Kn w1 _) := s0.out.up hb1
 have b1 : Hid (Below w.heap.size w w1) := b0.out.trans (hb1.mono b0.out.size)
 have z1 := b1.out.size
 clear hb1 s0 b0
 have s2x : Hid (Kn (w1.alloc (.cells #[Value.int IntKind.u64 0, .int .u64 0, .int .u64 0, .int .u64 0, Value.int IntKind.u8 0, .int .u8 0, .int .u8 0, .int .u8 0, .int .u8 0, .int .u8 0, .int .u8 0, .int .u8 0, .int .u8 0, .int .u8 0, .int .u8 0, .int .u8 0, .int .u8 0, .int .u8 0, .int .u8 0, .int .u8 0, .int .u8 0, .int .u8 0, .int .u8 0, .int .u8 0, .int .u8 0, .int .u8 0, .int .u8 0, .int .u8 0, .int .u8 0, .int .u8 0, .int .u8 0, .int .u8 0, .int .u8 0, .int .u8 0, .int .u8 0, .int .u8 0, .int .u8 0, .int .u8 0, .int .u8 0, .int .u8 0, .int .u8 0, .int .u8 0, .int .u8 0, .int .u8 0, .int .u8 0, .int .u8 0, .int .u8 0, .int .u8 0, .int .u8 0, .int .u8 0, .int .u8 0, .int .u8 0, .int .u8 0, .int .u8 0, .int .u8 0, .int .u8 0, .int .u8 0, .int .u8 0, .int .u8 0, .int .u8 0, .int .u8 0, .int .u8 0, .int .u8 0, .int .u8 0, .int .u8 0, .int .u8 0, .int .u8 0, .int .u8 0] 28)) [(w1.heap.size, pairZ), (w.heap.size + 1, sgZ), (w.heap.size, (bR (n)))]) := s1.out.al pairZ 28 rfl
 have b2x : Hid (Below w.heap.size w (w1.alloc (.cells #[Value.int IntKind.u64 0, .int .u64 0, .int .u64 0, .int .u64 0, Value.int IntKind.u8 0, .int .u8 0, .int .u8 0, .int .u8 0, .int .u8 0, .int .u8 0, .int .u8 0, .int .u8 0, .int .u8 0, .int .u8 0, .int .u8 0, .int .u8 0, .int .u8 0, .int .u8 0, .int .u8 0, .int .u8 0, .int .u8 0, .int .u8 0, .int .u8 0, .int .u8 0, .int .u8 0, .int .u8 0, .int .u8 0, .int .u8 0, .int .u8 0, .int .u8 0, .int .u8 0, .int .u8 0, .int .u8 0, .int .u8 0, .int .u8 0, .int .u8 0, .int .u8 0, .int .u8 0, .int .u8 0, .int .u8 0, .int .u8 0, .int .u8 0, .int .u8 0, .int .u8 0, .int .u8 0, .int .u8 0, .int .u8 0, .int .u8 0, .int .u8 0, .int .u8 0, .int .u8 0, .int .u8 0, .int .u8 0, .int .u8 0, .int .u8 0, .int .u8 0, .int .u8 0, .int .u8 0, .int .u8 0, .int .u8 0, .int .u8 0, .int .u8 0, .int .u8 0, .int .u8 0, .int .u8 0, .int .u8 0, .int .u8 0, .int .u8 0] 28))) := b1.out.alloc b1.out.size _
 have g2 : w.heap.size ≤ w1.heap.size := b1.out.size
 have TT2 : Hid ((w1.alloc (.cells #[Value.int IntKind.u64 0, .int .u64 0, .int .u64 0, .int .u64 0, Value.int IntKind.u8 0, .int .u8 0, .int .u8 0, .int .u8 0, .int .u8 0, .int .u8 0, .int .u8 0, .int .u8 0, .int .u8 0, .int .u8 0, .int .u8 0, .int .u8 0, .int .u8 0, .int .u8 0, .int .u8 0, .int .u8 0, .int .u8 0, .int .u8 0, .int .u8 0, .int .u8 0, .int .u8 0, .int .u8 0, .int .u8 0, .int .u8 0, .int .u8 0, .int .u8 0, .int .u8 0, .int .u8 0, .int .u8 0, .int .u8 0, .int .u8 0, .int .u8 0, .int .u8 0, .int .u8 0, .int .u8 0, .int .u8 0, .int .u8 0, .int .u8 0, .int .u8 0, .int .u8 0, .int .u8 0, .int .u8 0, .int .u8 0, .int .u8 0, .int .u8 0, .int .u8 0, .int .u8 0, .int .u8 0, .int .u8 0, .int .u8 0, .int .u8 0, .int .u8 0, .int .u8 0, .int .u8 0, .int .u8 0, .int .u8 0, .int .u8 0, .int .u8 0, .int .u8 0, .int .u8 0, .int .u8 0, .int .u8 0, .int .u8 0, .int .u8 0] 28)).there (w1.heap.size) 0 (prR (x) (m) (a)).length) := Kn.there s2x.out 0 rfl (by rw [(prR_length (x) (m) (a)), pairZ_length])
 go_wp2_with (first | simp only [zero_pair] | refine I.wp_store_eq rfl 28 _ _ rfl (w1.heap.size) 0 (prR (x) (m) (a)) rfl rfl TT2.out (info_prR (x) (m) (a)) (prR_one (x) (m) (a)) ?_)
 intro w2 hw2
 try simp only [Act.put, List.setIfInBounds_toArray, List.set_cons_succ, List.set_cons_zero]
 have s2 : Hid (Kn w2 [(w1.heap.size, (prR (x) (m) (a))), (w.heap.size + 1, sgZ), (w.heap.size, (bR (n)))]) := by rw [hw2.out]; exact Kn.put s2x.out (by rw [(prR_length (x) (m) (a)), pairZ_length])
 have b2 : Hid (Below w.heap.size w w2) := by rw [hw2.out]; exact I.below_setCells _ _ _ b2x.out g2
 have z2 := b2.out.size
 clear hw2 s2x b2x TT2 s1 b1
 have Y2 := By.of_rng (Kn.png1 s2.out 0 rfl)
 go_wp2_with (first | refine wp_all32o rfl _ rfl w1.heap.size 4 rfl ?_ | refine wp_convT rfl _ rfl _ (S.by m) ms MS.out rfl Y2 ?_)
 rw [T1.out]
 clear Y2 L1 T1 MS
 refine (D3.out _ (HT.out.up b2.out HT.out.pos)).mono ?_
 rintro e w3 ⟨⟨v1, rfl, h1⟩, hb3⟩
 have s3 : Hid (Kn w3 _) := s2.out.up hb3
 have b3 : Hid (Below w.heap.size w w3) := b2.out.trans (hb3.mono b2.out.size)
 have z3 := b3.out.size
 clear hb3 s2 b2
 go_wp2_with fail
 refine (NO.out _ _ h1).mono ?_
 rintro e w4 ⟨⟨v2, rfl, h2⟩, hb4⟩
 have s4 : Hid (Kn w4 _) := s3.out.up hb4
 have b4 : Hid (Below w.heap.size w w4) := b3.out.trans (hb4.mono b3.out.size)
 have z4 := b4.out.size
 clear hb4 s3 b3
 clear h1 D3 NO PO
 have Sr : Hid (Sl w4 v2 (P.dg R)) := h2
 clear h2
 go_wp2_with fail
 refine (PB _).mono ?_
 rintro e w5 ⟨rfl, hb5⟩
 replace Sr : Hid (Sl w5 v2 (P.dg R)) := Sl.up (xs := (P.dg R)) Sr.out hb5
 have s5 : Hid (Kn w5 _) := s4.out.up hb5
 have b5 : Hid (Below w.heap.size w w5) := b4.out.trans (hb5.mono b4.out.size)
 have z5 := b5.out.size
 clear hb5 s4 b4
 go_wp2_with fail
 refine (OF.out _ _ Sr.out).mono ?_
 rintro e w6 ⟨rfl, hb6⟩
 replace Sr : Hid (Sl w6 v2 (P.dg R)) := Sl.up (xs := (P.dg R)) Sr.out hb6
 have s6 : Hid (Kn w6 _) := s5.out.up hb6
 have b6 : Hid (Below w.heap.size w w6) := b5.out.trans (hb6.mono b5.out.size)
 have z6 := b6.out.size
 clear hb6 s5 b5
 go_wp2_with fail
 refine (PP _).mono ?_
 rintro e w7 ⟨rfl, hb7⟩
 replace Sr : Hid (Sl w7 v2 (P.dg R)) := Sl.up (xs := (P.dg R)) Sr.out hb7
 have s7 : Hid (Kn w7 _) := s6.out.up hb7
 have b7 : Hid (Below w.heap.size w w7) := b6.out.trans (hb7.mono b6.out.size)
 have z7 := b7.out.size
 clear hb7 s6 b6
 go_wp2_with fail
 refine (PK _).mono ?_
 rintro e w8 ⟨rfl, hb8⟩
 replace Sr : Hid (Sl w8 v2 (P.dg R)) := Sl.up (xs := (P.dg R)) Sr.out hb8
 have s8 : Hid (Kn w8 _) := s7.out.up hb8
 have b8 : Hid (Below w.heap.size w w8) := b7.out.trans (hb8.mono b7.out.size)
 have z8 := b8.out.size
 clear hb8 s7 b7
 have s9x : Hid (Kn (w8.alloc (.cells #[Value.int IntKind.u8 0, .int .u8 0, .int .u8 0, .int .u8 0, .int .u8 0, .int .u8 0, .int .u8 0, .int .u8 0, .int .u8 0, .int .u8 0, .int .u8 0, .int .u8 0, .int .u8 0, .int .u8 0, .int .u8 0, .int .u8 0, .int .u8 0, .int .u8 0, .int .u8 0, .int .u8 0, .int .u8 0, .int .u8 0, .int .u8 0, .int .u8 0, .int .u8 0, .int .u8 0, .int .u8 0, .int .u8 0, .int .u8 0, .int .u8 0, .int .u8 0, .int .u8 0] 22)) [(w8.heap.size, bZ), (w1.heap.size, (prR (x) (m) (a))), (w.heap.size + 1, sgZ), (w.heap.size, (bR (n)))]) := s8.out.al bZ 22 rfl
 have b9x : Hid (Below w.heap.size w (w8.alloc (.cells #[Value.int IntKind.u8 0, .int .u8 0, .int .u8 0, .int .u8 0, .int .u8 0, .int .u8 0, .int .u8 0, .int .u8 0, .int .u8 0, .int .u8 0, .int .u8 0, .int .u8 0, .int .u8 0, .int .u8 0, .int .u8 0, .int .u8 0, .int .u8 0, .int .u8 0, .int .u8 0, .int .u8 0, .int .u8 0, .int .u8 0, .int .u8 0, .int .u8 0, .int .u8 0, .int .u8 0, .int .u8 0, .int .u8 0, .int .u8 0, .int .u8 0, .int .u8 0, .int .u8 0] 22))) := b8.out.alloc b8.out.size _
 have g9 : w.heap.size ≤ w8.heap.size := b8.out.size
 have TT9 : Hid ((w8.alloc (.cells #[Value.int IntKind.u8 0, .int .u8 0, .int .u8 0, .int .u8 0, .int .u8 0, .int .u8 0, .int .u8 0, .int .u8 0, .int .u8 0, .int .u8 0, .int .u8 0, .int .u8 0, .int .u8 0, .int .u8 0, .int .u8 0, .int .u8 0, .int .u8 0, .int .u8 0, .int .u8 0, .int .u8 0, .int .u8 0, .int .u8 0, .int .u8 0, .int .u8 0, .int .u8 0, .int .u8 0, .int .u8 0, .int .u8 0, .int .u8 0, .int .u8 0, .int .u8 0, .int .u8 0] 22)).there (w8.heap.size) 0 (bR (f)).length) := Kn.there s9x.out 0 rfl (by rw [(bR_length (f)), bZ_length])
 go_wp2_with (first | simp only [zero_b32] | refine I.wp_store_eq rfl 22 _ _ rfl (w8.heap.size) 0 (bR (f)) rfl rfl TT9.out (info_bR (f)) (bR_one (f)) ?_)
 intro w9 hw9
 try simp only [Act.put, List.setIfInBounds_toArray, List.set_cons_succ, List.set_cons_zero]
 have s9 : Hid (Kn w9 [(w8.heap.size, (bR (f))), (w1.heap.size, (prR (x) (m) (a))), (w.heap.size + 1, sgZ), (w.heap.size, (bR (n)))]) := by rw [hw9.out]; exact Kn.put s9x.out (by rw [(bR_length (f)), bZ_length])
 have b9 : Hid (Below w.heap.size w w9) := by rw [hw9.out]; exact I.below_setCells _ _ _ b9x.out g9
 have z9 := b9.out.size
 replace Sr : Hid (Sl w9 v2 (P.dg R)) := Sl.up (xs := (P.dg R)) Sr.out (by rw [hw9.out]; exact I.below_setCells _ _ _ ((Below.refl _ _).alloc (Nat.le_refl _) _) (Nat.le_refl _))
 clear hw9 s9x b9x TT9 s8 b8
 clear PB OF PP PK
 go_wp2_with fail
 have G : Hid _ := s9
 have RU : Hid (∀ W, Below w9.heap.size w9 W → RTab W) := fun W hW => HT.out.up (b9.out.trans (hW.mono b9.out.size)) HT.out.pos
 refine wp_region_monoE [MP.eq (.slice (some ⟨w8.heap.size, 0, none⟩) 32 32), MP.eq (.string fs), MP.eq (.pointer (some ⟨w1.heap.size, 36, none⟩)), MP.eq (.slice (some ⟨w1.heap.size, 36, none⟩) 32 32), MP.eq (.string as_), MP.eq (.string t2), MP.eq (.string ps), MP.eq (.string t3), MP.sl (P.dg C), MP.sl (P.dg C)] (by kernel_rfl) (by kernel_rfl) rfl ?_
 apply Exists.intro
 refine ⟨fun vals => ?_, ?_, fun vals10 w10 hb10 hF => ?_⟩
 ·simp only [putsV, dstL, List.length_cons, List.length_nil, Nat.zero_add, Nat.reduceAdd, List.getElem?_cons_zero, List.getElem?_cons_succ, Option.bind_some, Act.put, List.setIfInBounds_toArray, List.set_cons_succ, List.set_cons_zero]
  rfl
 ·refine ⟨?_, ?_, ?_, ?_, ?_, ?_, ?_, ?_, ?_, ?_, trivial⟩
  ·intro vals W hW hw hd
   try simp [Region.binds] at hd
   refine ⟨by first | rfl | simp [Region.wanted, yielded, hd], ?_⟩
   exact I.yields_all u_b32 u_b32r (by decide) (.tmp 7) rfl w8.heap.size 0 rfl rfl
  ·intro vals W hW hw hd
   try simp [Region.binds] at hd
   refine ⟨by first | rfl | simp [Region.wanted, yielded, hd], ?_⟩
   exact yields_convT (.tmp 26) rfl FS.out (by first | exact hd | exact hd.1 | exact hd.2 | exact hd.2.1 | exact hd.2.2 | exact hd.2.2.1 | exact hd.2.2.2 | exact hd.2.2.2.1 | exact hd.2.2.2.2) (By.of_rng (Kn.rng (G.out.up hW.out) 0 rfl))
  ·intro vals W hW hw hd
   try simp [Region.binds] at hd
   refine ⟨by first | rfl | simp [Region.wanted, yielded, hd], ?_⟩
   exact yields_pub2 (.tmp 5) rfl w1.heap.size rfl
  ·intro vals W hW hw hd
   try simp [Region.binds] at hd
   refine ⟨by first | rfl | simp [Region.wanted, yielded, hd], ?_⟩
   exact I.yields_all u_b32 u_b32r (by decide) (.tmp 28) rfl w1.heap.size 36 (by first | exact hd | exact hd.1 | exact hd.2 | exact hd.2.1 | exact hd.2.2 | exact hd.2.2.1 | exact hd.2.2.2 | exact hd.2.2.2.1 | exact hd.2.2.2.2) rfl
  ·intro vals W hW hw hd
   try simp [Region.binds] at hd
   refine ⟨by first | rfl | simp [Region.wanted, yielded, hd], ?_⟩
   exact yields_convT (.tmp 29) rfl AS.out (by first | exact hd | exact hd.1 | exact hd.2 | exact hd.2.1 | exact hd.2.2 | exact hd.2.2.1 | exact hd.2.2.2 | exact hd.2.2.2.1 | exact hd.2.2.2.2) (By.of_rng (Kn.png2 (G.out.up hW.out) 1 rfl))
  ·intro vals W hW hw hd
   try simp [Region.binds] at hd
   refine ⟨by first | rfl | simp [Region.wanted, yielded, hd], ?_⟩
   exact yields_addS (.tmp 27) (.tmp 30) _ _ rfl (by first | exact hd | exact hd.1 | exact hd.2 | exact hd.2.1 | exact hd.2.2 | exact hd.2.2.1 | exact hd.2.2.2 | exact hd.2.2.2.1 | exact hd.2.2.2.2) (by first | exact hd | exact hd.1 | exact hd.2 | exact hd.2.1 | exact hd.2.2 | exact hd.2.2.1 | exact hd.2.2.2 | exact hd.2.2.2.1 | exact hd.2.2.2.2) T2.out L2.out
  ·intro vals W hW hw hd
   try simp [Region.binds] at hd
   refine ⟨by first | rfl | simp [Region.wanted, yielded, hd], ?_⟩
   exact yields_mv (.tmp 1) rfl rfl
  ·intro vals W hW hw hd
   try simp [Region.binds] at hd
   refine ⟨by first | rfl | simp [Region.wanted, yielded, hd], ?_⟩
   exact yields_addS (.tmp 31) (.tmp 32) _ _ rfl (by first | exact hd | exact hd.1 | exact hd.2 | exact hd.2.1 | exact hd.2.2 | exact hd.2.2.1 | exact hd.2.2.2 | exact hd.2.2.2.1 | exact hd.2.2.2.2) (by first | exact hd | exact hd.1 | exact hd.2 | exact hd.2.1 | exact hd.2.2 | exact hd.2.2.1 | exact hd.2.2.2 | exact hd.2.2.2.1 | exact hd.2.2.2.2) T3.out L3.out
  ·intro vals W hW hw hd
   try simp [Region.binds] at hd
   refine ⟨by first | rfl | simp [Region.wanted, yielded, hd], ?_⟩
   exact yields_call2 cfDgR (.const (.int .u8 4)) (.tmp 33) _ rfl _ _ rfl (by first | exact hd | exact hd.1 | exact hd.2 | exact hd.2.1 | exact hd.2.2 | exact hd.2.2.1 | exact hd.2.2.2 | exact hd.2.2.2.1 | exact hd.2.2.2.2) ((D4.out W (RU.out W hW.out)).mono fun e w' ⟨⟨v, he, h⟩, hb⟩ => ⟨v, he, h, hb⟩)
  ·intro vals W hW hw hd
   try simp [Region.binds] at hd
   refine ⟨by first | rfl | simp [Region.wanted, yielded, hd], ?_⟩
   exact yields_asS (.tmp 34) rfl (by first | exact hd | exact hd.1 | exact hd.2 | exact hd.2.1 | exact hd.2.2 | exact hd.2.2.1 | exact hd.2.2.2 | exact hd.2.2.2.1 | exact hd.2.2.2.2)
 obtain ⟨f0, f1, f2, f3, f4, f5, f6, f7, f8, f9, _⟩ := hF
 simp only [MP.eq_p] at f0 f1 f2 f3 f4 f5 f6 f7
 have C10 : Hid (Sl w10 (vals10 9) (P.dg C)) := f9
 have R10 : Hid (Sl w10 v2 (P.dg R)) := Sl.up (xs := P.dg R) Sr.out hb10.out
 have s10 : Hid (Kn w10 _) := s9.out.up hb10.out
 have b10 : Hid (Below w.heap.size w w10) := b9.out.trans (hb10.out.mono b9.out.size)
 clear f0 f1 f2 f3 f4 f5 f6 f7 f8 f9 hb10 s9 b9 G RU Sr D4 T2 T3 L2 L3 FS AS
 generalize vals10 9 = v5 at *
 generalize w8.heap.size = kf at *
 generalize w1.heap.size = kk at *
 have Sr : Hid (Sl w10 v2 (P.dg R)) := R10
 clear R10
 have Sc : Hid (Sl w10 v5 (P.dg C)) := C10
 clear C10
 go_wp2_with (first | refine wp_ldW rfl 28 _ rfl kk 0 rfl (prR (x) (m) (a)) _ (Kn.rng s10.out 1 rfl) Tryz.underlying28 rfl (info_prR (x) (m) (a)) ?_ | refine wp_ldW rfl 26 _ rfl kk 0 rfl [Value.int IntKind.u64 x.a, Value.int IntKind.u64 x.b, Value.int IntKind.u64 x.c, Value.int IntKind.u64 x.d] _ (Kn.png0 s10.out 1 rfl) Tryz.underlying26 rfl (info_c4 (x)) ?_ | refine wp_ldW rfl 22 _ rfl kk 4 rfl (bR (m)) _ (Kn.png1 s10.out 1 rfl) Tryz.underlying22 rfl (info_bR (m)) ?_ | refine wp_ldW rfl 22 _ rfl kk 36 rfl (bR (a)) _ (Kn.png2 s10.out 1 rfl) Tryz.underlying22 rfl (info_bR (a)) ?_)
 refine (ON.out _).mono ?_
 rintro e w11 ⟨⟨v11, rfl, h11⟩, hb11⟩
 replace Sr : Hid (Sl w11 v2 (P.dg R)) := Sl.up (xs := (P.dg R)) Sr.out hb11
 replace Sc : Hid (Sl w11 v5 (P.dg C)) := Sl.up (xs := (P.dg C)) Sc.out hb11
 have s11 : Hid (Kn w11 _) := s10.out.up hb11
 have b11 : Hid (Below w.heap.size w w11) := b10.out.trans (hb11.mono b10.out.size)
 have z11 := b11.out.size
 clear hb11 s10 b10
 go_wp2_with fail
 refine (TM.out _ _ _ Sc.out h11).mono ?_
 rintro e w12 ⟨⟨v12, rfl, h12⟩, hb12⟩
 replace Sr : Hid (Sl w12 v2 (P.dg R)) := Sl.up (xs := (P.dg R)) Sr.out hb12
 replace Sc : Hid (Sl w12 v5 (P.dg C)) := Sl.up (xs := (P.dg C)) Sc.out hb12
 have s12 : Hid (Kn w12 _) := s11.out.up hb12
 have b12 : Hid (Below w.heap.size w w12) := b11.out.trans (hb12.mono b11.out.size)
 have z12 := b12.out.size
 clear hb12 s11 b11
 clear h11
 go_wp2_with fail
 refine (PL.out _ _ _ Sr.out h12).mono ?_
 rintro e w13 ⟨⟨v13, rfl, h13⟩, hb13⟩
 replace Sr : Hid (Sl w13 v2 (P.dg R)) := Sl.up (xs := (P.dg R)) Sr.out hb13
 replace Sc : Hid (Sl w13 v5 (P.dg C)) := Sl.up (xs := (P.dg C)) Sc.out hb13
 have s13 : Hid (Kn w13 _) := s12.out.up hb13
 have b13 : Hid (Below w.heap.size w w13) := b12.out.trans (hb13.mono b12.out.size)
 have z13 := b13.out.size
 clear hb13 s12 b12
 clear h12
 have Se : Hid (Sl w13 v13 (P.dg E)) := h13
 clear h13
 go_wp2_with fail
 refine (PR.out _).mono ?_
 rintro e w14 ⟨⟨v14, rfl, h14⟩, hb14⟩
 replace Sr : Hid (Sl w14 v2 (P.dg R)) := Sl.up (xs := (P.dg R)) Sr.out hb14
 replace Sc : Hid (Sl w14 v5 (P.dg C)) := Sl.up (xs := (P.dg C)) Sc.out hb14
 replace Se : Hid (Sl w14 v13 (P.dg E)) := Sl.up (xs := (P.dg E)) Se.out hb14
 have s14 : Hid (Kn w14 _) := s13.out.up hb14
 have b14 : Hid (Below w.heap.size w w14) := b13.out.trans (hb14.mono b13.out.size)
 have z14 := b14.out.size
 clear hb14 s13 b13
 go_wp2_with fail
 refine (RS.out _ _ _ Se.out h14).mono ?_
 rintro e w15 ⟨⟨v15, rfl, h15⟩, hb15⟩
 replace Sr : Hid (Sl w15 v2 (P.dg R)) := Sl.up (xs := (P.dg R)) Sr.out hb15
 replace Sc : Hid (Sl w15 v5 (P.dg C)) := Sl.up (xs := (P.dg C)) Sc.out hb15
 replace Se : Hid (Sl w15 v13 (P.dg E)) := Sl.up (xs := (P.dg E)) Se.out hb15
 have s15 : Hid (Kn w15 _) := s14.out.up hb15
 have b15 : Hid (Below w.heap.size w w15) := b14.out.trans (hb15.mono b14.out.size)
 have z15 := b15.out.size
 clear hb15 s14 b14
 clear h14
 go_wp2_with fail
 refine (TN.out _ _ h15).mono ?_
 rintro e w16 ⟨rfl, hb16⟩
 replace Sr : Hid (Sl w16 v2 (P.dg R)) := Sl.up (xs := (P.dg R)) Sr.out hb16
 replace Sc : Hid (Sl w16 v5 (P.dg C)) := Sl.up (xs := (P.dg C)) Sc.out hb16
 replace Se : Hid (Sl w16 v13 (P.dg E)) := Sl.up (xs := (P.dg E)) Se.out hb16
 have s16 : Hid (Kn w16 _) := s15.out.up hb16
 have b16 : Hid (Below w.heap.size w w16) := b15.out.trans (hb16.mono b15.out.size)
 have z16 := b16.out.size
 clear hb16 s15 b15
 clear h15
 go_wp2_with fail
 refine (BY _).mono ?_
 rintro e w17 ⟨rfl, hb17⟩
 replace Sr : Hid (Sl w17 v2 (P.dg R)) := Sl.up (xs := (P.dg R)) Sr.out hb17
 replace Sc : Hid (Sl w17 v5 (P.dg C)) := Sl.up (xs := (P.dg C)) Sc.out hb17
 replace Se : Hid (Sl w17 v13 (P.dg E)) := Sl.up (xs := (P.dg E)) Se.out hb17
 have s17 : Hid (Kn w17 _) := s16.out.up hb17
 have b17 : Hid (Below w.heap.size w w17) := b16.out.trans (hb17.mono b16.out.size)
 have z17 := b17.out.size
 clear hb17 s16 b16
 have s18x : Hid (Kn (w17.alloc (.cells #[Value.int IntKind.u8 0, .int .u8 0, .int .u8 0, .int .u8 0, .int .u8 0, .int .u8 0, .int .u8 0, .int .u8 0, .int .u8 0, .int .u8 0, .int .u8 0, .int .u8 0, .int .u8 0, .int .u8 0, .int .u8 0, .int .u8 0, .int .u8 0, .int .u8 0, .int .u8 0, .int .u8 0, .int .u8 0, .int .u8 0, .int .u8 0, .int .u8 0, .int .u8 0, .int .u8 0, .int .u8 0, .int .u8 0, .int .u8 0, .int .u8 0, .int .u8 0, .int .u8 0] 22)) [(w17.heap.size, bZ), (kf, (bR (f))), (kk, (prR (x) (m) (a))), (w.heap.size + 1, sgZ), (w.heap.size, (bR (n)))]) := s17.out.al bZ 22 rfl
 have b18x : Hid (Below w.heap.size w (w17.alloc (.cells #[Value.int IntKind.u8 0, .int .u8 0, .int .u8 0, .int .u8 0, .int .u8 0, .int .u8 0, .int .u8 0, .int .u8 0, .int .u8 0, .int .u8 0, .int .u8 0, .int .u8 0, .int .u8 0, .int .u8 0, .int .u8 0, .int .u8 0, .int .u8 0, .int .u8 0, .int .u8 0, .int .u8 0, .int .u8 0, .int .u8 0, .int .u8 0, .int .u8 0, .int .u8 0, .int .u8 0, .int .u8 0, .int .u8 0, .int .u8 0, .int .u8 0, .int .u8 0, .int .u8 0] 22))) := b17.out.alloc b17.out.size _
 have g18 : w.heap.size ≤ w17.heap.size := b17.out.size
 have TT18 : Hid ((w17.alloc (.cells #[Value.int IntKind.u8 0, .int .u8 0, .int .u8 0, .int .u8 0, .int .u8 0, .int .u8 0, .int .u8 0, .int .u8 0, .int .u8 0, .int .u8 0, .int .u8 0, .int .u8 0, .int .u8 0, .int .u8 0, .int .u8 0, .int .u8 0, .int .u8 0, .int .u8 0, .int .u8 0, .int .u8 0, .int .u8 0, .int .u8 0, .int .u8 0, .int .u8 0, .int .u8 0, .int .u8 0, .int .u8 0, .int .u8 0, .int .u8 0, .int .u8 0, .int .u8 0, .int .u8 0] 22)).there (w17.heap.size) 0 (bR (s)).length) := Kn.there s18x.out 0 rfl (by rw [(bR_length (s)), bZ_length])
 go_wp2_with (first | simp only [zero_b32] | refine I.wp_store_eq rfl 22 _ _ rfl (w17.heap.size) 0 (bR (s)) rfl rfl TT18.out (info_bR (s)) (bR_one (s)) ?_)
 intro w18 hw18
 try simp only [Act.put, List.setIfInBounds_toArray, List.set_cons_succ, List.set_cons_zero]
 have s18 : Hid (Kn w18 [(w17.heap.size, (bR (s))), (kf, (bR (f))), (kk, (prR (x) (m) (a))), (w.heap.size + 1, sgZ), (w.heap.size, (bR (n)))]) := by rw [hw18.out]; exact Kn.put s18x.out (by rw [(bR_length (s)), bZ_length])
 have b18 : Hid (Below w.heap.size w w18) := by rw [hw18.out]; exact I.below_setCells _ _ _ b18x.out g18
 have z18 := b18.out.size
 replace Sr : Hid (Sl w18 v2 (P.dg R)) := Sl.up (xs := (P.dg R)) Sr.out (by rw [hw18.out]; exact I.below_setCells _ _ _ ((Below.refl _ _).alloc (Nat.le_refl _) _) (Nat.le_refl _))
 replace Sc : Hid (Sl w18 v5 (P.dg C)) := Sl.up (xs := (P.dg C)) Sc.out (by rw [hw18.out]; exact I.below_setCells _ _ _ ((Below.refl _ _).alloc (Nat.le_refl _) _) (Nat.le_refl _))
 replace Se : Hid (Sl w18 v13 (P.dg E)) := Sl.up (xs := (P.dg E)) Se.out (by rw [hw18.out]; exact I.below_setCells _ _ _ ((Below.refl _ _).alloc (Nat.le_refl _) _) (Nat.le_refl _))
 clear hw18 s18x b18x TT18 s17 b17
 clear Sr Sc Se ON TM PL PR RS TN BY
 generalize w17.heap.size = kb at *
 have s19 : Hid (Kn (w18.alloc (.cells #[Value.int IntKind.u8 0, .int .u8 0, .int .u8 0, .int .u8 0, .int .u8 0, .int .u8 0, .int .u8 0, .int .u8 0, .int .u8 0, .int .u8 0, .int .u8 0, .int .u8 0, .int .u8 0, .int .u8 0, .int .u8 0, .int .u8 0, .int .u8 0, .int .u8 0, .int .u8 0, .int .u8 0, .int .u8 0, .int .u8 0, .int .u8 0, .int .u8 0, .int .u8 0, .int .u8 0, .int .u8 0, .int .u8 0, .int .u8 0, .int .u8 0, .int .u8 0, .int .u8 0, .int .u8 0, .int .u8 0, .int .u8 0, .int .u8 0, .int .u8 0, .int .u8 0, .int .u8 0, .int .u8 0, .int .u8 0, .int .u8 0, .int .u8 0, .int .u8 0, .int .u8 0, .int .u8 0, .int .u8 0, .int .u8 0, .int .u8 0, .int .u8 0, .int .u8 0, .int .u8 0, .int .u8 0, .int .u8 0, .int .u8 0, .int .u8 0, .int .u8 0, .int .u8 0, .int .u8 0, .int .u8 0, .int .u8 0, .int .u8 0, .int .u8 0, .int .u8 0] 30)) [(w18.heap.size, sgZ), (kb, (bR (s))), (kf, (bR (f))), (kk, (prR (x) (m) (a))), (w.heap.size + 1, sgZ), (w.heap.size, (bR (n)))]) := s18.out.al sgZ 30 rfl
 have b19 : Hid (Below w.heap.size w (w18.alloc (.cells #[Value.int IntKind.u8 0, .int .u8 0, .int .u8 0, .int .u8 0, .int .u8 0, .int .u8 0, .int .u8 0, .int .u8 0, .int .u8 0, .int .u8 0, .int .u8 0, .int .u8 0, .int .u8 0, .int .u8 0, .int .u8 0, .int .u8 0, .int .u8 0, .int .u8 0, .int .u8 0, .int .u8 0, .int .u8 0, .int .u8 0, .int .u8 0, .int .u8 0, .int .u8 0, .int .u8 0, .int .u8 0, .int .u8 0, .int .u8 0, .int .u8 0, .int .u8 0, .int .u8 0, .int .u8 0, .int .u8 0, .int .u8 0, .int .u8 0, .int .u8 0, .int .u8 0, .int .u8 0, .int .u8 0, .int .u8 0, .int .u8 0, .int .u8 0, .int .u8 0, .int .u8 0, .int .u8 0, .int .u8 0, .int .u8 0, .int .u8 0, .int .u8 0, .int .u8 0, .int .u8 0, .int .u8 0, .int .u8 0, .int .u8 0, .int .u8 0, .int .u8 0, .int .u8 0, .int .u8 0, .int .u8 0, .int .u8 0, .int .u8 0, .int .u8 0, .int .u8 0] 30))) := b18.out.alloc b18.out.size _
 have z19 := b18.out.size
 clear s18 b18
 go_wp2_with (simp only [zero_b64])
 have gko : w.heap.size ≤ w18.heap.size := z18
 have SZ : Hid (sgZ = sgP f s 0) := (sgP_zero f s).symm
 rw [SZ.out] at s19
 generalize hko : w18.heap.size = ko at *
 clear hko
 go_loopw [46] (fun i wr => ∃ j : Nat, j ≤ 64 ∧ i = .int .i64 (j : Int) ∧ Hid (Kn wr [(ko, sgP f s j), (kb, bR s), (kf, bR f), (kk, prR x m a), (w.heap.size + 1, sgZ), (w.heap.size, bR n)]) ∧ Hid (Below w.heap.size w wr)) (fun i _ => 64 - (intOf i).toNat)
 case atStart => exact ⟨0, by omega, rfl, s19, b19⟩
 case round =>
  clear s19 b19
  obtain ⟨j, hj, rfl, sk, bk⟩ := hrel
  by_cases hlt : j < 64
  ·have i1 : (j : Int) < 64 := by omega
   have i0 : (0 : Int) ≤ (j : Int) := by omega
   have co : wr.cell? ⟨ko, j, none⟩ = some (.int .u8 ((0 : Nat) : Int)) := Kn.get sk.out 0 j rfl (sgP_old hlt)
   have zo := Kn.fz sk.out 0 rfl
   have bs : ∀ v : Value, Below w.heap.size w (wr.setCell ⟨ko, j, none⟩ v) := fun v => bk.out.setCell (p := ⟨ko, j, none⟩) gko v
   by_cases h32 : j < 32
   ·have i2 : (j : Int) < 32 := by omega
    obtain ⟨v, hv⟩ : ∃ v, v = f / 256 ^ j % 256 := ⟨_, rfl⟩
    have cf : wr.cell? ⟨kf, j, none⟩ = some (.int .u8 (v : Int)) := by rw [hv]; exact Kn.get sk.out 2 j rfl (bR_get _ _ h32)
    have s4 : Hid (Kn (wr.setCell ⟨ko, j, none⟩ (.int .u8 (v : Int))) [(ko, sgP f s (j + 1)), (kb, bR s), (kf, bR f), (kk, prR x m a), (w.heap.size + 1, sgZ), (w.heap.size, bR n)]) := by
     have := Kn.set sk.out j (.int .u8 (v : Int)) (by rw [sgP_length (by omega)]; exact hlt)
     rw [sgP_next (by rw [hv]; exact sgR_front f s j h32)] at this
     exact this
    have b4 : Hid (Below w.heap.size w (wr.setCell ⟨ko, j, none⟩ (.int .u8 (v : Int)))) := bs _
    clear hv bs
    go_wp2_with fail
    go_roundw
    case rel => exact ⟨j + 1, by omega, by go_num, s4, b4⟩
    case measure => simp [intOf]; omega
   ·have i2 : ¬ (j : Int) < 32 := by omega
    obtain ⟨q, hq⟩ : ∃ q, j = 32 + q := ⟨j - 32, by omega⟩
    have q32 : q < 32 := by omega
    have q1 : (q : Int) < 32 := by omega
    have q0 : (0 : Int) ≤ (q : Int) := by omega
    have wq : IntKind.i64.wrap ((j : Int) - 32) = (q : Int) := by rw [IntKind.wrap_i64]; omega
    obtain ⟨v, hv⟩ : ∃ v, v = s / 256 ^ q % 256 := ⟨_, rfl⟩
    have cf : wr.cell? ⟨kb, q, none⟩ = some (.int .u8 (v : Int)) := by rw [hv]; exact Kn.get sk.out 1 q rfl (bR_get _ _ q32)
    have s4 : Hid (Kn (wr.setCell ⟨ko, j, none⟩ (.int .u8 (v : Int))) [(ko, sgP f s (j + 1)), (kb, bR s), (kf, bR f), (kk, prR x m a), (w.heap.size + 1, sgZ), (w.heap.size, bR n)]) := by
     have := Kn.set sk.out j (.int .u8 (v : Int)) (by rw [sgP_length (by omega)]; exact hlt)
     rw [sgP_next (by rw [hv, hq]; exact sgR_back f s q q32)] at this
     exact this
    have b4 : Hid (Below w.heap.size w (wr.setCell ⟨ko, j, none⟩ (.int .u8 (v : Int)))) := bs _
    clear hv hq bs
    go_wp2_with fail
    go_roundw
    case rel => exact ⟨j + 1, by omega, by go_num, s4, b4⟩
    case measure => simp [intOf]; omega
  ·obtain rfl : j = 64 := by omega
   rw [sgP_all] at sk
   have s5 : Hid (Kn wr [(ko, sgR f s), (kb, bR s), (kf, bR f), (kk, prR x m a), (w.heap.size + 1, sgZ), (w.heap.size, bR n)]) := sk
   have b5 : Hid (Below w.heap.size w wr) := bk
   clear sk bk
   have s6x : Hid (Kn wr [(w.heap.size + 1, sgZ), (ko, (sgR (f) (s))), (kb, (bR (s))), (kf, (bR (f))), (kk, (prR (x) (m) (a))), (w.heap.size, (bR (n)))]) := s5.out.front 4 rfl
   have b6x : Hid (Below w.heap.size w wr) := b5.out
   have TT6 : Hid (wr.there (w.heap.size + 1) 0 (sgR (f) (s)).length) := Kn.there s6x.out 0 rfl (by rw [(sgR_length (f) (s)), sgZ_length])
   go_wp2_with (first | refine wp_ldW rfl 30 _ rfl ko 0 rfl (sgR (f) (s)) _ (Kn.rng s5.out 0 rfl) Tryz.underlying30 rfl (info_sgR (f) (s)) ?_ | refine I.wp_store_eq rfl 30 _ _ rfl (w.heap.size + 1) 0 (sgR (f) (s)) rfl rfl TT6.out (info_sgR (f) (s)) (sgR_one (f) (s)) ?_)
   intro w6 hw6
   try simp only [Act.put, List.setIfInBounds_toArray, List.set_cons_succ, List.set_cons_zero]
   have s6 : Hid (Kn w6 [(w.heap.size + 1, (sgR (f) (s))), (ko, (sgR (f) (s))), (kb, (bR (s))), (kf, (bR (f))), (kk, (prR (x) (m) (a))), (w.heap.size, (bR (n)))]) := by rw [hw6.out]; exact Kn.put s6x.out (by rw [(sgR_length (f) (s)), sgZ_length])
   have b6 : Hid (Below w.heap.size w w6) := by rw [hw6.out]; exact I.below_setCells _ _ _ b6x.out (by omega)
   have z6 := b6.out.size
   clear hw6 s6x b6x TT6 s5 b5
   go_wp2_with fail
   exact bodyPost_ret (v := sgV f s) (I.results_cell (b := w.heap.size + 1) rfl rfl (Kn.rng s6.out 0 rfl) Tryz.underlying30 rfl (info_sgR (f) (s))) rfl ⟨rfl, b6.out⟩
theorem ord_64 : Cv.ord < 65536 ^ 64 := by decide
theorem ord_sq (c x r : Nat) (hc : c < Cv.ord) (hx : x < Cv.ord) (hr : r < Cv.ord) : c * x < 65536 ^ 64 ∧ r + c * x < 65536 ^ 64 := by
 have h1 : c * x ≤ Cv.ord * Cv.ord := Nat.mul_le_mul (Nat.le_of_lt hc) (Nat.le_of_lt hx)
 have h2 : Cv.ord + Cv.ord * Cv.ord < 65536 ^ 64 := by decide
 generalize Cv.ord * Cv.ord = q at *
 generalize c * x = t at *
 exact ⟨by omega, by omega⟩
theorem signature_gen (n m a f d r c x : Nat) (p : List Nat) (lp : lowP p) (hr : r < Cv.ord) (hc : c < Cv.ord) (hx : x < Cv.ord) (hrd : nzN d = r) (hf : Cv.pk (Cv.times r Cv.base) = f) (hd : S.le (S.dig 3 (S.by m ++ p)) % Cv.ord = d) (hcd : S.le (S.dig 4 (S.by f ++ (S.by a ++ p))) % Cv.ord = c)
  (PO : ∀ w, RTab w → Calls Tryz.prog 7 #[bV n] w fun e w' => e = .returned (prV (nm x) m a) ∧ Below w.heap.size w w') (w : World) (hT : RTab w) :
  Calls Tryz.prog 9 #[bV n, .string (sOf p)] w fun e w' => e = .returned (sgV f ((r + c * x) % Cv.ord)) ∧ Below w.heap.size w w' := by
 have hr2 := Nat.lt_trans hr ord_lt
 have hx2 := Nat.lt_trans hx ord_lt
 have ob := ord_sq c x r hc hx hr
 obtain ⟨rx, ry, rt, OF, PP⟩ := often_fun r hr2
 have ON := ofNum_fun (nm x) (nm_ok _)
 rw [nm_nat hx2] at ON
 have zp := lp.2
 have hs : (r + c * x) % Cv.ord < 2 ^ 256 := Nat.lt_trans (Nat.mod_lt _ ord_pos) ord_lt
 have NO : ∀ v w, Sl w v (P.dg d) → Calls Tryz.prog 20 #[v] w fun e w' => (∃ v', e = .returned v' ∧ Sl w' v' (P.dg r)) ∧ Below w.heap.size w w' := fun v w h => by
  rw [← hrd]
  exact nought_fun d v w h
 have PK := rPacked_fun (Cv.times r Cv.base) (Cv.times_on Cv.base_on r)
 rw [hf] at PK
 have D3 : ∀ w, RTab w → Calls Tryz.prog 21 #[.int .u8 3, .string (sOf (S.by m ++ p))] w fun e w' => (∃ v', e = .returned v' ∧ Sl w' v' (P.dg d)) ∧ Below w.heap.size w w' := fun w hT => by
  rw [← hd]
  exact rDig_fun 3 (by decide) _ (low_app (S.by_low _) lp.1) (by rw [List.length_append, S.by_length]; omega) w hT
 have D4 : ∀ w, RTab w → Calls Tryz.prog 21 #[.int .u8 4, .string (sOf ((S.by f ++ S.by a) ++ p))] w fun e w' => (∃ v', e = .returned v' ∧ Sl w' v' (P.dg c)) ∧ Below w.heap.size w w' := fun w hT => by
  rw [← hcd, List.append_assoc]
  exact rDig_fun 4 (by decide) _ (low_app (S.by_low _) (low_app (S.by_low _) lp.1)) (by rw [List.length_append, List.length_append, S.by_length, S.by_length]; omega) w hT
 have TM := times_n c x (Nat.lt_trans hc ord_64) (Nat.lt_trans hx ord_64)
 have PL := plus_n r (c * x) (Nat.lt_trans hr ord_64) ob.1
 have RS := rest_n (r + c * x) Cv.ord ob.2 ord_pos ord_64
 have TN := toNum_of ((r + c * x) % Cv.ord) hs
 have BY := bytesOf_fun ((r + c * x) % Cv.ord) hs
 generalize (r + c * x) % Cv.ord = s at *
 have l1 : ¬ 9223372036854775807 < (sOf (S.by m)).size + (sOf p).size := by rw [sOf_size, sOf_size, S.by_length]; omega
 have l2 : ¬ 9223372036854775807 < (sOf (S.by f)).size + (sOf (S.by a)).size := by rw [sOf_size, sOf_size, S.by_length, S.by_length]; decide
 have l3 : ¬ 9223372036854775807 < (sOf (S.by f ++ S.by a)).size + (sOf p).size := by rw [sOf_size, sOf_size, List.length_append, S.by_length, S.by_length]; omega
 exact signature_walk n m a f s d r c (c * x) x (r + c * x) Cv.ord Cv.base.1 Cv.base.2 rx ry rt (nm x) _ _ (nm s) (sOf (S.by m)) (sOf (S.by f)) (sOf (S.by a)) (sOf p) _ _ _ rfl rfl rfl (sOf_append _ _) (sOf_append _ _) (sOf_append _ _) l1 l2 l3 PO D3 NO ptBase_n OF PP PK D4 ON TM PL prime_fun RS TN BY w hT
theorem signature_fun (n : Nat) (p : List Nat) (lp : lowP p) (w : World) (hT : RTab w) : Calls Tryz.prog 9 #[bV n, .string (sOf p)] w fun e w' => e = .returned (sgV (frN n p) (bkN n p)) ∧ Below w.heap.size w w' := by
 have hr : rN n p < Cv.ord := by
  unfold rN nzN
  split
  ·decide
  ·exact Nat.mod_lt _ ord_pos
 have hc : chN (frN n p) (pubN n) p < Cv.ord := Nat.mod_lt _ ord_pos
 unfold bkN
 exact signature_gen n (mskN n) (pubN n) (frN n p) (dgN 3 (S.by (mskN n) ++ p)) (rN n p) _ _ p lp hr hc (sec_lt n) rfl rfl rfl rfl (fun w hT => pairOf_fun n w hT) w hT
end Go.Proofs.YtfknkfninjjgbaaGreatDoor

/- SignTells, out of what package sign keeps, and the document's side. -/
namespace Go.Proofs.YtfknkfninjjgbaaGreatDoor
open Go.RowKit
attribute [local go_sem] World.cell?_alloc_some cell_alloc2 cell_alloc3 cell_alloc4 frozen?_alloc_cells frozen_out
attribute [local simp] MP.eq_p
set_option linter.unusedSimpArgs false
theorem part_b32 (xs : Array Value) (off : Nat) (w : World) : (part 22 xs off).run Tryz.prog w = .ok (.agg (xs.extract off (off + 32))) w := by
 have hs : (Tryz.prog.info? 22).map (·.size) = some 32 := by kernel_rfl
 cases hq : Tryz.prog.info? 22 with
 | none => simp [hq] at hs
 | some i =>
  have hi : i.size = 32 := by simpa [hq] using hs
  simp [part, isAgg, run_underlying Tryz.underlying22, sizeOf, typeInfo, hq, hi]
set_option maxRecDepth 100000 in
theorem equalIn_b32 (n : Nat) (w : World) : (Op.equalIn 9999 22 (bV n) (bV n)).run Tryz.prog w = .ok true w := by
 have hg : ∀ j, j < 32 → (bR n).toArray[j]? = some (.int .u8 ((n / 256 ^ j % 256 : Nat) : Int)) := fun j hj => by simp [bR, hj]
 have h := run_equalIn_array (P := Tryz.prog) (t := 22) (e := 5) w 9998 (bR n).toArray (bR n).toArray Tryz.underlying22 rfl
 rw [show Tryz.prog.cellsOf 5 = 1 by kernel_rfl, run_eqItems_ints 9997 (k := .u8) Tryz.underlying5 (by kernel_rfl) (fun j => ((n / 256 ^ j % 256 : Nat) : Int)) (fun j => ((n / 256 ^ j % 256 : Nat) : Int)) _ _ w _ (fun j hj => hg j (List.mem_range.1 hj)) (fun j hj => hg j (List.mem_range.1 hj))] at h
 rw [h]
 simp
theorem pair_fields : (Tryz.prog.fieldsOf 28).toList.map (fun f => (f.name, f.type, f.offset)) = [("Secret", 26, 0), ("Mask", 22, 4), ("Public", 22, 36)] := by kernel_rfl
theorem pr_ex0 (x : Nm) (m a : Nat) : (prR x m a).toArray.extract 0 (0 + 4) = (c4 x).toArray := by
 rw [List.extract_toArray, List.extract_eq_take_drop]
 exact congrArg List.toArray (List.take_left' rfl)
theorem pr_ex1 (x : Nm) (m a : Nat) : (prR x m a).toArray.extract 4 (4 + 32) = (bR m).toArray := by
 rw [List.extract_toArray, List.extract_eq_take_drop]
 refine congrArg List.toArray ?_
 rw [prR, List.drop_left' (show (c4 x).length = 4 from rfl)]
 exact List.take_left' (bR_length m)
theorem pr_ex2 (x : Nm) (m a : Nat) : (prR x m a).toArray.extract 36 (36 + 32) = (bR a).toArray := by
 rw [List.extract_toArray, List.extract_eq_take_drop]
 refine congrArg List.toArray ?_
 rw [prR, ← List.append_assoc, List.drop_left' (by rw [List.length_append, bR_length]; rfl)]
 exact List.take_of_length_le (by rw [bR_length]; decide)
theorem eqPr (x : Nm) (m a : Nat) (w : World) : (Op.equalIn 10000 28 (prV x m a) (prV x m a)).run Tryz.prog w = .ok true w := by
 rw [run_equalIn_struct w 9999 28 _ _ (by kernel_rfl) (by kernel_rfl)]
 have hf := pair_fields
 generalize (Tryz.prog.fieldsOf 28).toList = fs at hf
 match fs, hf with
 | [], hf => simp at hf
 | [_], hf => simp at hf
 | [_, _], hf => simp at hf
 | _ :: _ :: _ :: _ :: _, hf => simp at hf
 | [f, g, h], hf =>
  simp only [List.map_cons, List.map_nil, List.cons.injEq, Prod.mk.injEq, and_true] at hf
  obtain ⟨⟨n1, t1, o1⟩, ⟨n2, t2, o2⟩, n3, t3, o3⟩ := hf
  have q1 : (Op.equalIn 9999 26 (.agg (c4 x).toArray) (.agg (c4 x).toArray)).run Tryz.prog w = .ok true w := (equalIn_num x x w).trans (by rw [Nm.beq_self])
  have q2 := equalIn_b32 m w
  have q3 := equalIn_b32 a w
  simp only [Op.eqFields, n1, t1, o1, n2, t2, o2, n3, t3, o3, Sem.run_bind, part_num, part_b32, Result.andThen_ok, pr_ex0, pr_ex1, pr_ex2, q1, q2, q3, Sem.run_ite, Sem.run_pure]
  simp
theorem eqPair (x : Nm) (m a : Nat) (w : World) : (binOp .eql 28 (prV x m a) (prV x m a)).run Tryz.prog w = .ok (.bool true) w := by
 rw [run_eql_struct, eqPr]
 rfl
set_option maxRecDepth 100000 in
theorem eqSg (r s : Nat) (w : World) : (binOp .eql 30 (sgV r s) (sgV r s)).run Tryz.prog w = .ok (.bool true) w := by
 have hg : ∀ j, j < 64 → (sgR r s).toArray[j]? = some (.int .u8 (if j < 32 then ((r / 256 ^ j % 256 : Nat) : Int) else ((s / 256 ^ (j - 32) % 256 : Nat) : Int))) := fun j hj => by
  rw [List.getElem?_toArray, sgR]
  by_cases h : j < 32
  ·rw [List.getElem?_append_left (by rw [bR_length]; exact h), if_pos h]
   simp [bR, h]
  ·rw [List.getElem?_append_right (by rw [bR_length]; omega), bR_length, if_neg h]
   simp [bR, show j - 32 < 32 by omega]
 rw [run_eql_ints (P := Tryz.prog) (t := 30) (e := 5) (n := 64) (k := .u8) u_b64 rfl Tryz.underlying5 (by kernel_rfl) (by kernel_rfl) _ _ _ _ hg hg]
 congr 2
 exact List.all_eq_true.2 fun j _ => beq_self_eq_true _
theorem cfSN (args : Array Value) (W : World) : (callFunc 6 args).run Tryz.prog W = .ok (.enter 6 args) W := cf_is (fn := Tryz.f6) (by kernel_rfl) (by decide) (by kernel_rfl) args W
theorem cfSS (args : Array Value) (W : World) : (callFunc 8 args).run Tryz.prog W = .ok (.enter 8 args) W := cf_is (fn := Tryz.f8) (by kernel_rfl) (by decide) (by kernel_rfl) args W
theorem cfPO (args : Array Value) (W : World) : (callFunc 7 args).run Tryz.prog W = .ok (.enter 7 args) W := cf_is (fn := Tryz.f7) (by kernel_rfl) (by decide) (by kernel_rfl) args W
theorem cfSR (args : Array Value) (W : World) : (callFunc 9 args).run Tryz.prog W = .ok (.enter 9 args) W := cf_is (fn := Tryz.f9) (by kernel_rfl) (by decide) (by kernel_rfl) args W
set_option maxRecDepth 20000 in
set_option maxHeartbeats 2000000 in
theorem signTells_walk (n m a f s : Nat) (x : Nm) (v : Value) (p : List Nat) (us : ByteArray) (US : Hid (sOf p = us)) (EP : ∀ w, (binOp .eql 28 (prV x m a) (prV x m a)).run Tryz.prog w = .ok (.bool true) w) (ES : ∀ w, (binOp .eql 30 (sgV f s) (sgV f s)).run Tryz.prog w = .ok (.bool true) w)
  (NW : ∀ w, KTab w → Calls Tryz.prog 6 #[bV n] w fun e w' => e = .returned (prV x m a) ∧ Below w.heap.size w w')
  (PO : ∀ w, RTab w → Calls Tryz.prog 7 #[bV n] w fun e w' => e = .returned (prV x m a) ∧ Below w.heap.size w w')
  (SG : ∀ w, By w v p → KTab w → Calls Tryz.prog 8 #[bV n, v] w fun e w' => e = .returned (sgV f s) ∧ Below w.heap.size w w')
  (RS : ∀ w, RTab w → Calls Tryz.prog 9 #[bV n, .string us] w fun e w' => e = .returned (sgV f s) ∧ Below w.heap.size w w')
  (w : World) (hv : By w v p) (hK : KTab w) (hR : RTab w) :
  Calls Tryz.prog 3 #[bV n, v] w fun e w' => e = .returned (.bool true) ∧ Below w.heap.size w w' := by
 have HV : Hid (By w v p) := hv
 have HK : Hid (KTab w) := hK
 have HR : Hid (RTab w) := hR
 have gp : Tryz.prog.eqGuardType Tryz.prog.depth 28 = false := by kernel_rfl
 have gs : Tryz.prog.eqGuardType Tryz.prog.depth 30 = false := by kernel_rfl
 clear hv hK hR
 go_enter Tryz.func3, Tryz.ntmps3
 have s0 : Hid (Kn (w.alloc (.cells (bR (n)).toArray 22)) [(w.heap.size, (bR (n)))]) := ((Kn.nil w).al (bR (n)) 22 rfl)
 have b0 : Hid (Below w.heap.size w (w.alloc (.cells (bR (n)).toArray 22))) := ((Below.refl _ _).alloc (Nat.le_refl _) _)
 go_wp2_with fail
 have G : Hid _ := s0
 have KU : Hid (∀ W, Below (w.alloc (.cells (bR n).toArray 22)).heap.size (w.alloc (.cells (bR n).toArray 22)) W → KTab W) := fun W hW => HK.out.up (b0.out.trans (hW.mono b0.out.size)) HK.out.pos
 have RU : Hid (∀ W, Below (w.alloc (.cells (bR n).toArray 22)).heap.size (w.alloc (.cells (bR n).toArray 22)) W → RTab W) := fun W hW => HR.out.up (b0.out.trans (hW.mono b0.out.size)) HR.out.pos
 have VU : Hid (∀ W, Below (w.alloc (.cells (bR n).toArray 22)).heap.size (w.alloc (.cells (bR n).toArray 22)) W → By W v p) := fun W hW => HV.out.up (b0.out.trans (hW.mono b0.out.size)) (Nat.le_refl _)
 refine wp_region_monoE [MP.eq (bV n), MP.eq (prV x m a), MP.eq (bV n), MP.eq (prV x m a), MP.eq (.bool true), MP.eq (.bool true), MP.eq (bV n), MP.eq v, MP.eq (sgV f s), MP.eq (bV n), MP.eq v, MP.eq (.string us), MP.eq (sgV f s), MP.eq (.bool true), MP.eq (.bool true), MP.eq (.bool true)] (by kernel_rfl) (by kernel_rfl) rfl ?_
 apply Exists.intro
 refine ⟨fun vals => ?_, ?_, fun vals1 w1 hb1 hF => ?_⟩
 ·simp only [putsV, dstL, List.length_cons, List.length_nil, Nat.zero_add, Nat.reduceAdd, List.getElem?_cons_zero, List.getElem?_cons_succ, Option.bind_some, Act.put, List.setIfInBounds_toArray, List.set_cons_succ, List.set_cons_zero]
  rfl
 ·refine ⟨?_, ?_, ?_, ?_, ?_, ?_, ?_, ?_, ?_, ?_, ?_, ?_, ?_, ?_, ?_, ?_, trivial⟩
  ·intro vals W hW hw hd
   try simp [Region.binds] at hd
   refine ⟨by first | rfl | simp [Region.wanted, yielded, hd], ?_⟩
   exact yields_ldR 22 (.tmp 2) rfl w.heap.size 0 rfl (bR n) _ (Kn.rng (G.out.up hW.out) 0 rfl) Tryz.underlying22 rfl (info_bR n)
  ·intro vals W hW hw hd
   try simp [Region.binds] at hd
   refine ⟨by first | rfl | simp [Region.wanted, yielded, hd], ?_⟩
   exact yields_call1 cfSN (.tmp 5) _ rfl (bV n) (by first | exact hd | exact hd.1 | exact hd.2 | exact hd.2.1 | exact hd.2.2 | exact hd.2.2.1 | exact hd.2.2.2 | exact hd.2.2.2.1 | exact hd.2.2.2.2) ((NW W (KU.out W hW.out)).mono fun e w' ⟨he, hb⟩ => ⟨_, he, rfl, hb⟩)
  ·intro vals W hW hw hd
   try simp [Region.binds] at hd
   refine ⟨by first | rfl | simp [Region.wanted, yielded, hd], ?_⟩
   exact yields_ldR 22 (.tmp 2) rfl w.heap.size 0 rfl (bR n) _ (Kn.rng (G.out.up hW.out) 0 rfl) Tryz.underlying22 rfl (info_bR n)
  ·intro vals W hW hw hd
   try simp [Region.binds] at hd
   refine ⟨by first | rfl | simp [Region.wanted, yielded, hd], ?_⟩
   exact yields_call1 cfPO (.tmp 7) _ rfl (bV n) (by first | exact hd | exact hd.1 | exact hd.2 | exact hd.2.1 | exact hd.2.2 | exact hd.2.2.1 | exact hd.2.2.2 | exact hd.2.2.2.1 | exact hd.2.2.2.2) ((PO W (RU.out W hW.out)).mono fun e w' ⟨he, hb⟩ => ⟨_, he, rfl, hb⟩)
  ·intro vals W hW hw hd
   try simp [Region.binds] at hd
   refine ⟨by first | rfl | simp [Region.wanted, yielded, hd], ?_⟩
   exact yields_binA (.tmp 6) (.tmp 8) rfl (by first | exact hd | exact hd.1 | exact hd.2 | exact hd.2.1 | exact hd.2.2 | exact hd.2.2.1 | exact hd.2.2.2 | exact hd.2.2.2.1 | exact hd.2.2.2.2) (by first | exact hd | exact hd.1 | exact hd.2 | exact hd.2.1 | exact hd.2.2 | exact hd.2.2.1 | exact hd.2.2.2 | exact hd.2.2.2.1 | exact hd.2.2.2.2) gp EP
  ·intro vals W hW hw hd
   try simp [Region.binds] at hd
   refine ⟨by first | rfl | simp [Region.wanted, yielded, hd], ?_⟩
   exact yields_mv (.tmp 9) rfl (by first | exact hd | exact hd.1 | exact hd.2 | exact hd.2.1 | exact hd.2.2 | exact hd.2.2.1 | exact hd.2.2.2 | exact hd.2.2.2.1 | exact hd.2.2.2.2)
  ·intro vals W hW hw hd
   try simp [Region.binds] at hd
   refine ⟨by first | rfl | simp [Region.wanted, yielded, hd], ?_⟩
   exact yields_ldR 22 (.tmp 2) rfl w.heap.size 0 rfl (bR n) _ (Kn.rng (G.out.up hW.out) 0 rfl) Tryz.underlying22 rfl (info_bR n)
  ·intro vals W hW hw hd
   try simp [Region.binds] at hd
   refine ⟨by first | rfl | simp [Region.wanted, yielded, hd], ?_⟩
   exact yields_mv (.tmp 1) rfl rfl
  ·intro vals W hW hw hd
   try simp [Region.binds] at hd
   refine ⟨by first | rfl | simp [Region.wanted, yielded, hd], ?_⟩
   exact yields_call2 cfSS (.tmp 11) (.tmp 12) _ rfl (bV n) v (by first | exact hd | exact hd.1 | exact hd.2 | exact hd.2.1 | exact hd.2.2 | exact hd.2.2.1 | exact hd.2.2.2 | exact hd.2.2.2.1 | exact hd.2.2.2.2) (by first | exact hd | exact hd.1 | exact hd.2 | exact hd.2.1 | exact hd.2.2 | exact hd.2.2.1 | exact hd.2.2.2 | exact hd.2.2.2.1 | exact hd.2.2.2.2) ((SG W (VU.out W hW.out) (KU.out W hW.out)).mono fun e w' ⟨he, hb⟩ => ⟨_, he, rfl, hb⟩)
  ·intro vals W hW hw hd
   try simp [Region.binds] at hd
   refine ⟨by first | rfl | simp [Region.wanted, yielded, hd], ?_⟩
   exact yields_ldR 22 (.tmp 2) rfl w.heap.size 0 rfl (bR n) _ (Kn.rng (G.out.up hW.out) 0 rfl) Tryz.underlying22 rfl (info_bR n)
  ·intro vals W hW hw hd
   try simp [Region.binds] at hd
   refine ⟨by first | rfl | simp [Region.wanted, yielded, hd], ?_⟩
   exact yields_mv (.tmp 1) rfl rfl
  ·intro vals W hW hw hd
   try simp [Region.binds] at hd
   refine ⟨by first | rfl | simp [Region.wanted, yielded, hd], ?_⟩
   exact yields_convT (.tmp 15) rfl US.out (by first | exact hd | exact hd.1 | exact hd.2 | exact hd.2.1 | exact hd.2.2 | exact hd.2.2.1 | exact hd.2.2.2 | exact hd.2.2.2.1 | exact hd.2.2.2.2) (VU.out W hW.out)
  ·intro vals W hW hw hd
   try simp [Region.binds] at hd
   refine ⟨by first | rfl | simp [Region.wanted, yielded, hd], ?_⟩
   exact yields_call2 cfSR (.tmp 14) (.tmp 16) _ rfl (bV n) _ (by first | exact hd | exact hd.1 | exact hd.2 | exact hd.2.1 | exact hd.2.2 | exact hd.2.2.1 | exact hd.2.2.2 | exact hd.2.2.2.1 | exact hd.2.2.2.2) (by first | exact hd | exact hd.1 | exact hd.2 | exact hd.2.1 | exact hd.2.2 | exact hd.2.2.1 | exact hd.2.2.2 | exact hd.2.2.2.1 | exact hd.2.2.2.2) ((RS W (RU.out W hW.out)).mono fun e w' ⟨he, hb⟩ => ⟨_, he, rfl, hb⟩)
  ·intro vals W hW hw hd
   try simp [Region.binds] at hd
   refine ⟨by first | rfl | simp [Region.wanted, yielded, hd], ?_⟩
   exact yields_binA (.tmp 13) (.tmp 17) rfl (by first | exact hd | exact hd.1 | exact hd.2 | exact hd.2.1 | exact hd.2.2 | exact hd.2.2.1 | exact hd.2.2.2 | exact hd.2.2.2.1 | exact hd.2.2.2.2) (by first | exact hd | exact hd.1 | exact hd.2 | exact hd.2.1 | exact hd.2.2 | exact hd.2.2.1 | exact hd.2.2.2 | exact hd.2.2.2.1 | exact hd.2.2.2.2) gs ES
  ·intro vals W hW hw hd
   try simp [Region.binds] at hd
   refine ⟨by first | rfl | simp [Region.wanted, yielded, hd], ?_⟩
   exact yields_pickT (.tmp 10) (.tmp 18) (.const (.bool false)) rfl (by first | exact hd | exact hd.1 | exact hd.2 | exact hd.2.1 | exact hd.2.2 | exact hd.2.2.1 | exact hd.2.2.2 | exact hd.2.2.2.1 | exact hd.2.2.2.2) (by first | exact hd | exact hd.1 | exact hd.2 | exact hd.2.1 | exact hd.2.2 | exact hd.2.2.1 | exact hd.2.2.2 | exact hd.2.2.2.1 | exact hd.2.2.2.2)
  ·intro vals W hW hw hd
   try simp [Region.binds] at hd
   refine ⟨by first | rfl | simp [Region.wanted, yielded, hd], ?_⟩
   exact yields_as (.tmp 19) rfl (by first | exact hd | exact hd.1 | exact hd.2 | exact hd.2.1 | exact hd.2.2 | exact hd.2.2.1 | exact hd.2.2.2 | exact hd.2.2.2.1 | exact hd.2.2.2.2)
 obtain ⟨f0, f1, f2, f3, f4, f5, f6, f7, f8, f9, f10, f11, f12, f13, f14, f15, _⟩ := hF
 simp only [MP.eq_p] at f0 f1 f2 f3 f4 f5 f6 f7 f8 f9 f10 f11 f12 f13 f14 f15
 rw [f15]
 have b1 : Hid (Below w.heap.size w w1) := b0.out.trans (hb1.out.mono b0.out.size)
 clear f0 f1 f2 f3 f4 f5 f6 f7 f8 f9 f10 f11 f12 f13 f14 f15 hb1 b0 s0 G KU RU VU
 go_wp2_with fail
 go_ret
 exact ⟨rfl, b1.out⟩
theorem signTells_of (n : Nat) (hn : n < 2 ^ 256) (p : List Nat) (lp : lowP p) (v : Value) (w : World) (hv : By w v p) (hK : KTab w) (hR : RTab w) :
  Calls Tryz.prog 3 #[bV n, v] w fun e w' => e = .returned (.bool true) ∧ Below w.heap.size w w' :=
 signTells_walk n (mskN n) (pubN n) (frN n p) (bkN n p) (nm (secN n)) v p _ rfl (eqPair _ _ _) (eqSg _ _) (fun w hK => sgNewC n hn w hK) (fun w hR => pairOf_fun n w hR) (fun w hv hK => sgSignC n hn p lp v w hv hK) (fun w hR => signature_fun n p lp w hR) w hv hK hR
end Go.Proofs.YtfknkfninjjgbaaGreatDoor
