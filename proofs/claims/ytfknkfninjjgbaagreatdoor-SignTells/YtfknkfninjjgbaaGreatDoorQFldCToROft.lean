/- Texts that were joined: FldC, ROn, ROft. -/
import Derived.Test.YtfknkfninjjgbaaGreatDoorQDDigPToFeP
import Derived.Test.YtfknkfninjjgbaaGreatDoorQPrimeToIB
import Derived.Test.YtfknkfninjjgbaaGreatDoorQKnToDNum
import Derived.Test.YtfknkfninjjgbaaGreatDoorQCAssToRPt
import Derived.Test.YtfknkfninjjgbaaGreatDoorQRPtS
import Derived.LoopN
/- What package field must keep: its calls' contracts, each as one premise. -/
namespace Go.Proofs.YtfknkfninjjgbaaGreatDoor
open Go.RowKit
set_option linter.unusedSimpArgs false
def FLowC : Prop := ∀ x : Nm, x.ok → ∀ w, Calls Tryz.prog 108 #[N x] w fun e w' => e = .returned (N (nm (x.nat % F.p))) ∧ Below w.heap.size w w'
def FAddC : Prop := ∀ x y : Nm, x.ok → y.ok → ∀ w, Calls Tryz.prog 116 #[N x, N y] w fun e w' => e = .returned (N (nm (F.add x.nat y.nat))) ∧ Below w.heap.size w w'
def FSubC : Prop := ∀ x y : Nm, x.ok → y.ok → ∀ w, Calls Tryz.prog 110 #[N x, N y] w fun e w' => e = .returned (N (nm (F.sub x.nat y.nat))) ∧ Below w.heap.size w w'
def FMulC : Prop := ∀ x y : Nm, x.ok → y.ok → ∀ w, Calls Tryz.prog 115 #[N x, N y] w fun e w' => e = .returned (N (nm (F.mul x.nat y.nat))) ∧ Below w.heap.size w w'
def FInvC : Prop := ∀ x : Nm, x.ok → ∀ w, Calls Tryz.prog 128 #[N x] w fun e w' => e = .returned (N (nm (F.inv x.nat))) ∧ Below w.heap.size w w'
theorem f_nat {n : Nat} (h : n < F.p) : (nm n).nat = n := nm_nat (Nat.lt_trans h F.p_lt)
theorem f_inj {m n : Nat} (hm : m < F.p) (hn : n < F.p) : nm m = nm n ↔ m = n := by
 constructor
 ·intro e
  have := f_nat hm
  rw [e, f_nat hn] at this
  exact this.symm
 ·rintro rfl
  rfl
end Go.Proofs.YtfknkfninjjgbaaGreatDoor

/- The document's points: On; numbers modulo P held against each other; the contracts by numbers. -/
namespace Go.Proofs.YtfknkfninjjgbaaGreatDoor
open Go.RowKit
attribute [local go_sem] World.cell?_alloc_some cell_alloc2 cell_alloc3 cell_alloc4 frozen?_alloc_cells frozen_out
set_option linter.unusedSimpArgs false
theorem ptPoint_n (x y t : Nat) (hx : x < F.p) (hy : y < F.p) (ht : t < F.p) (w : World) : Calls Tryz.prog 27 #[pV x y t] w fun e w' => e = .returned (Wv (nm (F.mul x (F.inv t))) (nm (F.mul y (F.inv t)))) ∧ Below w.heap.size w w' :=
 ptPoint_walk x y t _ _ _ _ _ (I.over_fe t ht) (I.by_fe x _ hx (F.inv_lt _)) (I.by_fe y _ hy (F.inv_lt _)) (I.num_fe _ (F.mul_lt _ _)) (I.num_fe _ (F.mul_lt _ _)) w
theorem ptPlus_n (s t : Cv.Tr) (hs : s.1 < F.p ∧ s.2.1 < F.p ∧ s.2.2 < F.p) (ht : t.1 < F.p ∧ t.2.1 < F.p ∧ t.2.2 < F.p) (w : World) : Calls Tryz.prog 43 #[pV s.1 s.2.1 s.2.2, pV t.1 t.2.1 t.2.2] w fun e w' => e = .returned (pV (Cv.padd s t).1 (Cv.padd s t).2.1 (Cv.padd s t).2.2) ∧ Below w.heap.size w w' := by
 obtain ⟨s1, s2, s3⟩ := hs
 obtain ⟨t1, t2, t3⟩ := ht
 have m := F.mul_lt; have a := F.add_lt; have b := F.sub_lt
 exact ptPlus_walk _ _ _ _ _ _ Cv.d _ _ _ _ _ _ _ _ _ _ _ _ _ _ _ _ _ dOf_fun (I.by_fe _ _ s3 t3) (I.by_fe _ _ s1 t1) (I.by_fe _ _ s2 t2) (I.by_fe _ _ (m _ _) (m _ _)) (I.by_fe _ _ Cv.d_lt (m _ _)) (I.by_fe _ _ (m _ _) (m _ _)) (I.less_fe _ _ (m _ _) (m _ _)) (I.plus_fe _ _ (m _ _) (m _ _)) (I.by_fe _ _ s1 t2) (I.by_fe _ _ s2 t1) (I.plus_fe _ _ (m _ _) (m _ _)) (I.by_fe _ _ (m _ _) (b _ _)) (I.by_fe _ _ (m _ _) (a _ _)) (I.by_fe _ _ (m _ _) (a _ _)) (I.plus_fe _ _ (m _ _) (m _ _)) (I.by_fe _ _ (m _ _) (a _ _)) (I.by_fe _ _ (b _ _) (a _ _)) w
theorem padd_lt (s t : Cv.Tr) : (Cv.padd s t).1 < F.p ∧ (Cv.padd s t).2.1 < F.p ∧ (Cv.padd s t).2.2 < F.p := ⟨F.mul_lt _ _, F.mul_lt _ _, F.mul_lt _ _⟩
end Go.Proofs.YtfknkfninjjgbaaGreatDoor

/- The document's points: PtBase, Often. -/
namespace Go.Proofs.YtfknkfninjjgbaaGreatDoor
open Go.RowKit
attribute [local go_sem] World.cell?_alloc_some cell_alloc2 cell_alloc3 cell_alloc4 frozen?_alloc_cells frozen_out
set_option linter.unusedSimpArgs false
theorem Ow.kblk {w : World} {B g n c : Nat} {xs : List Nat} (h : Ow w B (.slice (some ⟨g, 0, none⟩) n c) xs) : ∃ cur : List Value, KBlk w g cur ∧ ∀ j, j < xs.length → cur[j]? = some (.int .i64 ((xs.getD j 0 : Nat) : Int)) := by
 obtain ⟨_, h' | ⟨g', cap, cur, e, _, hg, _, _, _, ht⟩⟩ := h
 ·cases h'.1
 ·cases e
  refine ⟨cur.toList, KBlk.of (t := 3) (by simpa using hg), fun j hj => ?_⟩
  have h1 : (cur.toList.take (xs.length * 1))[j]? = some (.int .i64 ((xs.getD j 0 : Nat) : Int)) := by
   rw [ht]
   simp [iv, hj, List.getD_eq_getElem?_getD]
  rw [List.getElem?_take] at h1
  split at h1
  ·exact h1
  ·cases h1
theorem base_built : Tryz.prog.built 63 [(0, .agg #[.int .i64 54554, .int .i64 36645, .int .i64 11616, .int .i64 51542, .int .i64 42930, .int .i64 38181, .int .i64 51040, .int .i64 26924, .int .i64 56412, .int .i64 64982, .int .i64 57905, .int .i64 49316, .int .i64 21502, .int .i64 52590, .int .i64 14035, .int .i64 8553]), (1, .agg #[.int .i64 26200, .int .i64 26214, .int .i64 26214, .int .i64 26214, .int .i64 26214, .int .i64 26214, .int .i64 26214, .int .i64 26214, .int .i64 26214, .int .i64 26214, .int .i64 26214, .int .i64 26214, .int .i64 26214, .int .i64 26214, .int .i64 26214, .int .i64 26214]), (2, .agg (fR 1).toArray)] = some (pR Cv.base.1 Cv.base.2 1).toArray := by kernel_rfl
set_option maxRecDepth 20000 in
set_option maxHeartbeats 1000000 in
theorem ptBase_walk (bx by_ : Nat) (BB : Hid (Tryz.prog.built 63 [(0, .agg #[.int .i64 54554, .int .i64 36645, .int .i64 11616, .int .i64 51542, .int .i64 42930, .int .i64 38181, .int .i64 51040, .int .i64 26924, .int .i64 56412, .int .i64 64982, .int .i64 57905, .int .i64 49316, .int .i64 21502, .int .i64 52590, .int .i64 14035, .int .i64 8553]), (1, .agg #[.int .i64 26200, .int .i64 26214, .int .i64 26214, .int .i64 26214, .int .i64 26214, .int .i64 26214, .int .i64 26214, .int .i64 26214, .int .i64 26214, .int .i64 26214, .int .i64 26214, .int .i64 26214, .int .i64 26214, .int .i64 26214, .int .i64 26214, .int .i64 26214]), (2, .agg (fR 1).toArray)] = some (pR bx by_ 1).toArray))
  (S1 : ∀ w, Calls Tryz.prog 58 #[.int .i64 1] w fun e w' => e = .returned (.agg (fR (1)).toArray) ∧ Below w.heap.size w w')
  (w : World) :
  Calls Tryz.prog 25 #[] w fun e w' => e = .returned (pV bx by_ 1) ∧ Below w.heap.size w w' := by
 go_enter Tryz.func25, Tryz.ntmps25
 have s0 : Hid (Kn (w.alloc (.cells #[Value.int IntKind.i64 0, .int .i64 0, .int .i64 0, .int .i64 0, .int .i64 0, .int .i64 0, .int .i64 0, .int .i64 0, .int .i64 0, .int .i64 0, .int .i64 0, .int .i64 0, .int .i64 0, .int .i64 0, .int .i64 0, .int .i64 0, .int .i64 0, .int .i64 0, .int .i64 0, .int .i64 0, .int .i64 0, .int .i64 0, .int .i64 0, .int .i64 0, .int .i64 0, .int .i64 0, .int .i64 0, .int .i64 0, .int .i64 0, .int .i64 0, .int .i64 0, .int .i64 0, .int .i64 0, .int .i64 0, .int .i64 0, .int .i64 0, .int .i64 0, .int .i64 0, .int .i64 0, .int .i64 0, .int .i64 0, .int .i64 0, .int .i64 0, .int .i64 0, .int .i64 0, .int .i64 0, .int .i64 0, .int .i64 0] 63)) [(w.heap.size, pZ)]) := ((Kn.nil w).al pZ 63 rfl)
 have b0 : Hid (Below w.heap.size w (w.alloc (.cells #[Value.int IntKind.i64 0, .int .i64 0, .int .i64 0, .int .i64 0, .int .i64 0, .int .i64 0, .int .i64 0, .int .i64 0, .int .i64 0, .int .i64 0, .int .i64 0, .int .i64 0, .int .i64 0, .int .i64 0, .int .i64 0, .int .i64 0, .int .i64 0, .int .i64 0, .int .i64 0, .int .i64 0, .int .i64 0, .int .i64 0, .int .i64 0, .int .i64 0, .int .i64 0, .int .i64 0, .int .i64 0, .int .i64 0, .int .i64 0, .int .i64 0, .int .i64 0, .int .i64 0, .int .i64 0, .int .i64 0, .int .i64 0, .int .i64 0, .int .i64 0, .int .i64 0, .int .i64 0, .int .i64 0, .int .i64 0, .int .i64 0, .int .i64 0, .int .i64 0, .int .i64 0, .int .i64 0, .int .i64 0, .int .i64 0] 63))) := ((Below.refl _ _).alloc (Nat.le_refl _) _)
 go_wp2_with (first | simp only [zero_pt])
 refine (S1 _).mono ?_
 rintro e w1 ⟨rfl, hb1⟩
 have s1 : Hid (Kn w1 _) := s0.out.up hb1
 have b1 : Hid (Below w.heap.size w w1) := b0.out.trans (hb1.mono b0.out.size)
 have z1 := b1.out.size
 clear hb1 s0 b0
 have s2x : Hid (Kn w1 [(w.heap.size, pZ)]) := s1.out.front 0 rfl
 have b2x : Hid (Below w.heap.size w w1) := b1.out
 have TT2 : Hid (w1.there (w.heap.size) 0 (pR (bx) (by_) (1)).length) := Kn.there s2x.out 0 rfl (by rw [(pR_length (bx) (by_) (1)), pZ_length])
 go_wp2_with (first | refine wp_build3 rfl 63 _ _ _ rfl _ _ _ (pR bx by_ 1) rfl rfl rfl BB.out ?_ | refine I.wp_store_eq rfl 63 _ _ rfl (w.heap.size) 0 (pR (bx) (by_) (1)) rfl rfl TT2.out (info_pR (bx) (by_) (1)) (pR_one (bx) (by_) (1)) ?_)
 intro w2 hw2
 try simp only [Act.put, List.setIfInBounds_toArray, List.set_cons_succ, List.set_cons_zero]
 have s2 : Hid (Kn w2 [(w.heap.size, (pR (bx) (by_) (1)))]) := by rw [hw2.out]; exact Kn.put s2x.out (by rw [(pR_length (bx) (by_) (1)), pZ_length])
 have b2 : Hid (Below w.heap.size w w2) := by rw [hw2.out]; exact I.below_setCells _ _ _ b2x.out (by omega)
 have z2 := b2.out.size
 clear hw2 s2x b2x TT2 s1 b1
 go_wp2_with fail
 exact bodyPost_ret (v := pV bx by_ 1) (I.results_cell (b := w.heap.size) rfl rfl (Kn.rng s2.out 0 rfl) Tryz.underlying63 rfl (info_pR (bx) (by_) (1))) rfl ⟨rfl, b2.out⟩
theorem ptBase_n (w : World) : Calls Tryz.prog 25 #[] w fun e w' => e = .returned (pV Cv.base.1 Cv.base.2 1) ∧ Below w.heap.size w w' := ptBase_walk _ _ base_built (I.small_fe 1 (by decide)) w
/-- What is known of the two fractions at bit k. -/
structure OfI (m n : Nat) (RES : Cv.Tr) (k : Nat) (a t : Cv.Tr) : Prop where
 la : a.1 < F.p ∧ a.2.1 < F.p ∧ a.2.2 < F.p
 lt : t.1 < F.p ∧ t.2.1 < F.p ∧ t.2.2 < F.p
 e : Cv.often (m - k) (n / 2 ^ k) a t = RES
theorem OfI.on {m n k : Nat} {RES a t : Cv.Tr} (h : OfI m n RES k a t) (hk : k < m) (hb : n / 2 ^ k % 2 = 1) : OfI m n RES (k + 1) (Cv.padd a t) (Cv.padd t t) := by
 refine ⟨padd_lt _ _, padd_lt _ _, ?_⟩
 have e := h.e
 rw [show m - k = m - (k + 1) + 1 by omega, Cv.often, if_pos hb, Nat.div_div_eq_div_mul, ← Nat.pow_succ] at e
 exact e
theorem OfI.off {m n k : Nat} {RES a t : Cv.Tr} (h : OfI m n RES k a t) (hk : k < m) (hb : n / 2 ^ k % 2 = 0) : OfI m n RES (k + 1) a (Cv.padd t t) := by
 refine ⟨h.la, padd_lt _ _, ?_⟩
 have e := h.e
 rw [show m - k = m - (k + 1) + 1 by omega, Cv.often, if_neg (by omega), Nat.div_div_eq_div_mul, ← Nat.pow_succ] at e
 exact e
set_option maxRecDepth 20000 in
set_option maxHeartbeats 2000000 in
theorem oft_walk (m n : Nat) (RES : Cv.Tr) (sx sy st : Nat) (av : Option Addr) (L cv : Nat) (hm : m = 16 * L) (hL : L ≤ 16) (h0 : OfI m n RES 0 (0, 1, 1) (sx, sy, st)) (w : World)
  (BF : Hid (∀ W, Below w.heap.size w W → Calls Tryz.prog 59 #[.slice av L cv, .int .i64 (m : Int)] W fun e w' => (e = .returned (.slice (some ⟨W.heap.size, 0, none⟩) m m) ∧ ∃ cur, KBlk w' W.heap.size cur ∧ ∀ j, j < m → cur[j]? = some (.int .i64 ((n / 2 ^ j % 2 : Nat) : Int))) ∧ Below W.heap.size W w')) :
  Calls Tryz.prog 26 #[pV sx sy st, .slice av L cv] w fun e w' => e = .returned (pV RES.1 RES.2.1 RES.2.2) ∧ Below w.heap.size w w' := by
 have H0 : Hid _ := h0
 have S0 := I.small_fe 0 (by decide)
 have S1 := I.small_fe 1 (by decide)
 have e16 : (16 : Int) * (L : Int) = (m : Int) := by omega
 have m0 : (0 : Int) ≤ (m : Int) := by omega
 have m1 : (m : Int) ≤ 256 := by omega
 clear h0 hm hL
 go_enter Tryz.func26, Tryz.ntmps26
 have s0 : Hid (Kn ((w.alloc (.cells (pR (sx) (sy) (st)).toArray 63)).alloc (.cells #[Value.int IntKind.i64 0, .int .i64 0, .int .i64 0, .int .i64 0, .int .i64 0, .int .i64 0, .int .i64 0, .int .i64 0, .int .i64 0, .int .i64 0, .int .i64 0, .int .i64 0, .int .i64 0, .int .i64 0, .int .i64 0, .int .i64 0, .int .i64 0, .int .i64 0, .int .i64 0, .int .i64 0, .int .i64 0, .int .i64 0, .int .i64 0, .int .i64 0, .int .i64 0, .int .i64 0, .int .i64 0, .int .i64 0, .int .i64 0, .int .i64 0, .int .i64 0, .int .i64 0, .int .i64 0, .int .i64 0, .int .i64 0, .int .i64 0, .int .i64 0, .int .i64 0, .int .i64 0, .int .i64 0, .int .i64 0, .int .i64 0, .int .i64 0, .int .i64 0, .int .i64 0, .int .i64 0, .int .i64 0, .int .i64 0] 63)) [(w.heap.size + 1, pZ), (w.heap.size, (pR (sx) (sy) (st)))]) := (((Kn.nil w).al (pR (sx) (sy) (st)) 63 rfl).al pZ 63 (by simp))
 have b0 : Hid (Below w.heap.size w ((w.alloc (.cells (pR (sx) (sy) (st)).toArray 63)).alloc (.cells #[Value.int IntKind.i64 0, .int .i64 0, .int .i64 0, .int .i64 0, .int .i64 0, .int .i64 0, .int .i64 0, .int .i64 0, .int .i64 0, .int .i64 0, .int .i64 0, .int .i64 0, .int .i64 0, .int .i64 0, .int .i64 0, .int .i64 0, .int .i64 0, .int .i64 0, .int .i64 0, .int .i64 0, .int .i64 0, .int .i64 0, .int .i64 0, .int .i64 0, .int .i64 0, .int .i64 0, .int .i64 0, .int .i64 0, .int .i64 0, .int .i64 0, .int .i64 0, .int .i64 0, .int .i64 0, .int .i64 0, .int .i64 0, .int .i64 0, .int .i64 0, .int .i64 0, .int .i64 0, .int .i64 0, .int .i64 0, .int .i64 0, .int .i64 0, .int .i64 0, .int .i64 0, .int .i64 0, .int .i64 0, .int .i64 0] 63))) := (((Below.refl _ _).alloc (Nat.le_refl _) _).alloc (by simp <;> omega) _)
 go_wp2_with (first | simp only [zero_pt])
 refine (S0 _).mono ?_
 rintro e w1 ⟨rfl, hb1⟩
 have s1 : Hid (Kn w1 _) := s0.out.up hb1
 have b1 : Hid (Below w.heap.size w w1) := b0.out.trans (hb1.mono b0.out.size)
 have z1 := b1.out.size
 clear hb1 s0 b0
 go_wp2_with fail
 refine (S1 _).mono ?_
 rintro e w2 ⟨rfl, hb2⟩
 have s2 : Hid (Kn w2 _) := s1.out.up hb2
 have b2 : Hid (Below w.heap.size w w2) := b1.out.trans (hb2.mono b1.out.size)
 have z2 := b2.out.size
 clear hb2 s1 b1
 go_wp2_with fail
 refine (S1 _).mono ?_
 rintro e w3 ⟨rfl, hb3⟩
 have s3 : Hid (Kn w3 _) := s2.out.up hb3
 have b3 : Hid (Below w.heap.size w w3) := b2.out.trans (hb3.mono b2.out.size)
 have z3 := b3.out.size
 clear hb3 s2 b2
 have s4x : Hid (Kn (w3.alloc (.cells #[Value.int IntKind.i64 0, .int .i64 0, .int .i64 0, .int .i64 0, .int .i64 0, .int .i64 0, .int .i64 0, .int .i64 0, .int .i64 0, .int .i64 0, .int .i64 0, .int .i64 0, .int .i64 0, .int .i64 0, .int .i64 0, .int .i64 0, .int .i64 0, .int .i64 0, .int .i64 0, .int .i64 0, .int .i64 0, .int .i64 0, .int .i64 0, .int .i64 0, .int .i64 0, .int .i64 0, .int .i64 0, .int .i64 0, .int .i64 0, .int .i64 0, .int .i64 0, .int .i64 0, .int .i64 0, .int .i64 0, .int .i64 0, .int .i64 0, .int .i64 0, .int .i64 0, .int .i64 0, .int .i64 0, .int .i64 0, .int .i64 0, .int .i64 0, .int .i64 0, .int .i64 0, .int .i64 0, .int .i64 0, .int .i64 0] 63)) [(w3.heap.size, pZ), (w.heap.size + 1, pZ), (w.heap.size, (pR (sx) (sy) (st)))]) := s3.out.al pZ 63 rfl
 have b4x : Hid (Below w.heap.size w (w3.alloc (.cells #[Value.int IntKind.i64 0, .int .i64 0, .int .i64 0, .int .i64 0, .int .i64 0, .int .i64 0, .int .i64 0, .int .i64 0, .int .i64 0, .int .i64 0, .int .i64 0, .int .i64 0, .int .i64 0, .int .i64 0, .int .i64 0, .int .i64 0, .int .i64 0, .int .i64 0, .int .i64 0, .int .i64 0, .int .i64 0, .int .i64 0, .int .i64 0, .int .i64 0, .int .i64 0, .int .i64 0, .int .i64 0, .int .i64 0, .int .i64 0, .int .i64 0, .int .i64 0, .int .i64 0, .int .i64 0, .int .i64 0, .int .i64 0, .int .i64 0, .int .i64 0, .int .i64 0, .int .i64 0, .int .i64 0, .int .i64 0, .int .i64 0, .int .i64 0, .int .i64 0, .int .i64 0, .int .i64 0, .int .i64 0, .int .i64 0] 63))) := b3.out.alloc b3.out.size _
 have g4 : w.heap.size ≤ w3.heap.size := b3.out.size
 have TT4 : Hid ((w3.alloc (.cells #[Value.int IntKind.i64 0, .int .i64 0, .int .i64 0, .int .i64 0, .int .i64 0, .int .i64 0, .int .i64 0, .int .i64 0, .int .i64 0, .int .i64 0, .int .i64 0, .int .i64 0, .int .i64 0, .int .i64 0, .int .i64 0, .int .i64 0, .int .i64 0, .int .i64 0, .int .i64 0, .int .i64 0, .int .i64 0, .int .i64 0, .int .i64 0, .int .i64 0, .int .i64 0, .int .i64 0, .int .i64 0, .int .i64 0, .int .i64 0, .int .i64 0, .int .i64 0, .int .i64 0, .int .i64 0, .int .i64 0, .int .i64 0, .int .i64 0, .int .i64 0, .int .i64 0, .int .i64 0, .int .i64 0, .int .i64 0, .int .i64 0, .int .i64 0, .int .i64 0, .int .i64 0, .int .i64 0, .int .i64 0, .int .i64 0] 63)).there (w3.heap.size) 0 (pR (0) (1) (1)).length) := Kn.there s4x.out 0 rfl (by rw [(pR_length (0) (1) (1)), pZ_length])
 go_wp2_with (first | simp only [zero_pt] | refine wp_build3 rfl 63 _ _ _ rfl (.agg (fR 0).toArray) (.agg (fR 1).toArray) (.agg (fR 1).toArray) (pR 0 1 1) rfl rfl rfl (pt_built 0 1 1) ?_ | simp only [zero_pt] | refine I.wp_store_eq rfl 63 _ _ rfl (w3.heap.size) 0 (pR (0) (1) (1)) rfl rfl TT4.out (info_pR (0) (1) (1)) (pR_one (0) (1) (1)) ?_)
 intro w4 hw4
 try simp only [Act.put, List.setIfInBounds_toArray, List.set_cons_succ, List.set_cons_zero]
 have s4 : Hid (Kn w4 [(w3.heap.size, (pR (0) (1) (1))), (w.heap.size + 1, pZ), (w.heap.size, (pR (sx) (sy) (st)))]) := by rw [hw4.out]; exact Kn.put s4x.out (by rw [(pR_length (0) (1) (1)), pZ_length])
 have b4 : Hid (Below w.heap.size w w4) := by rw [hw4.out]; exact I.below_setCells _ _ _ b4x.out g4
 have z4 := b4.out.size
 clear hw4 s4x b4x TT4 s3 b3
 go_wp2_with fail
 refine (BF.out w4 b4.out).mono ?_
 rintro e w5 ⟨⟨rfl, cur, hcur, hT⟩, hb5⟩
 have HT : Hid _ := hT
 have s5 : Hid (Kn w5 [(w4.heap.size, cur), (w3.heap.size, pR 0 1 1), (w.heap.size + 1, pZ), (w.heap.size, pR sx sy st)]) := s4.out.fresh_of hb5 (Nat.le_refl _) hcur
 have b5 : Hid (Below w.heap.size w w5) := b4.out.trans (hb5.mono b4.out.size)
 have G3 : Hid (w.heap.size ≤ w3.heap.size) := g4
 clear hcur hT hb5 s4 b4 BF
 generalize w4.heap.size = g at *
 generalize w3.heap.size = ko at *
 replace s5 : Hid (Kn w5 [(w.heap.size + 1, pZ), (g, cur), (ko, (pR (0) (1) (1))), (w.heap.size, (pR (sx) (sy) (st)))]) := s5.out.front 2 rfl
 replace s5 : Hid (Kn w5 [(ko, (pR (0) (1) (1))), (w.heap.size + 1, pZ), (g, cur), (w.heap.size, (pR (sx) (sy) (st)))]) := s5.out.front 2 rfl
 replace s5 : Hid (Kn w5 [(w.heap.size, (pR (sx) (sy) (st))), (ko, (pR (0) (1) (1))), (w.heap.size + 1, pZ), (g, cur)]) := s5.out.front 3 rfl
 go_wp2_with fail
 clear S0 S1
 go_loopw [18] (fun i wr => ∃ (k a1 a2 a3 t1 t2 t3 : Nat), k ≤ m ∧ i = .int .i64 (k : Int) ∧ Hid (OfI m n RES k (a1, a2, a3) (t1, t2, t3)) ∧ Hid (Kn wr [(w.heap.size, pR t1 t2 t3), (ko, pR a1 a2 a3), (w.heap.size + 1, pZ), (g, cur)]) ∧ Hid (Below w.heap.size w wr)) (fun i _ => m - (intOf i).toNat)
 case atStart => exact ⟨0, 0, 1, 1, sx, sy, st, by omega, rfl, H0, s5, b5⟩
 case round =>
  clear s5 b5 H0
  obtain ⟨k, a1, a2, a3, t1, t2, t3, hk, rfl, HI, s1, b1⟩ := hrel
  by_cases hk1 : k < m
  ·have k1 : (k : Int) < (m : Int) := by omega
   have k0 : (0 : Int) ≤ (k : Int) := by omega
   have wk : IntKind.i64.wrap ((k : Int) + 1) = (k : Int) + 1 := by rw [IntKind.wrap_i64]; omega
   have K1 : Hid (k < m) := hk1
   have ck := Kn.get s1.out 3 k rfl (HT.out k hk1)
   have PT := ptPlus_n (t1, t2, t3) (t1, t2, t3) HI.out.lt HI.out.lt
   have PA : Hid _ := ptPlus_n (a1, a2, a3) (t1, t2, t3) HI.out.la HI.out.lt
   obtain ⟨u1, u2, u3, hu⟩ : ∃ u1 u2 u3, (u1, u2, u3) = Cv.padd (t1, t2, t3) (t1, t2, t3) := ⟨_, _, _, rfl⟩
   obtain ⟨o1, o2, o3, ho⟩ : ∃ o1 o2 o3, (o1, o2, o3) = Cv.padd (a1, a2, a3) (t1, t2, t3) := ⟨_, _, _, rfl⟩
   rw [← hu] at PT
   rw [← ho] at PA
   have ON : Hid (n / 2 ^ k % 2 = 1 → OfI m n RES (k + 1) (o1, o2, o3) (u1, u2, u3)) := by rw [ho, hu]; exact fun h => HI.out.on hk1 h
   have OFF : Hid (n / 2 ^ k % 2 = 0 → OfI m n RES (k + 1) (a1, a2, a3) (u1, u2, u3)) := by rw [hu]; exact fun h => HI.out.off hk1 h
   simp only [] at PT PA
   clear hu ho hk hk1 HI
   rcases Nat.mod_two_eq_zero_or_one (n / 2 ^ k) with ht | ht
   ·rw [ht] at ck
    have NX : Hid _ := OFF.out ht
    clear ht ON OFF PA
    go_wp2_with (first | refine wp_ldW rfl 63 _ rfl (w.heap.size) 0 rfl (pR (t1) (t2) (t3)) _ (Kn.rng s1.out 0 rfl) Tryz.underlying63 rfl (info_pR (t1) (t2) (t3)) ?_ | refine wp_ldW rfl 61 _ rfl (w.heap.size) 0 rfl (fR (t1)) _ (Kn.rng0 s1.out 0 rfl) Tryz.underlying61 rfl (info_fR (t1)) ?_ | refine wp_ldW rfl 61 _ rfl (w.heap.size) 16 rfl (fR (t2)) _ (Kn.rng1 s1.out 0 rfl) Tryz.underlying61 rfl (info_fR (t2)) ?_ | refine wp_ldW rfl 61 _ rfl (w.heap.size) 32 rfl (fR (t3)) _ (Kn.rng2 s1.out 0 rfl) Tryz.underlying61 rfl (info_fR (t3)) ?_)
    clear ck
    refine (PT _).mono ?_
    rintro e w2 ⟨rfl, hb2⟩
    have s2 : Hid (Kn w2 _) := s1.out.up hb2
    have b2 : Hid (Below w.heap.size w w2) := b1.out.trans (hb2.mono b1.out.size)
    have z2 := b2.out.size
    clear hb2 s1 b1
    have s3x : Hid (Kn w2 [(w.heap.size, (pR (t1) (t2) (t3))), (ko, (pR (a1) (a2) (a3))), (w.heap.size + 1, pZ), (g, cur)]) := s2.out.front 0 rfl
    have b3x : Hid (Below w.heap.size w w2) := b2.out
    have TT3 : Hid (w2.there (w.heap.size) 0 (pR (u1) (u2) (u3)).length) := Kn.there s3x.out 0 rfl (by rw [(pR_length (u1) (u2) (u3)), (pR_length (t1) (t2) (t3))])
    go_wp2_with (first | refine I.wp_store_eq rfl 63 _ _ rfl (w.heap.size) 0 (pR (u1) (u2) (u3)) rfl rfl TT3.out (info_pR (u1) (u2) (u3)) (pR_one (u1) (u2) (u3)) ?_)
    intro w3 hw3
    try simp only [Act.put, List.setIfInBounds_toArray, List.set_cons_succ, List.set_cons_zero]
    have s3 : Hid (Kn w3 [(w.heap.size, (pR (u1) (u2) (u3))), (ko, (pR (a1) (a2) (a3))), (w.heap.size + 1, pZ), (g, cur)]) := by rw [hw3.out]; exact Kn.put s3x.out (by rw [(pR_length (u1) (u2) (u3)), (pR_length (t1) (t2) (t3))])
    have b3 : Hid (Below w.heap.size w w3) := by rw [hw3.out]; exact I.below_setCells _ _ _ b3x.out (by omega)
    have z3 := b3.out.size
    clear hw3 s3x b3x TT3 s2 b2
    go_wp2_with fail
    go_roundw
    case rel => exact ⟨k + 1, a1, a2, a3, u1, u2, u3, K1.out, by first | rfl | go_num, NX, s3, b3⟩
    case measure => have := K1.out; simp [intOf]; omega
   ·rw [ht] at ck
    have NX : Hid _ := ON.out ht
    have PA' := PA.out
    clear ht ON OFF PA
    go_wp2_with (first | refine wp_ldW rfl 63 _ rfl ko 0 rfl (pR (a1) (a2) (a3)) _ (Kn.rng s1.out 1 rfl) Tryz.underlying63 rfl (info_pR (a1) (a2) (a3)) ?_ | refine wp_ldW rfl 61 _ rfl ko 0 rfl (fR (a1)) _ (Kn.rng0 s1.out 1 rfl) Tryz.underlying61 rfl (info_fR (a1)) ?_ | refine wp_ldW rfl 61 _ rfl ko 16 rfl (fR (a2)) _ (Kn.rng1 s1.out 1 rfl) Tryz.underlying61 rfl (info_fR (a2)) ?_ | refine wp_ldW rfl 61 _ rfl ko 32 rfl (fR (a3)) _ (Kn.rng2 s1.out 1 rfl) Tryz.underlying61 rfl (info_fR (a3)) ?_ | refine wp_ldW rfl 63 _ rfl (w.heap.size) 0 rfl (pR (t1) (t2) (t3)) _ (Kn.rng s1.out 0 rfl) Tryz.underlying63 rfl (info_pR (t1) (t2) (t3)) ?_ | refine wp_ldW rfl 61 _ rfl (w.heap.size) 0 rfl (fR (t1)) _ (Kn.rng0 s1.out 0 rfl) Tryz.underlying61 rfl (info_fR (t1)) ?_ | refine wp_ldW rfl 61 _ rfl (w.heap.size) 16 rfl (fR (t2)) _ (Kn.rng1 s1.out 0 rfl) Tryz.underlying61 rfl (info_fR (t2)) ?_ | refine wp_ldW rfl 61 _ rfl (w.heap.size) 32 rfl (fR (t3)) _ (Kn.rng2 s1.out 0 rfl) Tryz.underlying61 rfl (info_fR (t3)) ?_)
    clear ck
    refine (PA' _).mono ?_
    rintro e w2 ⟨rfl, hb2⟩
    have s2 : Hid (Kn w2 _) := s1.out.up hb2
    have b2 : Hid (Below w.heap.size w w2) := b1.out.trans (hb2.mono b1.out.size)
    have z2 := b2.out.size
    clear hb2 s1 b1
    have s3x : Hid (Kn w2 [(ko, (pR (a1) (a2) (a3))), (w.heap.size, (pR (t1) (t2) (t3))), (w.heap.size + 1, pZ), (g, cur)]) := s2.out.front 1 rfl
    have b3x : Hid (Below w.heap.size w w2) := b2.out
    have TT3 : Hid (w2.there ko 0 (pR (o1) (o2) (o3)).length) := Kn.there s3x.out 0 rfl (by rw [(pR_length (o1) (o2) (o3)), (pR_length (a1) (a2) (a3))])
    go_wp2_with (first | refine I.wp_store_eq rfl 63 _ _ rfl ko 0 (pR (o1) (o2) (o3)) rfl rfl TT3.out (info_pR (o1) (o2) (o3)) (pR_one (o1) (o2) (o3)) ?_)
    intro w3 hw3
    try simp only [Act.put, List.setIfInBounds_toArray, List.set_cons_succ, List.set_cons_zero]
    have s3 : Hid (Kn w3 [(ko, (pR (o1) (o2) (o3))), (w.heap.size, (pR (t1) (t2) (t3))), (w.heap.size + 1, pZ), (g, cur)]) := by rw [hw3.out]; exact Kn.put s3x.out (by rw [(pR_length (o1) (o2) (o3)), (pR_length (a1) (a2) (a3))])
    have b3 : Hid (Below w.heap.size w w3) := by rw [hw3.out]; exact I.below_setCells _ _ _ b3x.out (by omega)
    have z3 := b3.out.size
    clear hw3 s3x b3x TT3 s2 b2
    go_wp2_with (first | refine wp_ldW rfl 63 _ rfl (w.heap.size) 0 rfl (pR (t1) (t2) (t3)) _ (Kn.rng s3.out 1 rfl) Tryz.underlying63 rfl (info_pR (t1) (t2) (t3)) ?_ | refine wp_ldW rfl 61 _ rfl (w.heap.size) 0 rfl (fR (t1)) _ (Kn.rng0 s3.out 1 rfl) Tryz.underlying61 rfl (info_fR (t1)) ?_ | refine wp_ldW rfl 61 _ rfl (w.heap.size) 16 rfl (fR (t2)) _ (Kn.rng1 s3.out 1 rfl) Tryz.underlying61 rfl (info_fR (t2)) ?_ | refine wp_ldW rfl 61 _ rfl (w.heap.size) 32 rfl (fR (t3)) _ (Kn.rng2 s3.out 1 rfl) Tryz.underlying61 rfl (info_fR (t3)) ?_)
    refine (PT _).mono ?_
    rintro e w4 ⟨rfl, hb4⟩
    have s4 : Hid (Kn w4 _) := s3.out.up hb4
    have b4 : Hid (Below w.heap.size w w4) := b3.out.trans (hb4.mono b3.out.size)
    have z4 := b4.out.size
    clear hb4 s3 b3
    have s5x : Hid (Kn w4 [(w.heap.size, (pR (t1) (t2) (t3))), (ko, (pR (o1) (o2) (o3))), (w.heap.size + 1, pZ), (g, cur)]) := s4.out.front 1 rfl
    have b5x : Hid (Below w.heap.size w w4) := b4.out
    have TT5 : Hid (w4.there (w.heap.size) 0 (pR (u1) (u2) (u3)).length) := Kn.there s5x.out 0 rfl (by rw [(pR_length (u1) (u2) (u3)), (pR_length (t1) (t2) (t3))])
    go_wp2_with (first | refine I.wp_store_eq rfl 63 _ _ rfl (w.heap.size) 0 (pR (u1) (u2) (u3)) rfl rfl TT5.out (info_pR (u1) (u2) (u3)) (pR_one (u1) (u2) (u3)) ?_)
    intro w5 hw5
    try simp only [Act.put, List.setIfInBounds_toArray, List.set_cons_succ, List.set_cons_zero]
    have s5 : Hid (Kn w5 [(w.heap.size, (pR (u1) (u2) (u3))), (ko, (pR (o1) (o2) (o3))), (w.heap.size + 1, pZ), (g, cur)]) := by rw [hw5.out]; exact Kn.put s5x.out (by rw [(pR_length (u1) (u2) (u3)), (pR_length (t1) (t2) (t3))])
    have b5 : Hid (Below w.heap.size w w5) := by rw [hw5.out]; exact I.below_setCells _ _ _ b5x.out (by omega)
    have z5 := b5.out.size
    clear hw5 s5x b5x TT5 s4 b4
    go_wp2_with fail
    go_roundw
    case rel => exact ⟨k + 1, o1, o2, o3, u1, u2, u3, K1.out, by first | rfl | go_num, NX, s5, b5⟩
    case measure => have := K1.out; simp [intOf]; omega
  ·obtain rfl : k = m := by omega
   have k1 : ¬ (k : Int) < (k : Int) := by omega
   have RE : Hid ((a1, a2, a3) = RES) := by
    have := HI.out.e
    rw [Nat.sub_self] at this
    exact this
   clear hk hk1 HI HT
   have s2x : Hid (Kn wr [(w.heap.size + 1, pZ), (w.heap.size, (pR (t1) (t2) (t3))), (ko, (pR (a1) (a2) (a3))), (g, cur)]) := s1.out.front 2 rfl
   have b2x : Hid (Below w.heap.size w wr) := b1.out
   have TT2 : Hid (wr.there (w.heap.size + 1) 0 (pR (a1) (a2) (a3)).length) := Kn.there s2x.out 0 rfl (by rw [(pR_length (a1) (a2) (a3)), pZ_length])
   go_wp2_with (first | refine wp_ldW rfl 63 _ rfl ko 0 rfl (pR (a1) (a2) (a3)) _ (Kn.rng s1.out 1 rfl) Tryz.underlying63 rfl (info_pR (a1) (a2) (a3)) ?_ | refine wp_ldW rfl 61 _ rfl ko 0 rfl (fR (a1)) _ (Kn.rng0 s1.out 1 rfl) Tryz.underlying61 rfl (info_fR (a1)) ?_ | refine wp_ldW rfl 61 _ rfl ko 16 rfl (fR (a2)) _ (Kn.rng1 s1.out 1 rfl) Tryz.underlying61 rfl (info_fR (a2)) ?_ | refine wp_ldW rfl 61 _ rfl ko 32 rfl (fR (a3)) _ (Kn.rng2 s1.out 1 rfl) Tryz.underlying61 rfl (info_fR (a3)) ?_ | refine I.wp_store_eq rfl 63 _ _ rfl (w.heap.size + 1) 0 (pR (a1) (a2) (a3)) rfl rfl TT2.out (info_pR (a1) (a2) (a3)) (pR_one (a1) (a2) (a3)) ?_)
   intro w2 hw2
   try simp only [Act.put, List.setIfInBounds_toArray, List.set_cons_succ, List.set_cons_zero]
   have s2 : Hid (Kn w2 [(w.heap.size + 1, (pR (a1) (a2) (a3))), (w.heap.size, (pR (t1) (t2) (t3))), (ko, (pR (a1) (a2) (a3))), (g, cur)]) := by rw [hw2.out]; exact Kn.put s2x.out (by rw [(pR_length (a1) (a2) (a3)), pZ_length])
   have b2 : Hid (Below w.heap.size w w2) := by rw [hw2.out]; exact I.below_setCells _ _ _ b2x.out (by omega)
   have z2 := b2.out.size
   clear hw2 s2x b2x TT2 s1 b1
   go_wp2_with fail
   rw [← RE.out]
   exact bodyPost_ret (v := pV a1 a2 a3) (I.results_cell (b := w.heap.size + 1) rfl rfl (Kn.rng s2.out 0 rfl) Tryz.underlying63 rfl (info_pR (a1) (a2) (a3))) rfl ⟨rfl, b2.out⟩
theorem oft_n (n : Nat) (hn : n < 2 ^ 256) (s : Cv.Tr) (hs : s.1 < F.p ∧ s.2.1 < F.p ∧ s.2.2 < F.p) (v : Value) (w : World) (sv : Sl w v (P.dg n)) :
  Calls Tryz.prog 26 #[pV s.1 s.2.1 s.2.2, v] w fun e w' => e = .returned (pV (Cv.often (16 * (P.dg n).length) n (0, 1, 1) s).1 (Cv.often (16 * (P.dg n).length) n (0, 1, 1) s).2.1 (Cv.often (16 * (P.dg n).length) n (0, 1, 1) s).2.2) ∧ Below w.heap.size w w' := by
 have lL : (P.dg n).length ≤ 16 := P.dg_len 16 (Nat.lt_of_lt_of_le hn (by decide))
 obtain ⟨av, cv, rfl⟩ := sv.parts
 refine oft_walk (16 * (P.dg n).length) n _ s.1 s.2.1 s.2.2 av (P.dg n).length cv rfl lL ⟨by decide, hs, by rw [Nat.sub_zero, Nat.pow_zero, Nat.div_one]⟩ w ?_
 refine (fun W hW => ?_ : ∀ W, Below w.heap.size w W → _)
 refine (bits_fun _ _ (P.dg_Dg n) (16 * (P.dg n).length) (by omega) W (Sl.up (xs := P.dg n) sv hW)).mono ?_
 rintro e w' ⟨⟨he, bs, lb, hbs, ob⟩, hb⟩
 obtain ⟨cur, h1, h2⟩ := Ow.kblk ob
 refine ⟨⟨he, cur, h1, fun j hj => ?_⟩, hb⟩
 rw [h2 j (by omega), hbs j hj, P.dv_dg]
end Go.Proofs.YtfknkfninjjgbaaGreatDoor
