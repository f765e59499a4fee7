/- Texts that were joined: HLaw, Fil, HX, UpG, SDig. -/
import Derived.Test.YtfknkfninjjgbaaGreatDoorQUpLToHHash
import Derived.ChangeKeysEq
import Derived.Test.YtfknkfninjjgbaaGreatDoorQBKToCpy
import Derived.Test.YtfknkfninjjgbaaGreatDoorQUpToUpS
import Derived.Test.YtfknkfninjjgbaaGreatDoorQUp3ToSBy
import Derived.Test.YtfknkfninjjgbaaGreatDoorQHLaidToHRS
/- What the laws' own walks need: states in variables, digests held against each other. -/
namespace Go.Proofs.YtfknkfninjjgbaaGreatDoor
open Go.RowKit
set_option linter.unusedSimpArgs false
section
variable {P : Program}
theorem run_equalIn_int (d : Nat) {e : TypeId} {k : IntKind} (hu : P.underlying e = some (.int k)) (a b : Int) (w : World) : (Op.equalIn (d + 1) e (.int k a) (.int k b)).run P w = .ok (a == b) w := by
 simp [Op.equalIn, run_underlying hu]
theorem run_eqItems_ints (d : Nat) {e : TypeId} {k : IntKind} (hu : P.underlying e = some (.int k)) (hp : P.plainKey e = true) (f g : Nat → Int) (X Y : Array Value) (w : World) :
  ∀ is : List Nat, (∀ i ∈ is, X[i]? = some (.int k (f i))) → (∀ i ∈ is, Y[i]? = some (.int k (g i))) → (Op.eqItems (d + 1) e 1 X Y is).run P w = .ok (is.all fun i => f i == g i) w
 | [], _, _ => by simp [Op.eqItems]
 | i :: is, hX, hY => by
  have p1 := run_part_plain w hp (hX i (by simp))
  have p2 := run_part_plain w hp (hY i (by simp))
  have ih := run_eqItems_ints d hu hp f g X Y w is (fun j hj => hX j (by simp [hj])) (fun j hj => hY j (by simp [hj]))
  simp only [Op.eqItems, Sem.run_bind, Nat.mul_one, p1, p2, Result.andThen_ok, run_equalIn_int d hu]
  cases h : (f i == g i)
  ·simp [h]
  ·simp [h, ih]
theorem run_eql_ints {t e : TypeId} {n : Nat} {i : TypeInfo} {k : IntKind} (ht : P.underlying t = some (.array n e)) (hi : P.info? e = some i) (hu : P.underlying e = some (.int k)) (hp : P.plainKey e = true) (hc : P.cellsOf e = 1)
  (f g : Nat → Int) (X Y : Array Value) (hX : ∀ j, j < n → X[j]? = some (.int k (f j))) (hY : ∀ j, j < n → Y[j]? = some (.int k (g j))) (w : World) :
  (binOp .eql t (.agg X) (.agg Y)).run P w = .ok (.bool ((List.range n).all fun j => f j == g j)) w := by
 simp only [binOp]
 have h := run_equalIn_array w 9999 X Y ht hi
 rw [hc, run_eqItems_ints 9998 hu hp f g X Y w _ (fun j hj => hX j (List.mem_range.1 hj)) (fun j hj => hY j (List.mem_range.1 hj))] at h
 simp [Op.equal, Op.maxDepth, h]
end
/-- The state of a text lies in block k. -/
def StAt (w : World) (k : Nat) (H : R8) (n : Nat) (p : List Nat) : Prop := Blk w k (cS (wordsS H p) (restS p) (cntS n p))
theorem StAt.up {W w1 : World} {k B : Nat} {H : R8} {n : Nat} {p : List Nat} (h : StAt W k H n p) (hb : Below B W w1) (hB : k < B) : StAt w1 k H n p := Blk.up h hb hB
theorem StAt.lt {W : World} {k : Nat} {H : R8} {n : Nat} {p : List Nat} (h : StAt W k H n p) : k < W.heap.size := Blk.lt h
end Go.Proofs.YtfknkfninjjgbaaGreatDoor

/- Structs and rows that are built of parts: what lies where. -/
namespace Go.Proofs.YtfknkfninjjgbaaGreatDoor
open Go.RowKit
set_option linter.unusedSimpArgs false
end Go.Proofs.YtfknkfninjjgbaaGreatDoor

/- Small laws that marks and trees share: bytes of digests; structs and slices that are built; an array sliced whole. -/
namespace Go.Proofs.YtfknkfninjjgbaaGreatDoor
open Go.RowKit
set_option linter.unusedSimpArgs false
theorem dbyte_lt (H : R8) (k : Nat) : dbyte H k < 256 := by
 unfold dbyte
 omega
theorem sumS_low (p : List Nat) : ∀ x ∈ sumS p, x < 256 := by
 intro x hx
 unfold sumS digS at hx
 obtain ⟨j, _, rfl⟩ := List.mem_map.1 hx
 exact dbyte_lt _ _
end Go.Proofs.YtfknkfninjjgbaaGreatDoor

/- A drawn region in which some operations may be taken first (they yield their value in every world, and each other one waits for them or is apart from them), and the others then come one by one. Over any program. -/
namespace Go.Proofs.YtfknkfninjjgbaaGreatDoor
open Go.RowKit
section
variable {P : Program} {ops : Array Oper} {Q : Exit → Act → World → Prop}
def firstB (ops : Array Oper) (listed : Array Bool) (i : Nat) : Bool := match ops[i]? with
 | some oi => (Region.ready .any ops listed).contains i && ((List.range ops.size).all fun j => (j == i) || listed.getD j true || (match ops[j]? with | some oj => (oj.after.any fun e => Region.binds .any e && (e.on == i)) || oi.apart ops oj | none => true))
 | none => false
theorem wp_first {i : Nat} {oi : Oper} {v : Value} {fuel : Nat} {listed : Array Bool} {a : Act} {w : World} (hi : ops[i]? = some oi) (hB : firstB ops listed i = true) (hN : Region.noSelect ops = true) (hQp : ∀ c a d v w, Q (.panic c) (a.put d v) w → Q (.panic c) a w) (hy : Yields P ops oi v a)
  (K : wpAny P .any ops Q fuel (listed.setIfInBounds i true) (a.put oi.dst v) w) : wpAny P .any ops Q (fuel + 1) listed a w := by
 unfold firstB at hB
 simp only [hi, Bool.and_eq_true, List.all_eq_true, List.mem_range] at hB
 obtain ⟨h1, h2⟩ := hB
 refine wpAny_first hi (Region.noSelect_spec hN) (fun c a w h => hQp c a _ _ w h) fuel listed a w ?_ (by simpa using h1) hy K
 intro j oj hoj hne hun hno
 have hlt : j < ops.size := (Array.getElem?_eq_some_iff.1 hoj).1
 have := h2 j hlt
 rw [show (j == i) = false by simp [hne], Bool.false_or, hun, Bool.false_or] at this
 simp only [hoj, Bool.or_eq_true] at this
 rcases this with h | h
 ·obtain ⟨e, he, hb⟩ := Array.any_eq_true'.1 h
  simp only [Bool.and_eq_true, beq_iff_eq] at hb
  exact absurd hb.2 (hno e he hb.1)
 ·exact h
def pathB (ops : Array Oper) : Array Bool → List Nat → Bool
 | listed, [] => (Region.ready .any ops listed).isEmpty
 | listed, j :: js => (Region.ready .any ops listed == [j]) && pathB ops (listed.setIfInBounds j true) js
theorem wpAny_path : ∀ (js : List Nat) (l : List Oper) (listed : Array Bool) (a : Act) (w : World), js.map (fun j => ops[j]?) = l.map some → pathB ops listed js = true → wpList P ops Q l a w → wpAny P .any ops Q js.length listed a w
 | [], [], _, _, _, _, hB, h => wpAny_done (by simpa [pathB] using hB) h _
 | j :: js, o :: l, listed, a, w, hl, hB, h => by
  simp only [List.map_cons, List.cons.injEq] at hl
  simp only [pathB, Bool.and_eq_true, beq_iff_eq] at hB
  obtain ⟨hr, hB'⟩ := hB
  refine wpAny_all (fuel := js.length) hr (by simp) fun i hi => ?_
  have hi : i = j := by simpa using hi
  subst hi
  have ih := fun a w => wpAny_path js l _ a w hl.2 hB'
  have h1 : wpOp P ops Q i (wpList P ops Q l) a w := by unfold wpOp; simp only [hl.1]; exact h
  exact wpOp_mono ih h1
 | [], _ :: _, _, _, _, hl, _, _ => by simp at hl
 | _ :: _, [], _, _, _, hl, _, _ => by simp at hl
/-- Two are taken first, then the others, one by one. -/
theorem wp_region_two {id : Nat} {a : Act} {w : World} {l : List Oper} (i1 i2 : Nat) (js : List Nat) (r : List Oper) {o1 o2 : Oper} (v1 v2 : Value) (hm : P.follows .mixedOrders = true) (hN : Region.noSelect l.toArray = true) (hQp : ∀ c a d v w, Q (.panic c) (a.put d v) w → Q (.panic c) a w)
  (h1 : l.toArray[i1]? = some o1) (h2 : l.toArray[i2]? = some o2) (hB1 : firstB l.toArray (Array.replicate l.length false) i1 = true) (hB2 : firstB l.toArray ((Array.replicate l.length false).setIfInBounds i1 true) i2 = true) (hl : js.length + 1 + 1 = l.length)
  (hr : js.map (fun j => l.toArray[j]?) = r.map some) (hB : pathB l.toArray (((Array.replicate l.length false).setIfInBounds i1 true).setIfInBounds i2 true) js = true)
  (y1 : Yields P l.toArray o1 v1 a) (y2 : Yields P l.toArray o2 v2 (a.put o1.dst v1)) (h : ∀ w', Hid (Below w.heap.size w w') → w'.heap = w.heap → wpList P l.toArray Q r ((a.put o1.dst v1).put o2.dst v2) w') : (Code.region id l.toArray true).wp P Q a w := by
 refine wp_region_any hm ?_
 have e : l.toArray.size = js.length + 1 + 1 := by rw [List.size_toArray, hl]
 have k := wp_first (fuel := js.length + 1) h1 hB1 hN hQp y1 (wp_first (fuel := js.length) h2 hB2 hN hQp y2 (wpAny_path js r _ _ { w with drawn := w.drawn + 1 } hr hB (h _ ((Below.refl _ _).drew) rfl)))
 rw [hl] at k
 simpa using k
end
end Go.Proofs.YtfknkfninjjgbaaGreatDoor

/- The digest of bytes as a number: package scalar's, and the document's. -/
namespace Go.Proofs.YtfknkfninjjgbaaGreatDoor
open Go.RowKit
set_option linter.unusedSimpArgs false
attribute [local go_sem] World.cell?_alloc_some cell_alloc2 cell_alloc3 cell_alloc4 frozen?_alloc_cells frozen_out
theorem S.low_two {l h : Nat} {p : List Nat} (hl : l < 256) (hh : h < 256) (lp : ∀ x ∈ p, x < 256) : ∀ x ∈ l :: h :: p, x < 256 := fun x hx => by
 rcases List.mem_cons.1 hx with rfl | hx
 ·exact hl
 ·rcases List.mem_cons.1 hx with rfl | hx
  ·exact hh
  ·exact lp x hx
theorem By.pair2 (w : World) (l h : Nat) : By (w.alloc (.cells #[.int .u8 (l : Int), .int .u8 (h : Int)] 5)) (.slice (some ⟨w.heap.size, 0, none⟩) 2 2) [l, h] :=
 By.of_cells (b := w.heap.size) (o := 0) (c := 2) (xs := [l, h]) (by simp) fun j hj => by
  match j, hj with
  | 0, _ => simp [go_sem, b8]
  | 1, _ => simp [go_sem, b8]
set_option maxRecDepth 20000 in
set_option maxHeartbeats 1000000 in
theorem lab_walk (l h n : Nat) (p : List Nat) (sv0 sv1 sv2 v : Value)
  (N1 : ∀ w, Calls Tryz.prog 16 #[] w fun e w' => e = .returned sv0 ∧ Below w.heap.size w w')
  (W1 : Hid (∀ v w, By w v [l, h] → KTab w → Calls Tryz.prog 17 #[sv0, v] w fun e w' => e = .returned sv1 ∧ Below w.heap.size w w'))
  (W2 : Hid (∀ w, By w v p → KTab w → Calls Tryz.prog 17 #[sv1, v] w fun e w' => e = .returned sv2 ∧ Below w.heap.size w w'))
  (S1 : Hid (∀ w, KTab w → Calls Tryz.prog 18 #[sv2] w fun e w' => e = .returned (bV n) ∧ Below w.heap.size w w'))
  (w : World) (hv : By w v p) (hT : KTab w) :
  Calls Tryz.prog 47 #[.int .u8 (l : Int), .int .u8 (h : Int), v] w fun e w' => e = .returned (bV n) ∧ Below w.heap.size w w' := by
 have HV : Hid (By w v p) := hv
 have HT : Hid (KTab w) := hT
 clear hv hT
 go_enter Tryz.func47, Tryz.ntmps47
 have s0 : Hid (Kn (w.alloc (.cells #[Value.int IntKind.u8 0, .int .u8 0, .int .u8 0, .int .u8 0, .int .u8 0, .int .u8 0, .int .u8 0, .int .u8 0, .int .u8 0, .int .u8 0, .int .u8 0, .int .u8 0, .int .u8 0, .int .u8 0, .int .u8 0, .int .u8 0, .int .u8 0, .int .u8 0, .int .u8 0, .int .u8 0, .int .u8 0, .int .u8 0, .int .u8 0, .int .u8 0, .int .u8 0, .int .u8 0, .int .u8 0, .int .u8 0, .int .u8 0, .int .u8 0, .int .u8 0, .int .u8 0] 22)) [(w.heap.size, bZ)]) := ((Kn.nil w).al bZ 22 rfl)
 have b0 : Hid (Below w.heap.size w (w.alloc (.cells #[Value.int IntKind.u8 0, .int .u8 0, .int .u8 0, .int .u8 0, .int .u8 0, .int .u8 0, .int .u8 0, .int .u8 0, .int .u8 0, .int .u8 0, .int .u8 0, .int .u8 0, .int .u8 0, .int .u8 0, .int .u8 0, .int .u8 0, .int .u8 0, .int .u8 0, .int .u8 0, .int .u8 0, .int .u8 0, .int .u8 0, .int .u8 0, .int .u8 0, .int .u8 0, .int .u8 0, .int .u8 0, .int .u8 0, .int .u8 0, .int .u8 0, .int .u8 0, .int .u8 0] 22))) := ((Below.refl _ _).alloc (Nat.le_refl _) _)
 go_wp2_with (first | simp only [zero_b32])
 refine (N1 _).mono ?_
 rintro e w1 ⟨rfl, hb1⟩
 have s1 : Hid (Kn w1 _) := s0.out.up hb1
 have b1 : Hid (Below w.heap.size w w1) := b0.out.trans (hb1.mono b0.out.size)
 have z1 := b1.out.size
 clear hb1 s0 b0
 go_wp2_with fail
 have s2 : Hid (Kn (w1.alloc (.cells #[.int .u8 (l : Int), .int .u8 (h : Int)] 5)) [(w.heap.size, bZ)]) := s1.out.up ((Below.refl _ _).alloc (Nat.le_refl _) _)
 have b2 : Hid (Below w.heap.size w (w1.alloc (.cells #[.int .u8 (l : Int), .int .u8 (h : Int)] 5))) := b1.out.alloc b1.out.size _
 have Y2 := By.pair2 w1 l h
 clear s1 b1
 refine (W1.out _ _ Y2 (HT.out.up b2.out HT.out.pos)).mono ?_
 rintro e w3 ⟨rfl, hb3⟩
 have s3 : Hid (Kn w3 _) := s2.out.up hb3
 have b3 : Hid (Below w.heap.size w w3) := b2.out.trans (hb3.mono b2.out.size)
 have z3 := b3.out.size
 clear hb3 s2 b2
 clear Y2
 go_wp2_with fail
 refine (W2.out _ (HV.out.up b3.out (Nat.le_refl _)) (HT.out.up b3.out HT.out.pos)).mono ?_
 rintro e w4 ⟨rfl, hb4⟩
 have s4 : Hid (Kn w4 _) := s3.out.up hb4
 have b4 : Hid (Below w.heap.size w w4) := b3.out.trans (hb4.mono b3.out.size)
 have z4 := b4.out.size
 clear hb4 s3 b3
 go_wp2_with fail
 refine (S1.out _ (HT.out.up b4.out HT.out.pos)).mono ?_
 rintro e w5 ⟨rfl, hb5⟩
 have s5 : Hid (Kn w5 _) := s4.out.up hb5
 have b5 : Hid (Below w.heap.size w w5) := b4.out.trans (hb5.mono b4.out.size)
 have z5 := b5.out.size
 clear hb5 s4 b4
 have s6x : Hid (Kn w5 [(w.heap.size, bZ)]) := s5.out.front 0 rfl
 have b6x : Hid (Below w.heap.size w w5) := b5.out
 have TT6 : Hid (w5.there (w.heap.size) 0 (bR (n)).length) := Kn.there s6x.out 0 rfl (by rw [(bR_length (n)), bZ_length])
 go_wp2_with (first | refine I.wp_store_eq rfl 22 _ _ rfl (w.heap.size) 0 (bR (n)) rfl rfl TT6.out (info_bR (n)) (bR_one (n)) ?_)
 intro w6 hw6
 try simp only [Act.put, List.setIfInBounds_toArray, List.set_cons_succ, List.set_cons_zero]
 have s6 : Hid (Kn w6 [(w.heap.size, (bR (n)))]) := by rw [hw6.out]; exact Kn.put s6x.out (by rw [(bR_length (n)), bZ_length])
 have b6 : Hid (Below w.heap.size w w6) := by rw [hw6.out]; exact I.below_setCells _ _ _ b6x.out (by omega)
 have z6 := b6.out.size
 clear hw6 s6x b6x TT6 s5 b5
 go_wp2_with fail
 exact bodyPost_ret (v := bV n) (I.results_cell (b := w.heap.size) rfl rfl (Kn.rng s6.out 0 rfl) Tryz.underlying22 rfl (info_bR (n))) rfl ⟨rfl, b6.out⟩
theorem vB_num {xs : List Nat} (hl : xs.length = 32) (lo : ∀ x ∈ xs, x < 256) : vB xs = bV (S.le xs) := by
 show Value.agg _ = Value.agg _
 rw [S.row hl lo]
theorem lab_fun (l h : Nat) (hl : l < 256) (hh : h < 256) (p : List Nat) (lp : ∀ x ∈ p, x < 256) (zp : p.length ≤ 500000000000000) (v : Value) (w : World) (hv : By w v p) (hT : KTab w) :
  Calls Tryz.prog 47 #[.int .u8 (l : Int), .int .u8 (h : Int), v] w fun e w' => e = .returned (bV (S.le (sumS (l :: h :: p)))) ∧ Below w.heap.size w w' := by
 have lo := S.low_two hl hh lp
 have l2 : ∀ x ∈ [l, h], x < 256 := S.low_two hl hh (by simp)
 have S1 := sum_fun IV 0 rfl (l :: h :: p) lo
 refine lab_walk l h _ p _ (stV IV 0 [l, h]) (stV IV 0 (l :: h :: p)) v new_fun (fun v w hv hT => write_fun IV 0 rfl [] [l, h] (by simp) l2 (by simp) v w hv hT) (fun w hv hT => write_fun IV 0 rfl [l, h] p l2 lp (by omega) v w hv hT) (fun w hT => ?_) w hv hT
 have := S1 w hT
 rw [← vB_num (sumS_length _) (sumS_low _)]
 exact this
set_option maxRecDepth 20000 in
set_option maxHeartbeats 1000000 in
theorem sDig_walk (l a b : Nat) (q : Nm) (p : List Nat) (v : Value)
  (LA : Hid (∀ w, By w v p → KTab w → Calls Tryz.prog 47 #[.int .u8 (l : Int), .int .u8 0, v] w fun e w' => e = .returned (bV a) ∧ Below w.heap.size w w'))
  (LB : Hid (∀ w, By w v p → KTab w → Calls Tryz.prog 47 #[.int .u8 (l : Int), .int .u8 1, v] w fun e w' => e = .returned (bV b) ∧ Below w.heap.size w w'))
  (HF : ∀ w, Calls Tryz.prog 46 #[.agg (bR (a)).toArray, .agg (bR (b)).toArray] w fun e w' => e = .returned (N q) ∧ Below w.heap.size w w')
  (w : World) (hv : By w v p) (hT : KTab w) :
  Calls Tryz.prog 15 #[.int .u8 (l : Int), v] w fun e w' => e = .returned (N q) ∧ Below w.heap.size w w' := by
 have HV : Hid (By w v p) := hv
 have HT : Hid (KTab w) := hT
 clear hv hT
 go_enter Tryz.func15, Tryz.ntmps15
 have s0 : Hid (Kn (kz4 w) [(w.heap.size, zz4)]) := ((Kn.nil w).al zz4 26 rfl)
 have b0 : Hid (Below w.heap.size w (kz4 w)) := ((Below.refl _ _).alloc (Nat.le_refl _) _)
 go_wp2_with fail
 refine (LA.out _ (HV.out.up b0.out (Nat.le_refl _)) (HT.out.up b0.out HT.out.pos)).mono ?_
 rintro e w1 ⟨rfl, hb1⟩
 have s1 : Hid (Kn w1 _) := s0.out.up hb1
 have b1 : Hid (Below w.heap.size w w1) := b0.out.trans (hb1.mono b0.out.size)
 have z1 := b1.out.size
 clear hb1 s0 b0
 go_wp2_with fail
 refine (LB.out _ (HV.out.up b1.out (Nat.le_refl _)) (HT.out.up b1.out HT.out.pos)).mono ?_
 rintro e w2 ⟨rfl, hb2⟩
 have s2 : Hid (Kn w2 _) := s1.out.up hb2
 have b2 : Hid (Below w.heap.size w w2) := b1.out.trans (hb2.mono b1.out.size)
 have z2 := b2.out.size
 clear hb2 s1 b1
 go_wp2_with fail
 refine (HF _).mono ?_
 rintro e w3 ⟨rfl, hb3⟩
 have s3 : Hid (Kn w3 _) := s2.out.up hb3
 have b3 : Hid (Below w.heap.size w w3) := b2.out.trans (hb3.mono b2.out.size)
 have z3 := b3.out.size
 clear hb3 s2 b2
 have uro_0 : w3.cell? ⟨w.heap.size, 0, none⟩ = some (.int .u64 0) := Kn.get s3.out 0 0 rfl rfl
 have uro_1 : w3.cell? ⟨w.heap.size, 1, none⟩ = some (.int .u64 0) := Kn.get s3.out 0 1 rfl rfl
 have uro_2 : w3.cell? ⟨w.heap.size, 2, none⟩ = some (.int .u64 0) := Kn.get s3.out 0 2 rfl rfl
 have uro_3 : w3.cell? ⟨w.heap.size, 3, none⟩ = some (.int .u64 0) := Kn.get s3.out 0 3 rfl rfl
 have uro_z : ∀ j, w3.frozen? ⟨w.heap.size, j, none⟩ = false := Kn.fz s3.out 0 rfl
 have s4 : Hid (Kn (st4 w3 (w.heap.size) (q)) [(w.heap.size, (c4 (q)))]) := Kn.st4 (L := []) (s3.out.front 0 rfl) (q)
 have b4 : Hid (Below w.heap.size w (st4 w3 (w.heap.size) (q))) := below_st4 b3.out (by omega)
 clear s3 b3
 go_wp2_with fail
 clear uro_0 uro_1 uro_2 uro_3 uro_z
 have urr_0 : (st4 w3 (w.heap.size) (q)).cell? ⟨w.heap.size, 0, none⟩ = some (.int .u64 (q).a) := Kn.get s4.out 0 0 rfl rfl
 have urr_1 : (st4 w3 (w.heap.size) (q)).cell? ⟨w.heap.size, 1, none⟩ = some (.int .u64 (q).b) := Kn.get s4.out 0 1 rfl rfl
 have urr_2 : (st4 w3 (w.heap.size) (q)).cell? ⟨w.heap.size, 2, none⟩ = some (.int .u64 (q).c) := Kn.get s4.out 0 2 rfl rfl
 have urr_3 : (st4 w3 (w.heap.size) (q)).cell? ⟨w.heap.size, 3, none⟩ = some (.int .u64 (q).d) := Kn.get s4.out 0 3 rfl rfl
 refine bodyPost_ret (v := N q) ?_ rfl ⟨rfl, b4.out⟩
 show (results Tryz.f15 _).run Tryz.prog (st4 w3 (w.heap.size) (q)) = .ok _ (st4 w3 (w.heap.size) (q))
 clear s4 b4
 generalize (st4 w3 (w.heap.size) (q)) = W9 at *
 simp [results, Tryz.results15, go_sem, urr_0, urr_1, urr_2, urr_3]
theorem b8_inj {xs ys : List Nat} (h : xs.map b8 = ys.map b8) : xs = ys := List.map_inj_right (fun x y e => by
 have := congrArg (fun v => match v with | .int _ n => n | _ => 0) e
 exact Int.ofNat.inj this) |>.1 h
/-- The bytes of both digests. -/
def S.dig (l : Nat) (p : List Nat) : List Nat := sumS (l :: 0 :: p) ++ sumS (l :: 1 :: p)
theorem S.dig_length (l : Nat) (p : List Nat) : (S.dig l p).length = 64 := by rw [S.dig, List.length_append, sumS_length, sumS_length]
theorem S.dig_low (l : Nat) (p : List Nat) : ∀ x ∈ S.dig l p, x < 256 := low_app (sumS_low _) (sumS_low _)
theorem S.dig_le (l : Nat) (p : List Nat) : S.le (S.dig l p) = S.le (sumS (l :: 0 :: p)) + 2 ^ 256 * S.le (sumS (l :: 1 :: p)) := by
 rw [S.dig, S.le_append, sumS_length, show (256 : Nat) ^ 32 = 2 ^ 256 by decide]
theorem sDig_fun (l : Nat) (hl : l < 256) (p : List Nat) (lp : ∀ x ∈ p, x < 256) (zp : p.length ≤ 500000000000000) (v : Value) (w : World) (hv : By w v p) (hT : KTab w) :
  Calls Tryz.prog 15 #[.int .u8 (l : Int), v] w fun e w' => e = .returned (N (nm (S.le (S.dig l p) % Cv.ord))) ∧ Below w.heap.size w w' := by
 rw [S.dig_le]
 exact sDig_walk l _ _ _ p v (fun w hv hT => lab_fun l 0 hl (by decide) p lp zp v w hv hT) (fun w hv hT => lab_fun l 1 hl (by decide) p lp zp v w hv hT) (sHalves_fun (S.low (sumS_length _) (sumS_low _)) (S.low (sumS_length _) (sumS_low _))) w hv hT
theorem wp_convT {ops : Array Oper} {rest : List Oper} {o : Oper} {a : Act} {Q : Exit → Act → World → Prop} {w : World} (hgd : o.guard = none) (x : Operand)
  (ho : o.op = .convert 23 9 x) (u : Value) (xs : List Nat) (t : ByteArray) (ht : sOf xs = t) (hx : a.eval x = u) (h : By w u xs) (hK : wpList Tryz.prog ops Q rest (a.put o.dst (.string t)) w) : wpList Tryz.prog ops Q (o :: rest) a w := by
 subst ht
 exact wp_conv hgd x ho u xs hx h hK
theorem exec_all32 {o : Oper} {a : Act} (x : Operand) (ho : o.op = .slice 22 x none none none) (b : Nat) (hx : a.eval x = .pointer (some ⟨b, 0, none⟩)) (W : World) : (execOp a.eval o).run Tryz.prog W = .ok (.value (.slice (some ⟨b, 0, none⟩) 32 32)) W := by
 have e1 := slice_all u_b32 u_b32r (by decide) b 0 W
 unfold execOp
 simp [ho, hx, e1]
set_option maxRecDepth 20000 in
set_option maxHeartbeats 1000000 in
theorem rDig_walk (l a b D R O : Nat) (xs ys : List Nat) (u0 u1 us t0 t1 : ByteArray) (hxs : S.by a = xs) (hys : S.by b = ys) (lx : xs.length = 32) (ly : ys.length = 32)
  (U0 : Hid (sOf [l, 0] = u0)) (U1 : Hid (sOf [l, 1] = u1)) (C0 : Hid (u0 ++ us = t0)) (C1 : Hid (u1 ++ us = t1)) (z0 : ¬ 9223372036854775807 < u0.size + us.size) (z1 : ¬ 9223372036854775807 < u1.size + us.size)
  (S0 : Hid (∀ w, RTab w → Calls Tryz.prog 23 #[.string t0] w fun e w' => e = .returned (bV a) ∧ Below w.heap.size w w'))
  (S1 : Hid (∀ w, RTab w → Calls Tryz.prog 23 #[.string t1] w fun e w' => e = .returned (bV b) ∧ Below w.heap.size w w'))
  (NB : Hid (∀ v w, By w v (xs ++ ys) → Calls Tryz.prog 53 #[v] w fun e w' => (∃ v', e = .returned v' ∧ Sl w' v' (P.dg D)) ∧ Below w.heap.size w w'))
  (PR : Hid (∀ w, Calls Tryz.prog 37 #[] w fun e w' => (∃ v', e = .returned v' ∧ Sl w' v' (P.dg O)) ∧ Below w.heap.size w w'))
  (RS : Hid (∀ u v w, Sl w u (P.dg D) → Sl w v (P.dg O) → Calls Tryz.prog 33 #[u, v] w fun e w' => (∃ v', e = .returned v' ∧ Sl w' v' (P.dg R)) ∧ Below w.heap.size w w'))
  (w : World) (hT : RTab w) :
  Calls Tryz.prog 21 #[.int .u8 (l : Int), .string us] w fun e w' => (∃ v', e = .returned v' ∧ Sl w' v' (P.dg R)) ∧ Below w.heap.size w w' := by
 have HT : Hid (RTab w) := hT
 have HX : Hid _ := hxs
 have HY : Hid _ := hys
 have LX : Hid _ := lx
 have LY : Hid _ := ly
 have Y0 := By.pair2 w l 0
 clear hT hxs hys lx ly
 go_enter Tryz.func21, Tryz.ntmps21
 have s0 : Hid (Kn w []) := (Kn.nil w)
 have b0 : Hid (Below w.heap.size w w) := (Below.refl _ _)
 go_wp2_with (first | refine wp_convT rfl _ rfl _ [l, 0] u0 U0.out rfl Y0 ?_)
 rw [C0.out]
 clear Y0
 have s1 : Hid (Kn (w.alloc (.cells #[.int .u8 (l : Int), .int .u8 0] 5)) []) := s0.out.up ((Below.refl _ _).alloc (Nat.le_refl _) _)
 have b1 : Hid (Below w.heap.size w (w.alloc (.cells #[.int .u8 (l : Int), .int .u8 0] 5))) := (Below.refl _ _).alloc (Nat.le_refl _) _
 clear s0 b0
 refine (S0.out _ (HT.out.up b1.out HT.out.pos)).mono ?_
 rintro e w2 ⟨rfl, hb2⟩
 have s2 : Hid (Kn w2 _) := s1.out.up hb2
 have b2 : Hid (Below w.heap.size w w2) := b1.out.trans (hb2.mono b1.out.size)
 have z2 := b2.out.size
 clear hb2 s1 b1
 have s3x : Hid (Kn (w2.alloc (.cells #[Value.int IntKind.u8 0, .int .u8 0, .int .u8 0, .int .u8 0, .int .u8 0, .int .u8 0, .int .u8 0, .int .u8 0, .int .u8 0, .int .u8 0, .int .u8 0, .int .u8 0, .int .u8 0, .int .u8 0, .int .u8 0, .int .u8 0, .int .u8 0, .int .u8 0, .int .u8 0, .int .u8 0, .int .u8 0, .int .u8 0, .int .u8 0, .int .u8 0, .int .u8 0, .int .u8 0, .int .u8 0, .int .u8 0, .int .u8 0, .int .u8 0, .int .u8 0, .int .u8 0] 22)) [(w2.heap.size, bZ)]) := s2.out.al bZ 22 rfl
 have b3x : Hid (Below w.heap.size w (w2.alloc (.cells #[Value.int IntKind.u8 0, .int .u8 0, .int .u8 0, .int .u8 0, .int .u8 0, .int .u8 0, .int .u8 0, .int .u8 0, .int .u8 0, .int .u8 0, .int .u8 0, .int .u8 0, .int .u8 0, .int .u8 0, .int .u8 0, .int .u8 0, .int .u8 0, .int .u8 0, .int .u8 0, .int .u8 0, .int .u8 0, .int .u8 0, .int .u8 0, .int .u8 0, .int .u8 0, .int .u8 0, .int .u8 0, .int .u8 0, .int .u8 0, .int .u8 0, .int .u8 0, .int .u8 0] 22))) := b2.out.alloc b2.out.size _
 have g3 : w.heap.size ≤ w2.heap.size := b2.out.size
 have TT3 : Hid ((w2.alloc (.cells #[Value.int IntKind.u8 0, .int .u8 0, .int .u8 0, .int .u8 0, .int .u8 0, .int .u8 0, .int .u8 0, .int .u8 0, .int .u8 0, .int .u8 0, .int .u8 0, .int .u8 0, .int .u8 0, .int .u8 0, .int .u8 0, .int .u8 0, .int .u8 0, .int .u8 0, .int .u8 0, .int .u8 0, .int .u8 0, .int .u8 0, .int .u8 0, .int .u8 0, .int .u8 0, .int .u8 0, .int .u8 0, .int .u8 0, .int .u8 0, .int .u8 0, .int .u8 0, .int .u8 0] 22)).there (w2.heap.size) 0 (bR (a)).length) := Kn.there s3x.out 0 rfl (by rw [(bR_length (a)), bZ_length])
 go_wp2_with (first | simp only [zero_b32] | refine I.wp_store_eq rfl 22 _ _ rfl (w2.heap.size) 0 (bR (a)) rfl rfl TT3.out (info_bR (a)) (bR_one (a)) ?_)
 intro w3 hw3
 try simp only [Act.put, List.setIfInBounds_toArray, List.set_cons_succ, List.set_cons_zero]
 have s3 : Hid (Kn w3 [(w2.heap.size, (bR (a)))]) := by rw [hw3.out]; exact Kn.put s3x.out (by rw [(bR_length (a)), bZ_length])
 have b3 : Hid (Below w.heap.size w w3) := by rw [hw3.out]; exact I.below_setCells _ _ _ b3x.out g3
 have z3 := b3.out.size
 clear hw3 s3x b3x TT3 s2 b2
 have Y3 := By.pair2 w3 l 1
 go_wp2_with (first | refine wp_convT rfl _ rfl _ [l, 1] u1 U1.out rfl Y3 ?_)
 rw [C1.out]
 clear Y3
 have s4 : Hid (Kn (w3.alloc (.cells #[.int .u8 (l : Int), .int .u8 1] 5)) [(w2.heap.size, bR a)]) := s3.out.up ((Below.refl _ _).alloc (Nat.le_refl _) _)
 have b4 : Hid (Below w.heap.size w (w3.alloc (.cells #[.int .u8 (l : Int), .int .u8 1] 5))) := b3.out.alloc b3.out.size _
 clear s3 b3
 refine (S1.out _ (HT.out.up b4.out HT.out.pos)).mono ?_
 rintro e w5 ⟨rfl, hb5⟩
 have s5 : Hid (Kn w5 _) := s4.out.up hb5
 have b5 : Hid (Below w.heap.size w w5) := b4.out.trans (hb5.mono b4.out.size)
 have z5 := b5.out.size
 clear hb5 s4 b4
 have s6x : Hid (Kn (w5.alloc (.cells #[Value.int IntKind.u8 0, .int .u8 0, .int .u8 0, .int .u8 0, .int .u8 0, .int .u8 0, .int .u8 0, .int .u8 0, .int .u8 0, .int .u8 0, .int .u8 0, .int .u8 0, .int .u8 0, .int .u8 0, .int .u8 0, .int .u8 0, .int .u8 0, .int .u8 0, .int .u8 0, .int .u8 0, .int .u8 0, .int .u8 0, .int .u8 0, .int .u8 0, .int .u8 0, .int .u8 0, .int .u8 0, .int .u8 0, .int .u8 0, .int .u8 0, .int .u8 0, .int .u8 0] 22)) [(w5.heap.size, bZ), (w2.heap.size, (bR (a)))]) := s5.out.al bZ 22 rfl
 have b6x : Hid (Below w.heap.size w (w5.alloc (.cells #[Value.int IntKind.u8 0, .int .u8 0, .int .u8 0, .int .u8 0, .int .u8 0, .int .u8 0, .int .u8 0, .int .u8 0, .int .u8 0, .int .u8 0, .int .u8 0, .int .u8 0, .int .u8 0, .int .u8 0, .int .u8 0, .int .u8 0, .int .u8 0, .int .u8 0, .int .u8 0, .int .u8 0, .int .u8 0, .int .u8 0, .int .u8 0, .int .u8 0, .int .u8 0, .int .u8 0, .int .u8 0, .int .u8 0, .int .u8 0, .int .u8 0, .int .u8 0, .int .u8 0] 22))) := b5.out.alloc b5.out.size _
 have g6 : w.heap.size ≤ w5.heap.size := b5.out.size
 have TT6 : Hid ((w5.alloc (.cells #[Value.int IntKind.u8 0, .int .u8 0, .int .u8 0, .int .u8 0, .int .u8 0, .int .u8 0, .int .u8 0, .int .u8 0, .int .u8 0, .int .u8 0, .int .u8 0, .int .u8 0, .int .u8 0, .int .u8 0, .int .u8 0, .int .u8 0, .int .u8 0, .int .u8 0, .int .u8 0, .int .u8 0, .int .u8 0, .int .u8 0, .int .u8 0, .int .u8 0, .int .u8 0, .int .u8 0, .int .u8 0, .int .u8 0, .int .u8 0, .int .u8 0, .int .u8 0, .int .u8 0] 22)).there (w5.heap.size) 0 (bR (b)).length) := Kn.there s6x.out 0 rfl (by rw [(bR_length (b)), bZ_length])
 go_wp2_with (first | simp only [zero_b32] | refine I.wp_store_eq rfl 22 _ _ rfl (w5.heap.size) 0 (bR (b)) rfl rfl TT6.out (info_bR (b)) (bR_one (b)) ?_)
 intro w6 hw6
 try simp only [Act.put, List.setIfInBounds_toArray, List.set_cons_succ, List.set_cons_zero]
 have s6 : Hid (Kn w6 [(w5.heap.size, (bR (b))), (w2.heap.size, (bR (a)))]) := by rw [hw6.out]; exact Kn.put s6x.out (by rw [(bR_length (b)), bZ_length])
 have b6 : Hid (Below w.heap.size w w6) := by rw [hw6.out]; exact I.below_setCells _ _ _ b6x.out g6
 have z6 := b6.out.size
 clear hw6 s6x b6x TT6 s5 b5
 go_wp2_with fail
 refine wp_region_two 0 2 [1, 3, 4, 5, 6, 7] [_, _, _, _, _, _] (.slice (some ⟨w2.heap.size, 0, none⟩) 32 32) (.slice (some ⟨w5.heap.size, 0, none⟩) 32 32) (by kernel_rfl) (by kernel_rfl) (fun _ _ d _ _ h => by cases d <;> exact h) rfl rfl (by kernel_rfl) (by kernel_rfl) rfl rfl (by kernel_rfl) (.inl ⟨rfl, exec_all32 _ rfl _ rfl⟩) (.inl ⟨rfl, exec_all32 _ rfl _ rfl⟩) ?_
 intro w7 hb7 hh7
 clear hh7
 simp only [Act.put, List.setIfInBounds_toArray, List.set_cons_succ, List.set_cons_zero, List.getElem_toArray, List.getElem_cons_zero, List.getElem_cons_succ]
 have s7 : Hid (Kn w7 _) := s6.out.up hb7.out
 have b7 : Hid (Below w.heap.size w w7) := b6.out.trans (hb7.out.mono b6.out.size)
 clear s6 b6 hb7
 have YX : By w7 (.slice (some ⟨w2.heap.size, 0, none⟩) 32 32) xs := by have := Kn.by32 s7.out 1 rfl; rwa [HX.out] at this
 go_wp2_with (refine wp_appB rfl _ _ rfl w7.heap.size (.slice none 0 0) _ [] xs w7 rfl (Ob.nil _ _) (Below.refl _ _) rfl YX (by rw [LX.out]; decide) (Nat.le_refl _) ?_)
 intro v8 w8 o8 _ hb8
 have s8 : Hid (Kn w8 _) := s7.out.up hb8
 have b8' : Hid (Below w.heap.size w w8) := b7.out.trans (hb8.mono b7.out.size)
 have YY : By w8 (.slice (some ⟨w5.heap.size, 0, none⟩) 32 32) ys := by have := Kn.by32 s8.out 0 rfl; rwa [HY.out] at this
 have O8 : Hid (Ob w8 w7.heap.size v8 xs) := o8
 have G8 : Hid (w7.heap.size ≤ w8.heap.size) := hb8.size
 have G7 : Hid (w.heap.size ≤ w7.heap.size) := b7.out.size
 clear YX o8 hb8 s7 s8 b7
 go_wp2_with (refine wp_appB rfl _ _ rfl w7.heap.size v8 _ xs ys w8 rfl O8.out (Below.refl _ _) rfl YY (by rw [LX.out, LY.out]; decide) G8.out ?_)
 intro v9 w9 o9 _ hb9
 have O9 : Hid (By w9 v9 (xs ++ ys)) := o9.by
 have b9 : Hid (Below w.heap.size w w9) := b8'.out.trans (hb9.mono G7.out)
 clear YY O8 o9 hb9 b8' G8 G7
 go_wp2_with fail
 refine (NB.out _ _ O9.out).mono ?_
 rintro e w10 ⟨⟨v10, rfl, sv⟩, hb⟩
 have SV : Hid (Sl w10 v10 (P.dg D)) := sv
 have b10 : Hid (Below w.heap.size w w10) := b9.out.trans (hb.mono b9.out.size)
 clear sv hb b9 O9 NB
 go_wp2_with fail
 refine (PR.out _).mono ?_
 rintro e w11 ⟨⟨v11, rfl, sv⟩, hb⟩
 have SP : Hid (Sl w11 v11 (P.dg O)) := sv
 have SV2 : Hid (Sl w11 v10 (P.dg D)) := Sl.up (xs := P.dg D) SV.out hb
 have b11 : Hid (Below w.heap.size w w11) := b10.out.trans (hb.mono b10.out.size)
 clear sv hb b10 SV PR
 go_wp2_with fail
 refine (RS.out _ _ _ SV2.out SP.out).mono ?_
 rintro e w12 ⟨⟨v12, rfl, sv⟩, hb⟩
 have SR : Hid (Sl w12 v12 (P.dg R)) := sv
 have b12 : Hid (Below w.heap.size w w12) := b11.out.trans (hb.mono b11.out.size)
 clear sv hb b11 SV2 SP RS
 go_wp2_with fail
 go_ret
 exact ⟨⟨_, rfl, SR.out⟩, b12.out⟩
theorem rDig_fun (l : Nat) (hl : l < 256) (p : List Nat) (lp : ∀ x ∈ p, x < 256) (zp : p.length ≤ 500000000000000) (w : World) (hT : RTab w) :
  Calls Tryz.prog 21 #[.int .u8 (l : Int), .string (sOf p)] w fun e w' => (∃ v', e = .returned v' ∧ Sl w' v' (P.dg (S.le (S.dig l p) % Cv.ord))) ∧ Below w.heap.size w w' := by
 have lo : ∀ h, h < 256 → ∀ x ∈ l :: h :: p, x < 256 := fun h hh => S.low_two hl hh lp
 have by_ : ∀ xs : List Nat, xs.length = 32 → (∀ x ∈ xs, x < 256) → S.by (S.le xs) = xs := fun xs h1 h2 => by
  have e1 := S.by_row (S.le xs)
  rw [← S.row h1 h2] at e1
  exact (b8_inj e1).symm
 have N64 := number_fun (S.dig l p) (S.dig_low l p) (by rw [S.dig_length]; decide)
 have lD : S.le (S.dig l p) < 65536 ^ 64 := Nat.lt_of_lt_of_le (S.le_lt _ (S.dig_low l p)) (by rw [S.dig_length]; decide)
 refine rDig_walk l _ _ _ _ Cv.ord (sumS (l :: 0 :: p)) (sumS (l :: 1 :: p)) _ _ _ _ _ (by_ _ (sumS_length _) (sumS_low _)) (by_ _ (sumS_length _) (sumS_low _)) (sumS_length _) (sumS_length _) rfl rfl (sOf_append [l, 0] p) (sOf_append [l, 1] p) (by rw [sOf_size, sOf_size]; simp; omega) (by rw [sOf_size, sOf_size]; simp; omega) (fun w hT => ?_) (fun w hT => ?_) N64 prime_fun (rest_n _ Cv.ord lD ord_pos (by decide)) w hT
 ·rw [← vB_num (sumS_length _) (sumS_low _)]
  exact rsum_fun (l :: 0 :: p) (lo 0 (by decide)) (by simp; omega) w hT
 ·rw [← vB_num (sumS_length _) (sumS_low _)]
  exact rsum_fun (l :: 1 :: p) (lo 1 (by decide)) (by simp; omega) w hT
end Go.Proofs.YtfknkfninjjgbaaGreatDoor
