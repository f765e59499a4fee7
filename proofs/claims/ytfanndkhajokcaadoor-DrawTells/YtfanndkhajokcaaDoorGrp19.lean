import Derived.Test.YtfanndkhajokcaaDoorGrp18
import Derived.ChangeKeysEq
import Derived.Test.YtfanndkhajokcaaDoorGrp1
/- What the laws' own walks need: states in variables, digests held against each other. -/
namespace Go.Proofs.YtfanndkhajokcaaDoor
open Go.RowKit
set_option linter.unusedSimpArgs false
section
variable {P : Program}

theorem run_equalIn_int (d : Nat) {e : TypeId} {k : IntKind} (hu : P.underlying e = some (.int k)) (a b : Int) (w : World) : (Op.equalIn (d + 1) e (.int k a) (.int k b)).run P w = .ok (a == b) w := by
  simp [Op.equalIn, run_underlying hu]
theorem run_eqItems_ints (d : Nat) {e : TypeId} {k : IntKind} (hu : P.underlying e = some (.int k)) (hp : P.plainKey e = true) (f g : Nat → Int) (X Y : Array Value) (w : World) :
    ∀ is : List Nat, (∀ i ∈ is, X[i]? = some (.int k (f i))) → (∀ i ∈ is, Y[i]? = some (.int k (g i))) → (Op.eqItems (d + 1) e 1 X Y is).run P w = .ok (is.all fun i => f i == g i) w
  | [], _, _ => by simp [Op.eqItems]
  | i :: is, hX, hY => by
    have p1 := run_part_plain w hp (hX i (by simp))
    have p2 := run_part_plain w hp (hY i (by simp))
    have ih := run_eqItems_ints d hu hp f g X Y w is (fun j hj => hX j (by simp [hj])) (fun j hj => hY j (by simp [hj]))
    simp only [Op.eqItems, Sem.run_bind, Nat.mul_one, p1, p2, Result.andThen_ok, run_equalIn_int d hu]
    cases h : (f i == g i)
    · simp [h]
    · simp [h, ih]
theorem run_eql_ints {t e : TypeId} {n : Nat} {i : TypeInfo} {k : IntKind} (ht : P.underlying t = some (.array n e)) (hi : P.info? e = some i) (hu : P.underlying e = some (.int k)) (hp : P.plainKey e = true) (hc : P.cellsOf e = 1)
    (f g : Nat → Int) (X Y : Array Value) (hX : ∀ j, j < n → X[j]? = some (.int k (f j))) (hY : ∀ j, j < n → Y[j]? = some (.int k (g j))) (w : World) :
    (binOp .eql t (.agg X) (.agg Y)).run P w = .ok (.bool ((List.range n).all fun j => f j == g j)) w := by
  simp only [binOp]
  have h := run_equalIn_array w 9999 X Y ht hi
  rw [hc, run_eqItems_ints 9998 hu hp f g X Y w _ (fun j hj => hX j (List.mem_range.1 hj)) (fun j hj => hY j (List.mem_range.1 hj))] at h
  simp [Op.equal, Op.maxDepth, h]
theorem run_neq_ints {t e : TypeId} {n : Nat} {i : TypeInfo} {k : IntKind} (ht : P.underlying t = some (.array n e)) (hi : P.info? e = some i) (hu : P.underlying e = some (.int k)) (hp : P.plainKey e = true) (hc : P.cellsOf e = 1)
    (f g : Nat → Int) (X Y : Array Value) (hX : ∀ j, j < n → X[j]? = some (.int k (f j))) (hY : ∀ j, j < n → Y[j]? = some (.int k (g j))) (w : World) :
    (binOp .neq t (.agg X) (.agg Y)).run P w = .ok (.bool !((List.range n).all fun j => f j == g j)) w := by
  simp only [binOp]
  have h := run_equalIn_array w 9999 X Y ht hi
  rw [hc, run_eqItems_ints 9998 hu hp f g X Y w _ (fun j hj => hX j (List.mem_range.1 hj)) (fun j hj => hY j (List.mem_range.1 hj))] at h
  simp [Op.equal, Op.maxDepth, h]
end


set_option maxRecDepth 100000 in
theorem plain_u8 : Tryd.prog.plainKey 5 = true := by kernel_rfl
theorem cells_u8 : Tryd.prog.cellsOf 5 = 1 := by kernel_rfl
theorem eql_self (xs : List Nat) (hl : xs.length = 32) (w : World) : (binOp .eql 47 (vB xs) (vB xs)).run Tryd.prog w = .ok (.bool true) w := by
  obtain ⟨i0, hi, _⟩ := info_parts Tryd.iU8
  have hg : ∀ j, j < 32 → (xs.map b8).toArray[j]? = some (.int .u8 ((xs.getD j 0 : Nat) : Int)) := fun j hj => by
    have : j < xs.length := by omega
    simp [List.getD_eq_getElem?_getD, this]
  rw [run_eql_ints (P := Tryd.prog) (t := 47) (e := 5) (n := 32) (k := .u8) u_d32 hi Tryd.uU8 plain_u8 cells_u8 (fun j => ((xs.getD j 0 : Nat) : Int)) (fun j => ((xs.getD j 0 : Nat) : Int)) _ _ hg hg]
  simp
theorem neq_self (xs : List Nat) (hl : xs.length = 32) (w : World) : (binOp .neq 47 (vB xs) (vB xs)).run Tryd.prog w = .ok (.bool false) w := by
  obtain ⟨i0, hi, _⟩ := info_parts Tryd.iU8
  have hg : ∀ j, j < 32 → (xs.map b8).toArray[j]? = some (.int .u8 ((xs.getD j 0 : Nat) : Int)) := fun j hj => by
    have : j < xs.length := by omega
    simp [List.getD_eq_getElem?_getD, this]
  rw [run_neq_ints (P := Tryd.prog) (t := 47) (e := 5) (n := 32) (k := .u8) u_d32 hi Tryd.uU8 plain_u8 cells_u8 (fun j => ((xs.getD j 0 : Nat) : Int)) (fun j => ((xs.getD j 0 : Nat) : Int)) _ _ hg hg]
  simp
theorem wpList_wanted {P : Program} {ops : Array Oper} {rest : List Oper} {o : Oper} {a : Act} {Q : Exit → Act → World → Prop} {w : World} (hg : Region.wanted o (yielded ops a.tmps) = true)
    (h : ∀ K : Act → World → Prop, (∀ a w, wpList P ops Q rest a w → K a w) → o.wp P a w K Q) : wpList P ops Q (o :: rest) a w :=
  wpList_step fun K hK => by simp only [hg, if_true]; exact h K hK
/-- Two digests that are one, held against each other. -/
theorem wp_eqD {ops : Array Oper} {rest : List Oper} {o : Oper} {a : Act} {Q : Exit → Act → World → Prop} {w : World} (hgd : Region.wanted o (yielded ops a.tmps) = true) (x y : Operand) (u : TypeId)
    (ho : o.op = .binOp .eql 47 x y u) (xs : List Nat) (hl : xs.length = 32) (hx : a.eval x = vB xs) (hy : a.eval y = vB xs) (h : wpList Tryd.prog ops Q rest (a.put o.dst (.bool true)) w) : wpList Tryd.prog ops Q (o :: rest) a w := by
  refine wpList_wanted hgd fun K hK => ?_
  have e := eql_self xs hl w
  unfold Oper.wp
  simp [execOp, ho, hx, hy, e, eqGuard, Result.andThen]
  exact hK _ _ h
theorem wp_neD {ops : Array Oper} {rest : List Oper} {o : Oper} {a : Act} {Q : Exit → Act → World → Prop} {w : World} (hgd : Region.wanted o (yielded ops a.tmps) = true) (x y : Operand) (u : TypeId)
    (ho : o.op = .binOp .neq 47 x y u) (xs : List Nat) (hl : xs.length = 32) (hx : a.eval x = vB xs) (hy : a.eval y = vB xs) (h : wpList Tryd.prog ops Q rest (a.put o.dst (.bool false)) w) : wpList Tryd.prog ops Q (o :: rest) a w := by
  refine wpList_wanted hgd fun K hK => ?_
  have e := neq_self xs hl w
  unfold Oper.wp
  simp [execOp, ho, hx, hy, e, eqGuard, Result.andThen]
  exact hK _ _ h
/-- The state of a text lies in block k. -/
def StAt (w : World) (k : Nat) (H : R8) (n : Nat) (p : List Nat) : Prop := Blk w k (cS (wordsS H p) (restS p) (cntS n p))
theorem StAt.up {W w1 : World} {k B : Nat} {H : R8} {n : Nat} {p : List Nat} (h : StAt W k H n p) (hb : Below B W w1) (hB : k < B) : StAt w1 k H n p := Blk.up h hb hB
theorem StAt.lt {W : World} {k : Nat} {H : R8} {n : Nat} {p : List Nat} (h : StAt W k H n p) : k < W.heap.size := Blk.lt h
theorem wp_ldS {ops : Array Oper} {rest : List Oper} {o : Oper} {a : Act} {Q : Exit → Act → World → Prop} {w : World} (hgd : Region.wanted o (yielded ops a.tmps) = true) (x : Operand) (ho : o.op = .load 68 x) (k : Nat) (hx : a.eval x = .pointer (some ⟨k, 0, none⟩))
    {H : R8} {n : Nat} {p : List Nat} (hs : StAt w k H n p) (h : wpList Tryd.prog ops Q rest (a.put o.dst (stV H n p)) w) : wpList Tryd.prog ops Q (o :: rest) a w := by
  obtain ⟨d, hu, hr⟩ := u_state'
  refine wpList_wanted hgd fun K hK => ?_
  exact wp_load_mid 68 x ho k 0 hx _ d (Blk.all hs) hu hr (info_state.trans (congrArg some (cS_length _ _ _ (restS_length p)).symm)) (hK _ _ h)
/-- A state stored into a variable of its own. -/
theorem wp_stS {ops : Array Oper} {rest : List Oper} {o : Oper} {a : Act} {Q : Exit → Act → World → Prop} {w : World} (hgd : Region.wanted o (yielded ops a.tmps) = true) (x y : Operand) (ho : o.op = .store 68 x y) (k : Nat) (hx : a.eval x = .pointer (some ⟨k, 0, none⟩))
    (H : R8) (n : Nat) (p : List Nat) (hy : a.eval y = stV H n p) (vs : List Value) (hv : Blk w k vs) (hl : vs.length = 73)
    (h : ∀ w2, StAt w2 k H n p → (∀ B W, Below B W w → B ≤ k → Below B W w2) → (∀ k' us, k' ≠ k → Blk w k' us → Blk w2 k' us) → wpList Tryd.prog ops Q rest (a.put o.dst undef) w2) : wpList Tryd.prog ops Q (o :: rest) a w := by
  refine wpList_wanted hgd fun K hK => ?_
  have hc := cS_length (wordsS H p) (restS p) (cntS n p) (restS_length p)
  refine wp_store_mid 68 x y ho k 0 (cS (wordsS H p) (restS p) (cntS n p)).toArray hx hy (by rw [List.size_toArray]; exact hv.there (by omega)) (by rw [List.size_toArray]; exact info_state.trans (congrArg some hc.symm)) (all_oneCell_toArray (one_cS _ _ _)) (hK _ _ (h _ ?_ ?_ ?_))
  · have h1 : Blk w k ([] ++ (vs ++ [])) := by simpa using hv
    have h2 := h1.store (o := 0) (b' := cS (wordsS H p) (restS p) (cntS n p)) rfl (by omega)
    rw [List.nil_append, List.append_nil] at h2
    exact h2
  · intro B W hb hB
    exact below_setCells _ _ _ hb hB
  · intro k' us hk hu
    exact hu.apart hk
/-- A variable for a state is made, and one is stored into it. -/
theorem wp_mkS {ops : Array Oper} {rest : List Oper} {o o2 : Oper} {a : Act} {Q : Exit → Act → World → Prop} {w : World} (hgd : o.guard = none) (hgd2 : o2.guard = none) (x : Tmp) (y : Operand) (ho : o.op = .alloc 68) (hd : o.dst = some x) (hd2 : o2.dst = none) (ho2 : o2.op = .store 68 (.tmp x) y)
    (H : R8) (n : Nat) (p : List Nat) (hx : (a.put (some x) (.pointer (some ⟨w.heap.size, 0, none⟩))).eval (.tmp x) = .pointer (some ⟨w.heap.size, 0, none⟩)) (hy : (a.put (some x) (.pointer (some ⟨w.heap.size, 0, none⟩))).eval y = stV H n p)
    (h : ∀ w2, StAt w2 w.heap.size H n p → Below w.heap.size w w2 → wpList Tryd.prog ops Q rest (a.put (some x) (.pointer (some ⟨w.heap.size, 0, none⟩))) w2) : wpList Tryd.prog ops Q (o :: o2 :: rest) a w := by
  refine wpList_plain hgd fun K hK => ?_
  have e : (execOp a.eval o).run Tryd.prog w = .ok (.value (.pointer (some ⟨w.heap.size, 0, none⟩))) (w.alloc (.cells zS.toArray 68)) := by
    unfold execOp
    simp [ho, zero_state, Instr.alloc, newVar, Value.cells, go_sem] <;> rfl
  unfold Oper.wp
  rw [e]
  refine hK _ _ ?_
  rw [hd]
  obtain ⟨y0, y1⟩ := al1 w zS.toArray 68
  have hwt : Region.wanted o2 (yielded ops (a.put (some x) (.pointer (some ⟨w.heap.size, 0, none⟩))).tmps) = true := by
    simp [Region.wanted, hgd2]
  refine wp_stS hwt (.tmp x) y ho2 w.heap.size hx H n p hy zS (by simpa using y0) zS_length ?_
  intro w2 h1 h2 _
  rw [hd2]
  exact h w2 h1 (h2 _ _ y1 (Nat.le_refl _))
end Go.Proofs.YtfanndkhajokcaaDoor

/- Small laws that marks and trees share: bytes of digests; structs and slices that are built; an array sliced whole. -/
namespace Go.Proofs.YtfanndkhajokcaaDoor
open Go.RowKit
set_option linter.unusedSimpArgs false
theorem dbyte_lt (H : R8) (k : Nat) : dbyte H k < 256 := by
  unfold dbyte
  omega
theorem sumS_low (p : List Nat) : ∀ x ∈ sumS p, x < 256 := by
  intro x hx
  unfold sumS digS at hx
  obtain ⟨j, _, rfl⟩ := List.mem_map.1 hx
  exact dbyte_lt _ _
theorem low_app {a b : List Nat} (ha : ∀ x ∈ a, x < 256) (hb : ∀ x ∈ b, x < 256) : ∀ x ∈ a ++ b, x < 256 := fun x hx => (List.mem_append.1 hx).elim (ha x) (hb x)
theorem low_rep (n : Nat) : ∀ x ∈ List.replicate n 0, x < 256 := fun x hx => by rw [(List.mem_replicate.1 hx).2]; decide
theorem lay_foldl (off : Nat) : ∀ (v : List Value) (n : Nat) (X : Array Value) (a b c : List Value), X.toList = a ++ (b ++ c) → a.length = off + n → b.length = v.length → ((v.zipIdx n).foldl (fun (cs : Array Value) (x : Value × Nat) => cs.setIfInBounds (off + x.2) x.1) X).toList = a ++ (v ++ c)
  | [], n, X, a, b, c, hX, ha, hb => by
    rw [List.length_eq_zero_iff.1 hb] at hX
    simpa using hX
  | x :: v, n, X, a, y :: b, c, hX, ha, hb => by
    rw [List.zipIdx_cons, List.foldl_cons]
    rw [lay_foldl off v (n + 1) _ (a ++ [x]) b c ?_ (by simp; omega) (by simpa using hb)]
    · simp
    · rw [Array.toList_setIfInBounds, hX, List.set_append_right _ _ (by omega), ha]
      simp
  | x :: v, n, X, a, [], c, hX, ha, hb => by simp at hb
theorem built_of {t : TypeId} {zc : Array Value} {places : List (Nat × Nat)} (hz : (Tryd.prog.info? t).map (·.zero) = some (some (.agg zc)))
    (hp : ((Tryd.prog.underlying t).bind fun d => match d with | .struct fields => fields.toList.mapM (fun f => (Tryd.prog.info? f.type).map fun i => (f.offset, i.size)) | _ => none) = some places) (parts : List (Nat × Value)) : Tryd.prog.built t parts = Instr.fill (places.toArray[·]?) zc parts := by
  unfold Program.built
  cases e1 : Tryd.prog.info? t with
  | none => simp [e1] at hz
  | some it =>
    have e3 : it.zero = some (.agg zc) := by simpa [e1] using hz
    cases e2 : Tryd.prog.underlying t with
    | none => simp [e2] at hp
    | some d =>
      rw [e2, Option.bind_some] at hp
      cases d <;> simp at hp
      rename_i fields
      simp only [e3, hp, Value.cells]
theorem foldl_zip (A : List Value) (f : Array Value → Value × Nat → Array Value) (X : Array Value) : A.toArray.zipIdx.foldl f X = A.zipIdx.foldl f X := by
  rw [← Array.foldl_toList, Array.toList_zipIdx]
theorem fill_step (pl : Nat → Option (Nat × Nat)) (X : Array Value) (i off : Nat) (v a b c : List Value) (rest : List (Nat × Value)) (hp : pl i = some (off, v.length)) (hX : X.toList = a ++ (b ++ c)) (ha : a.length = off) (hb : b.length = v.length) :
    Instr.fill pl X ((i, .agg v.toArray) :: rest) = Instr.fill pl (a ++ (v ++ c)).toArray rest := by
  have hs : X.size = a.length + (b.length + c.length) := by
    rw [← Array.length_toList, hX]
    simp
  rw [Instr.fill, hp]
  simp only [Value.cells, List.size_toArray]
  rw [if_neg (by simp; omega)]
  congr 1
  apply Array.ext'
  rw [foldl_zip]
  exact lay_foldl off v 0 X a b c hX (by omega) hb
theorem slice_all {t e : TypeId} {n : Nat} (ht : Tryd.prog.underlying t = some (.array n e)) (hz : (Tryd.prog.info? e).map (·.size) = some 1) (hn : 0 < n) (b o : Nat) (w : World) :
    (Instr.sliceAt t (.pointer (some ⟨b, o, none⟩)) none none none).run Tryd.prog w = .ok (.slice (some ⟨b, o, none⟩) n n) w := by
  have ha : Tryd.prog.arrayLen t = n := by simp [Program.arrayLen, ht]
  have he : Tryd.prog.elem t = e := by simp [Program.elem, ht]
  rw [run_sliceAt_array_all w t ⟨b, o, none⟩ (by rw [ha, he]; exact ht), ha, he]
  cases hq : Tryd.prog.info? e with
  | none => simp [hq] at hz
  | some i =>
    have hi : i.size = 1 := by simpa [hq] using hz
    simp [sizeOf, typeInfo, hq, hi, slicedAt, Addr.add_zero', Nat.ne_of_gt hn]
theorem By.of_blk {w : World} {k n : Nat} {xs : List Nat} (h : Blk w k (xs.map b8)) (hl : xs.length = n) : By w (.slice (some ⟨k, 0, none⟩) n n) xs := by
  subst hl
  refine By.of_cells (Nat.le_refl _) fun j hj => ?_
  rw [Nat.zero_add]
  exact h.cell j _ (by simp [List.getD_eq_getElem?_getD, hj])
end Go.Proofs.YtfanndkhajokcaaDoor

/- The contract of mac.Same: true just where both are the same bytes. -/
namespace Go.Proofs.YtfanndkhajokcaaDoor
open Go.RowKit
set_option linter.unusedSimpArgs false
theorem wrap8 (n : Nat) (h : n < 256) : IntKind.u8.wrap (n : Int) = n := by
  simp only [IntKind.wrap, IntKind.bits, IntKind.signed]
  simp
  omega
theorem of8 (x : Nat) (h : x < 256) : (BitVec.ofInt 8 (x : Int)).toNat = x := by
  rw [BitVec.toNat_ofInt]
  omega
theorem xor_lt {x y : Nat} (hx : x < 256) (hy : y < 256) : x ^^^ y < 256 := Nat.xor_lt_two_pow (n := 8) hx hy
theorem or_lt {x y : Nat} (hx : x < 256) (hy : y < 256) : x ||| y < 256 := Nat.or_lt_two_pow (n := 8) hx hy
theorem b_xor {x y : Nat} (hx : x < 256) (hy : y < 256) : bits .xor .u8 (x : Int) (y : Int) = ((x ^^^ y : Nat) : Int) := by
  show IntKind.u8.wrap (((BitVec.ofInt 8 (x : Int) ^^^ BitVec.ofInt 8 (y : Int)).toNat : Nat) : Int) = _
  rw [BitVec.toNat_xor, of8 _ hx, of8 _ hy]
  exact wrap8 _ (xor_lt hx hy)
theorem b_or {x y : Nat} (hx : x < 256) (hy : y < 256) : bits .or .u8 (x : Int) (y : Int) = ((x ||| y : Nat) : Int) := by
  show IntKind.u8.wrap (((BitVec.ofInt 8 (x : Int) ||| BitVec.ofInt 8 (y : Int)).toNat : Nat) : Int) = _
  rw [BitVec.toNat_or, of8 _ hx, of8 _ hy]
  exact wrap8 _ (or_lt hx hy)
/-- Where the first k bytes of both part. -/
def apS (xs ys : List Nat) : Nat → Nat
  | 0 => 0
  | k + 1 => apS xs ys k ||| (xs.getD k 0 ^^^ ys.getD k 0)
theorem getD_low {xs : List Nat} (h : ∀ x ∈ xs, x < 256) (k : Nat) : xs.getD k 0 < 256 := by
  rw [List.getD_eq_getElem?_getD]
  cases e : xs[k]? with
  | none => simp
  | some x => exact h x (List.mem_of_getElem? e)
theorem apS_lt {xs ys : List Nat} (hx : ∀ x ∈ xs, x < 256) (hy : ∀ x ∈ ys, x < 256) : ∀ k, apS xs ys k < 256
  | 0 => by simp [apS]
  | k + 1 => or_lt (apS_lt hx hy k) (xor_lt (getD_low hx k) (getD_low hy k))
theorem xor_zero {x y : Nat} : x ^^^ y = 0 ↔ x = y := by
  constructor
  · intro h
    apply Nat.eq_of_testBit_eq
    intro i
    have := congrArg (·.testBit i) h
    simpa using this
  · rintro rfl; simp
theorem or_zero {x y : Nat} : x ||| y = 0 ↔ x = 0 ∧ y = 0 := by
  constructor
  · intro h
    have hb : ∀ i, (x ||| y).testBit i = false := fun i => by rw [h]; simp
    constructor <;>
    · apply Nat.eq_of_testBit_eq
      intro i
      have := hb i
      simp at this
      simp [this]
  · rintro ⟨rfl, rfl⟩; simp
theorem apS_zero (xs ys : List Nat) : ∀ k, apS xs ys k = 0 ↔ ∀ j, j < k → xs.getD j 0 = ys.getD j 0
  | 0 => by simp [apS]
  | k + 1 => by
    rw [apS, or_zero, apS_zero xs ys k, xor_zero]
    constructor
    · rintro ⟨h1, h2⟩ j hj
      rcases Nat.lt_or_ge j k with h | h
      · exact h1 j h
      · rw [show j = k by omega]; exact h2
    · exact fun h => ⟨fun j hj => h j (by omega), h k (by omega)⟩
theorem ext_getD {xs ys : List Nat} (hl : xs.length = ys.length) (h : ∀ j, j < xs.length → xs.getD j 0 = ys.getD j 0) : xs = ys := by
  apply List.ext_getElem hl
  intro j h1 h2
  have := h j h1
  simpa [List.getD_eq_getElem?_getD, h1, h2] using this
theorem apS_all (xs ys : List Nat) (hl : xs.length = ys.length) (m : Nat) (hm : m = xs.length) : apS xs ys m = 0 ↔ xs = ys := by
  subst hm
  rw [apS_zero]
  exact ⟨ext_getD hl, fun h j _ => by rw [h]⟩
theorem same_end (xs ys : List Nat) (m : Nat) (h3 : m = xs.length ∨ m = ys.length) : (decide (apS xs ys m = 0) && decide (xs.length = ys.length)) = decide (xs = ys) := by
  by_cases hl : xs.length = ys.length
  · rw [decide_eq_true hl, Bool.and_true]
    exact decide_eq_decide.2 (apS_all xs ys hl m (by omega))
  · rw [decide_eq_false hl, Bool.and_false, decide_eq_false (fun h => hl (by rw [h]))]
theorem int_beq (n k : Nat) : ((n : Int) == (k : Int)) = decide (n = k) := by
  by_cases h : n = k
  · subst h; simp
  · rw [decide_eq_false h]; simp; omega
end Go.Proofs.YtfanndkhajokcaaDoor

/- Marks as functions of lists; the cells of a mark's state, and how one is built. -/
namespace Go.Proofs.YtfanndkhajokcaaDoor
open Go.RowKit
set_option linter.unusedSimpArgs false
/-- The key, fit to a block. -/
def fitS (k : List Nat) : List Nat := if 64 < k.length then sumS k ++ List.replicate 32 0 else k ++ List.replicate (64 - k.length) 0
theorem fitS_length (k : List Nat) : (fitS k).length = 64 := by
  unfold fitS
  split
  · rw [List.length_append, sumS_length, List.length_replicate]
  · rw [List.length_append, List.length_replicate]; omega
theorem fitS_low {k : List Nat} (h : ∀ x ∈ k, x < 256) : ∀ x ∈ fitS k, x < 256 := by
  unfold fitS
  split
  · exact low_app (sumS_low k) (low_rep _)
  · exact low_app h (low_rep _)
/-- Each byte xor b. -/
def xb (K : List Nat) (b : Nat) : List Nat := K.map (· ^^^ b)
theorem xb_length (K : List Nat) (b : Nat) : (xb K b).length = K.length := by simp [xb]
theorem xb_low {K : List Nat} (h : ∀ x ∈ K, x < 256) {b : Nat} (hb : b < 256) : ∀ x ∈ xb K b, x < 256 := by
  intro x hx
  obtain ⟨y, hy, rfl⟩ := List.mem_map.1 hx
  exact xor_lt (h y hy) hb
/-- The first k bytes xor b, the others as they are. -/
def xK (K : List Nat) (b k : Nat) : List Nat := xb (K.take k) b ++ K.drop k
theorem xK_zero (K : List Nat) (b : Nat) : xK K b 0 = K := by simp [xK, xb]
theorem xK_all (K : List Nat) (b : Nat) {k : Nat} (h : K.length = k) : xK K b k = xb K b := by subst h; simp [xK]
theorem xK_length (K : List Nat) (b k : Nat) : (xK K b k).length = K.length := by
  simp [xK, xb]
  omega
theorem xK_get (K : List Nat) (b k : Nat) (h : k < K.length) : (xK K b k)[k]? = some (K.getD k 0) := by
  unfold xK
  rw [List.getElem?_append_right (by simp [xb]; omega), List.getElem?_drop]
  simp [xb, List.getD_eq_getElem?_getD, h, Nat.min_eq_left (Nat.le_of_lt h)]
theorem xK_set (K : List Nat) (b k : Nat) (h : k < K.length) : (xK K b k).set k (K.getD k 0 ^^^ b) = xK K b (k + 1) := by
  have e : (K.drop k) = K.getD k 0 :: K.drop (k + 1) := by
    rw [List.drop_eq_getElem_cons h]
    simp [List.getD_eq_getElem?_getD, h]
  have l : (xb (K.take k) b).length = k := by simp [xb]; omega
  have t : K.take (k + 1) = K.take k ++ [K.getD k 0] := by
    rw [List.take_add_one]
    simp [List.getD_eq_getElem?_getD, h]
  unfold xK
  rw [List.set_append_right _ _ (by omega), l, e, Nat.sub_self, List.set_cons_zero, t]
  simp [xb]
/-- A text's mark by a key of one block. -/
def markK (K p : List Nat) : List Nat := sumS (xb K 92 ++ sumS (xb K 54 ++ p))
def markS (k p : List Nat) : List Nat := markK (fitS k) p
theorem markK_length (K p : List Nat) : (markK K p).length = 32 := sumS_length _
/-- The cells of the state of a text. -/
def stC (p : List Nat) : List Value := cS (wordsS IV p) (restS p) (cntS 0 p)
theorem stC_length (p : List Nat) : (stC p).length = 73 := cS_length _ _ _ (restS_length p)
theorem stV_eq (p : List Nat) : stV IV 0 p = .agg (stC p).toArray := rfl
theorem one_stC (p : List Nat) : ∀ v ∈ stC p, v.oneCell' = true := one_cS _ _ _
def mC (K p : List Nat) : List Value := stC (xb K 54 ++ p) ++ stC (xb K 92)
theorem mC_length (K p : List Nat) : (mC K p).length = 146 := by rw [mC, List.length_append, stC_length, stC_length]
theorem one_mC (K p : List Nat) : ∀ v ∈ mC K p, v.oneCell' = true := fun v hv => (List.mem_append.1 hv).elim (one_stC _ v) (one_stC _ v)
/-- A mark's state: the key K, of one block, and the text p. -/
def mV (K p : List Nat) : Value := .agg (mC K p).toArray
theorem mac_places : ((Tryd.prog.underlying 70).bind fun d => match d with | .struct fields => fields.toList.mapM (fun f => (Tryd.prog.info? f.type).map fun i => (f.offset, i.size)) | _ => none) = some [(0, 73), (73, 73)] := by kernel_rfl
theorem info_mstz : (Tryd.prog.info? 70).map (·.zero) = some (some (.agg (zS ++ zS).toArray)) := by kernel_rfl
theorem built_mac (A B : List Value) (hA : A.length = 73) (hB : B.length = 73) : Tryd.prog.built 70 [(0, .agg A.toArray), (1, .agg B.toArray)] = some (A ++ B).toArray := by
  rw [built_of info_mstz mac_places, fill_step _ _ 0 0 A [] zS zS _ (by rw [hA]; rfl) (by simp) rfl (by rw [hA, zS_length]), fill_step _ _ 1 73 B A zS [] _ (by rw [hB]; rfl) (by simp) hA (by rw [hB, zS_length]), Instr.fill]
  simp
theorem info_mst : (Tryd.prog.info? 70).map (·.size) = some 146 := by kernel_rfl
theorem zero_mst (w : World) : (zeroValue 70).run Tryd.prog w = .ok (.agg (zS ++ zS).toArray) w := by
  have := info_mstz
  cases h : Tryd.prog.info? 70 with
  | none => simp [h] at this
  | some d =>
    have hz : d.zero = some (.agg (zS ++ zS).toArray) := by simpa [h] using this
    simp [zeroValue, typeInfo, h, hz]
theorem u_mst0 : (Tryd.prog.underlying 70).map TypeDesc.isRow = some true := by kernel_rfl
theorem u_mst : ∃ d, Tryd.prog.underlying 70 = some d ∧ d.isRow = true := by
  have := u_mst0
  cases h : Tryd.prog.underlying 70 with
  | none => simp [h] at this
  | some d => exact ⟨d, rfl, by simpa [h] using this⟩
end Go.Proofs.YtfanndkhajokcaaDoor
