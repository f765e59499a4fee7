/- Texts that were joined: HLaw, Fil, HX. -/
import Derived.Test.YtjcnfffmciahiaaDoorGrp36
import Derived.ChangeKeysEq
import Derived.Test.YtjcnfffmciahiaaDoorGrp25
/- What the laws' own walks need: states in variables, digests held against each other. -/
namespace Go.Proofs.YtjcnfffmciahiaaDoor
open Go.RowKit
set_option linter.unusedSimpArgs false
section
variable {P : Program}

theorem run_equalIn_int (d : Nat) {e : TypeId} {k : IntKind} (hu : P.underlying e = some (.int k)) (a b : Int) (w : World) : (Op.equalIn (d + 1) e (.int k a) (.int k b)).run P w = .ok (a == b) w := by
  simp [Op.equalIn, run_underlying hu]
theorem run_eqItems_ints (d : Nat) {e : TypeId} {k : IntKind} (hu : P.underlying e = some (.int k)) (hp : P.plainKey e = true) (f g : Nat → Int) (X Y : Array Value) (w : World) :
    ∀ is : List Nat, (∀ i ∈ is, X[i]? = some (.int k (f i))) → (∀ i ∈ is, Y[i]? = some (.int k (g i))) → (Op.eqItems (d + 1) e 1 X Y is).run P w = .ok (is.all fun i => f i == g i) w
  | [], _, _ => by simp [Op.eqItems]
  | i :: is, hX, hY => by
    have p1 := run_part_plain w hp (hX i (by simp))
    have p2 := run_part_plain w hp (hY i (by simp))
    have ih := run_eqItems_ints d hu hp f g X Y w is (fun j hj => hX j (by simp [hj])) (fun j hj => hY j (by simp [hj]))
    simp only [Op.eqItems, Sem.run_bind, Nat.mul_one, p1, p2, Result.andThen_ok, run_equalIn_int d hu]
    cases h : (f i == g i)
    · simp [h]
    · simp [h, ih]
theorem run_eql_ints {t e : TypeId} {n : Nat} {i : TypeInfo} {k : IntKind} (ht : P.underlying t = some (.array n e)) (hi : P.info? e = some i) (hu : P.underlying e = some (.int k)) (hp : P.plainKey e = true) (hc : P.cellsOf e = 1)
    (f g : Nat → Int) (X Y : Array Value) (hX : ∀ j, j < n → X[j]? = some (.int k (f j))) (hY : ∀ j, j < n → Y[j]? = some (.int k (g j))) (w : World) :
    (binOp .eql t (.agg X) (.agg Y)).run P w = .ok (.bool ((List.range n).all fun j => f j == g j)) w := by
  simp only [binOp]
  have h := run_equalIn_array w 9999 X Y ht hi
  rw [hc, run_eqItems_ints 9998 hu hp f g X Y w _ (fun j hj => hX j (List.mem_range.1 hj)) (fun j hj => hY j (List.mem_range.1 hj))] at h
  simp [Op.equal, Op.maxDepth, h]
theorem run_neq_ints {t e : TypeId} {n : Nat} {i : TypeInfo} {k : IntKind} (ht : P.underlying t = some (.array n e)) (hi : P.info? e = some i) (hu : P.underlying e = some (.int k)) (hp : P.plainKey e = true) (hc : P.cellsOf e = 1)
    (f g : Nat → Int) (X Y : Array Value) (hX : ∀ j, j < n → X[j]? = some (.int k (f j))) (hY : ∀ j, j < n → Y[j]? = some (.int k (g j))) (w : World) :
    (binOp .neq t (.agg X) (.agg Y)).run P w = .ok (.bool !((List.range n).all fun j => f j == g j)) w := by
  simp only [binOp]
  have h := run_equalIn_array w 9999 X Y ht hi
  rw [hc, run_eqItems_ints 9998 hu hp f g X Y w _ (fun j hj => hX j (List.mem_range.1 hj)) (fun j hj => hY j (List.mem_range.1 hj))] at h
  simp [Op.equal, Op.maxDepth, h]
end


set_option maxRecDepth 100000 in
theorem plain_u8 : Tryd.prog.plainKey 5 = true := by kernel_rfl
theorem cells_u8 : Tryd.prog.cellsOf 5 = 1 := by kernel_rfl
theorem eql_self (xs : List Nat) (hl : xs.length = 32) (w : World) : (binOp .eql 51 (vB xs) (vB xs)).run Tryd.prog w = .ok (.bool true) w := by
  obtain ⟨i0, hi, _⟩ := info_parts Tryd.iU8
  have hg : ∀ j, j < 32 → (xs.map b8).toArray[j]? = some (.int .u8 ((xs.getD j 0 : Nat) : Int)) := fun j hj => by
    have : j < xs.length := by omega
    simp [List.getD_eq_getElem?_getD, this]
  rw [run_eql_ints (P := Tryd.prog) (t := 51) (e := 5) (n := 32) (k := .u8) u_d32 hi Tryd.uU8 plain_u8 cells_u8 (fun j => ((xs.getD j 0 : Nat) : Int)) (fun j => ((xs.getD j 0 : Nat) : Int)) _ _ hg hg]
  simp
theorem neq_self (xs : List Nat) (hl : xs.length = 32) (w : World) : (binOp .neq 51 (vB xs) (vB xs)).run Tryd.prog w = .ok (.bool false) w := by
  obtain ⟨i0, hi, _⟩ := info_parts Tryd.iU8
  have hg : ∀ j, j < 32 → (xs.map b8).toArray[j]? = some (.int .u8 ((xs.getD j 0 : Nat) : Int)) := fun j hj => by
    have : j < xs.length := by omega
    simp [List.getD_eq_getElem?_getD, this]
  rw [run_neq_ints (P := Tryd.prog) (t := 51) (e := 5) (n := 32) (k := .u8) u_d32 hi Tryd.uU8 plain_u8 cells_u8 (fun j => ((xs.getD j 0 : Nat) : Int)) (fun j => ((xs.getD j 0 : Nat) : Int)) _ _ hg hg]
  simp
theorem wpList_wanted {P : Program} {ops : Array Oper} {rest : List Oper} {o : Oper} {a : Act} {Q : Exit → Act → World → Prop} {w : World} (hg : Region.wanted o (yielded ops a.tmps) = true)
    (h : ∀ K : Act → World → Prop, (∀ a w, wpList P ops Q rest a w → K a w) → o.wp P a w K Q) : wpList P ops Q (o :: rest) a w :=
  wpList_step fun K hK => by simp only [hg, if_true]; exact h K hK
/-- Two digests that are one, held against each other. -/
theorem wp_eqD {ops : Array Oper} {rest : List Oper} {o : Oper} {a : Act} {Q : Exit → Act → World → Prop} {w : World} (hgd : Region.wanted o (yielded ops a.tmps) = true) (x y : Operand) (u : TypeId)
    (ho : o.op = .binOp .eql 51 x y u) (xs : List Nat) (hl : xs.length = 32) (hx : a.eval x = vB xs) (hy : a.eval y = vB xs) (h : wpList Tryd.prog ops Q rest (a.put o.dst (.bool true)) w) : wpList Tryd.prog ops Q (o :: rest) a w := by
  refine wpList_wanted hgd fun K hK => ?_
  have e := eql_self xs hl w
  unfold Oper.wp
  simp [execOp, ho, hx, hy, e, eqGuard, Result.andThen]
  exact hK _ _ h
theorem wp_neD {ops : Array Oper} {rest : List Oper} {o : Oper} {a : Act} {Q : Exit → Act → World → Prop} {w : World} (hgd : Region.wanted o (yielded ops a.tmps) = true) (x y : Operand) (u : TypeId)
    (ho : o.op = .binOp .neq 51 x y u) (xs : List Nat) (hl : xs.length = 32) (hx : a.eval x = vB xs) (hy : a.eval y = vB xs) (h : wpList Tryd.prog ops Q rest (a.put o.dst (.bool false)) w) : wpList Tryd.prog ops Q (o :: rest) a w := by
  refine wpList_wanted hgd fun K hK => ?_
  have e := neq_self xs hl w
  unfold Oper.wp
  simp [execOp, ho, hx, hy, e, eqGuard, Result.andThen]
  exact hK _ _ h
/-- The state of a text lies in block k. -/
def StAt (w : World) (k : Nat) (H : R8) (n : Nat) (p : List Nat) : Prop := Blk w k (cS (wordsS H p) (restS p) (cntS n p))
theorem StAt.up {W w1 : World} {k B : Nat} {H : R8} {n : Nat} {p : List Nat} (h : StAt W k H n p) (hb : Below B W w1) (hB : k < B) : StAt w1 k H n p := Blk.up h hb hB
theorem StAt.lt {W : World} {k : Nat} {H : R8} {n : Nat} {p : List Nat} (h : StAt W k H n p) : k < W.heap.size := Blk.lt h
theorem wp_ldS {ops : Array Oper} {rest : List Oper} {o : Oper} {a : Act} {Q : Exit → Act → World → Prop} {w : World} (hgd : Region.wanted o (yielded ops a.tmps) = true) (x : Operand) (ho : o.op = .load 76 x) (k : Nat) (hx : a.eval x = .pointer (some ⟨k, 0, none⟩))
    {H : R8} {n : Nat} {p : List Nat} (hs : StAt w k H n p) (h : wpList Tryd.prog ops Q rest (a.put o.dst (stV H n p)) w) : wpList Tryd.prog ops Q (o :: rest) a w := by
  obtain ⟨d, hu, hr⟩ := u_state'
  refine wpList_wanted hgd fun K hK => ?_
  exact wp_load_mid 76 x ho k 0 hx _ d (Blk.all hs) hu hr (info_state.trans (congrArg some (cS_length _ _ _ (restS_length p)).symm)) (hK _ _ h)
/-- A state stored into a variable of its own. -/
theorem wp_stS {ops : Array Oper} {rest : List Oper} {o : Oper} {a : Act} {Q : Exit → Act → World → Prop} {w : World} (hgd : Region.wanted o (yielded ops a.tmps) = true) (x y : Operand) (ho : o.op = .store 76 x y) (k : Nat) (hx : a.eval x = .pointer (some ⟨k, 0, none⟩))
    (H : R8) (n : Nat) (p : List Nat) (hy : a.eval y = stV H n p) (vs : List Value) (hv : Blk w k vs) (hl : vs.length = 73)
    (h : ∀ w2, StAt w2 k H n p → (∀ B W, Below B W w → B ≤ k → Below B W w2) → (∀ k' us, k' ≠ k → Blk w k' us → Blk w2 k' us) → wpList Tryd.prog ops Q rest (a.put o.dst undef) w2) : wpList Tryd.prog ops Q (o :: rest) a w := by
  refine wpList_wanted hgd fun K hK => ?_
  have hc := cS_length (wordsS H p) (restS p) (cntS n p) (restS_length p)
  refine wp_store_mid 76 x y ho k 0 (cS (wordsS H p) (restS p) (cntS n p)).toArray hx hy (by rw [List.size_toArray]; exact hv.there (by omega)) (by rw [List.size_toArray]; exact info_state.trans (congrArg some hc.symm)) (all_oneCell_toArray (one_cS _ _ _)) (hK _ _ (h _ ?_ ?_ ?_))
  · have h1 : Blk w k ([] ++ (vs ++ [])) := by simpa using hv
    have h2 := h1.store (o := 0) (b' := cS (wordsS H p) (restS p) (cntS n p)) rfl (by omega)
    rw [List.nil_append, List.append_nil] at h2
    exact h2
  · intro B W hb hB
    exact below_setCells _ _ _ hb hB
  · intro k' us hk hu
    exact hu.apart hk
/-- A variable for a state is made, and one is stored into it. -/
theorem wp_mkS {ops : Array Oper} {rest : List Oper} {o o2 : Oper} {a : Act} {Q : Exit → Act → World → Prop} {w : World} (hgd : o.guard = none) (hgd2 : o2.guard = none) (x : Tmp) (y : Operand) (ho : o.op = .alloc 76) (hd : o.dst = some x) (hd2 : o2.dst = none) (ho2 : o2.op = .store 76 (.tmp x) y)
    (H : R8) (n : Nat) (p : List Nat) (hx : (a.put (some x) (.pointer (some ⟨w.heap.size, 0, none⟩))).eval (.tmp x) = .pointer (some ⟨w.heap.size, 0, none⟩)) (hy : (a.put (some x) (.pointer (some ⟨w.heap.size, 0, none⟩))).eval y = stV H n p)
    (h : ∀ w2, StAt w2 w.heap.size H n p → Below w.heap.size w w2 → wpList Tryd.prog ops Q rest (a.put (some x) (.pointer (some ⟨w.heap.size, 0, none⟩))) w2) : wpList Tryd.prog ops Q (o :: o2 :: rest) a w := by
  refine wpList_plain hgd fun K hK => ?_
  have e : (execOp a.eval o).run Tryd.prog w = .ok (.value (.pointer (some ⟨w.heap.size, 0, none⟩))) (w.alloc (.cells zS.toArray 76)) := by
    unfold execOp
    simp [ho, zero_state, Instr.alloc, newVar, Value.cells, go_sem] <;> rfl
  unfold Oper.wp
  rw [e]
  refine hK _ _ ?_
  rw [hd]
  obtain ⟨y0, y1⟩ := al1 w zS.toArray 76
  have hwt : Region.wanted o2 (yielded ops (a.put (some x) (.pointer (some ⟨w.heap.size, 0, none⟩))).tmps) = true := by
    simp [Region.wanted, hgd2]
  refine wp_stS hwt (.tmp x) y ho2 w.heap.size hx H n p hy zS (by simpa using y0) zS_length ?_
  intro w2 h1 h2 _
  rw [hd2]
  exact h w2 h1 (h2 _ _ y1 (Nat.le_refl _))
end Go.Proofs.YtjcnfffmciahiaaDoor

/- Structs and rows that are built of parts: what lies where. -/
namespace Go.Proofs.YtjcnfffmciahiaaDoor
open Go.RowKit
set_option linter.unusedSimpArgs false
theorem lay_foldl (off : Nat) : ∀ (v : List Value) (n : Nat) (X : Array Value) (a b c : List Value), X.toList = a ++ (b ++ c) → a.length = off + n → b.length = v.length → ((v.zipIdx n).foldl (fun (cs : Array Value) (x : Value × Nat) => cs.setIfInBounds (off + x.2) x.1) X).toList = a ++ (v ++ c)
  | [], n, X, a, b, c, hX, ha, hb => by
    rw [List.length_eq_zero_iff.1 hb] at hX
    simpa using hX
  | x :: v, n, X, a, y :: b, c, hX, ha, hb => by
    rw [List.zipIdx_cons, List.foldl_cons]
    rw [lay_foldl off v (n + 1) _ (a ++ [x]) b c ?_ (by simp; omega) (by simpa using hb)]
    · simp
    · rw [Array.toList_setIfInBounds, hX, List.set_append_right _ _ (by omega), ha]
      simp
  | x :: v, n, X, a, [], c, hX, ha, hb => by simp at hb
theorem built_of {t : TypeId} {zc : Array Value} {places : List (Nat × Nat)} (hz : (Tryd.prog.info? t).map (·.zero) = some (some (.agg zc)))
    (hp : ((Tryd.prog.underlying t).bind fun d => match d with | .struct fields => fields.toList.mapM (fun f => (Tryd.prog.info? f.type).map fun i => (f.offset, i.size)) | _ => none) = some places) (parts : List (Nat × Value)) : Tryd.prog.built t parts = Instr.fill (places.toArray[·]?) zc parts := by
  unfold Program.built
  cases e1 : Tryd.prog.info? t with
  | none => simp [e1] at hz
  | some it =>
    have e3 : it.zero = some (.agg zc) := by simpa [e1] using hz
    cases e2 : Tryd.prog.underlying t with
    | none => simp [e2] at hp
    | some d =>
      rw [e2, Option.bind_some] at hp
      cases d <;> simp at hp
      rename_i fields
      simp only [e3, hp, Value.cells]
theorem foldl_zip (A : List Value) (f : Array Value → Value × Nat → Array Value) (X : Array Value) : A.toArray.zipIdx.foldl f X = A.zipIdx.foldl f X := by
  rw [← Array.foldl_toList, Array.toList_zipIdx]
theorem fill_step (pl : Nat → Option (Nat × Nat)) (X : Array Value) (i off : Nat) (v a b c : List Value) (rest : List (Nat × Value)) (hp : pl i = some (off, v.length)) (hX : X.toList = a ++ (b ++ c)) (ha : a.length = off) (hb : b.length = v.length) :
    Instr.fill pl X ((i, .agg v.toArray) :: rest) = Instr.fill pl (a ++ (v ++ c)).toArray rest := by
  have hs : X.size = a.length + (b.length + c.length) := by
    rw [← Array.length_toList, hX]
    simp
  rw [Instr.fill, hp]
  simp only [Value.cells, List.size_toArray]
  rw [if_neg (by simp; omega)]
  congr 1
  apply Array.ext'
  rw [foldl_zip]
  exact lay_foldl off v 0 X a b c hX (by omega) hb
end Go.Proofs.YtjcnfffmciahiaaDoor

/- Small laws that marks and trees share: bytes of digests; structs and slices that are built; an array sliced whole. -/
namespace Go.Proofs.YtjcnfffmciahiaaDoor
open Go.RowKit
set_option linter.unusedSimpArgs false
theorem dbyte_lt (H : R8) (k : Nat) : dbyte H k < 256 := by
  unfold dbyte
  omega
theorem sumS_low (p : List Nat) : ∀ x ∈ sumS p, x < 256 := by
  intro x hx
  unfold sumS digS at hx
  obtain ⟨j, _, rfl⟩ := List.mem_map.1 hx
  exact dbyte_lt _ _
end Go.Proofs.YtjcnfffmciahiaaDoor
