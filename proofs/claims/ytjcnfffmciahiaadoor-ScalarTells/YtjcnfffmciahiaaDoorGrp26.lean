/- Texts that were joined: GArr, Cpy. -/
import Derived.Test.YtjcnfffmciahiaaDoorGrp25
import Derived.Test.YtjcnfffmciahiaaDoorUpM
import Derived.ChangeKeysEq
import Derived.Laws.IdiomCopy
/- Arrays of bytes as values: an element by its place; arrays that are loaded and stored whole. -/
namespace Go.Proofs.YtjcnfffmciahiaaDoor
open Go.RowKit
set_option linter.unusedSimpArgs false
/-- An array of bytes as a value. -/
abbrev aB (xs : List Nat) : Value := .agg (xs.map b8).toArray
theorem gi_u8 : (Tryd.prog.info? 5).map (·.size) = some 1 := by kernel_rfl
theorem gsize_u8 (w : World) : (sizeOf 5).run Tryd.prog w = .ok 1 w := by
  cases hq : Tryd.prog.info? 5 with
  | none =>
    have := gi_u8
    simp [hq] at this
  | some i =>
    have hi : i.size = 1 := by simpa [hq] using gi_u8
    simp [sizeOf, typeInfo, hq, hi]
theorem gU8 : Tryd.prog.underlying 5 = some (.int .u8) := by kernel_rfl
theorem run_idxB {t : TypeId} {n : Nat} (ht : Tryd.prog.underlying t = some (.array n 5)) (xs : List Nat) (hl : xs.length = n) (i : Nat) (hi : i < n) (k : IntKind) (w : World) :
    (Instr.index t (aB xs) (.int k (i : Int))).run Tryd.prog w = .ok (b8 (xs.getD i 0)) w := by
  have h1 : (0 : Int) ≤ (i : Int) ∧ (i : Int) < (n : Int) := by omega
  have hlt : i < xs.length := by omega
  simp [Instr.index, run_underlying ht, asIntOf, h1, gsize_u8, part, run_underlying gU8, go_sem, hlt, List.getD_eq_getElem?_getD, hi]
section
variable {P : Program}
theorem ae_item (d : Nat) {e : TypeId} {k : IntKind} (hu : P.underlying e = some (.int k)) (a b : Int) (w : World) : (Op.equalIn (d + 1) e (.int k a) (.int k b)).run P w = .ok (a == b) w := by
  simp [Op.equalIn, run_underlying hu]
theorem ae_items (d : Nat) {e : TypeId} {k : IntKind} (hu : P.underlying e = some (.int k)) (hp : P.plainKey e = true) (f g : Nat → Int) (X Y : Array Value) (w : World) :
    ∀ is : List Nat, (∀ i ∈ is, X[i]? = some (.int k (f i))) → (∀ i ∈ is, Y[i]? = some (.int k (g i))) → (Op.eqItems (d + 1) e 1 X Y is).run P w = .ok (is.all fun i => f i == g i) w
  | [], _, _ => by simp [Op.eqItems]
  | i :: is, hX, hY => by
    have p1 := run_part_plain w hp (hX i (by simp))
    have p2 := run_part_plain w hp (hY i (by simp))
    have ih := ae_items d hu hp f g X Y w is (fun j hj => hX j (by simp [hj])) (fun j hj => hY j (by simp [hj]))
    simp only [Op.eqItems, Sem.run_bind, Nat.mul_one, p1, p2, Result.andThen_ok, ae_item d hu]
    cases h : (f i == g i)
    · simp [h]
    · simp [h, ih]
theorem ae_all {t e : TypeId} {n : Nat} {i : TypeInfo} {k : IntKind} (ht : P.underlying t = some (.array n e)) (hi : P.info? e = some i) (hu : P.underlying e = some (.int k)) (hp : P.plainKey e = true) (hc : P.cellsOf e = 1)
    (f g : Nat → Int) (X Y : Array Value) (hX : ∀ j, j < n → X[j]? = some (.int k (f j))) (hY : ∀ j, j < n → Y[j]? = some (.int k (g j))) (w : World) :
    (Op.equal t (.agg X) (.agg Y)).run P w = .ok ((List.range n).all fun j => f j == g j) w := by
  have h := run_equalIn_array w 9999 X Y ht hi
  rw [hc, ae_items 9998 hu hp f g X Y w _ (fun j hj => hX j (List.mem_range.1 hj)) (fun j hj => hY j (List.mem_range.1 hj))] at h
  simp [Op.equal, Op.maxDepth, h]
end
set_option maxRecDepth 100000 in
theorem gplain_u8 : Tryd.prog.plainKey 5 = true := by kernel_rfl
theorem gcells_u8 : Tryd.prog.cellsOf 5 = 1 := by kernel_rfl
/-- Arrays of bytes held against each other. -/
theorem eqA_run {t : TypeId} {n : Nat} (ht : Tryd.prog.underlying t = some (.array n 5)) (xs ys : List Nat) (hl : xs.length = n) (hl' : ys.length = n) (w : World) : (Op.equal t (aB xs) (aB ys)).run Tryd.prog w = .ok (decide (xs = ys)) w := by
  cases hi : Tryd.prog.info? 5 with
  | none =>
    have := gi_u8
    simp [hi] at this
  | some i0 =>
    have hg : ∀ (xs : List Nat), xs.length = n → ∀ j, j < n → (xs.map b8).toArray[j]? = some (.int .u8 ((xs.getD j 0 : Nat) : Int)) := fun xs hl j hj => by
      have : j < xs.length := by omega
      simp [List.getD_eq_getElem?_getD, this]
    rw [ae_all (P := Tryd.prog) (t := t) (e := 5) (n := n) (k := .u8) ht hi gU8 gplain_u8 gcells_u8 (fun j => ((xs.getD j 0 : Nat) : Int)) (fun j => ((ys.getD j 0 : Nat) : Int)) _ _ (hg xs hl) (hg ys hl')]
    congr 1
    by_cases h : xs = ys
    · subst h; simp
    · rw [decide_eq_false h, List.all_eq_false]
      apply Classical.byContradiction
      intro hn
      apply h
      apply List.ext_getElem (by omega)
      intro j h1 h2
      apply Classical.byContradiction
      intro hne
      apply hn
      refine ⟨j, List.mem_range.2 (by omega), ?_⟩
      simp only [List.getD_eq_getElem?_getD, List.getElem?_eq_getElem h1, List.getElem?_eq_getElem h2, Option.getD_some]
      simp only [beq_iff_eq]
      exact fun h => hne (Int.ofNat.inj h)
theorem eqA_dec {t : TypeId} {n : Nat} (ht : Tryd.prog.underlying t = some (.array n 5)) (xs ys : List Nat) (hl : xs.length = n) (hl' : ys.length = n) (w : World) : (binOp .eql t (aB xs) (aB ys)).run Tryd.prog w = .ok (.bool (decide (xs = ys))) w := by
  simp [binOp, eqA_run ht xs ys hl hl']
theorem neA_dec {t : TypeId} {n : Nat} (ht : Tryd.prog.underlying t = some (.array n 5)) (xs ys : List Nat) (hl : xs.length = n) (hl' : ys.length = n) (w : World) : (binOp .neq t (aB xs) (aB ys)).run Tryd.prog w = .ok (.bool (!decide (xs = ys))) w := by
  simp [binOp, eqA_run ht xs ys hl hl']
theorem yieldsA_load {P : Program} {o : Oper} {a : Act} {w : World} {φ : Value → World → Prop} (ty : TypeId) (x : Operand) (ho : o.op = .load ty x) (b f : Nat) (hx : a.eval x = .pointer (some ⟨b, f, none⟩)) (cs : List Value) (d : TypeDesc) (hc : w.rangeAt b f cs) (hu : P.underlying ty = some d) (hd : d.isRow = true) (hi : (P.info? ty).map (·.size) = some cs.length)
    (h : φ (.agg cs.toArray) w) : YieldsP P o a w φ := by
  have e : (execOp a.eval o).run P w = .ok (.value (.agg cs.toArray)) w := by
    unfold execOp
    simp only [ho, hx, Instr.loadAt, Instr.sureAddr, Sem.run_bind, Sem.run_pure, Result.andThen_ok, run_loadVar_mid w b f ty cs d hc hu hd hi]
  unfold YieldsP
  rw [e]
  exact ⟨h, Below.refl _ _⟩
theorem yieldsA_idx {o : Oper} {a : Act} {w : World} {φ : Value → World → Prop} {t : TypeId} {n : Nat} (ht : Tryd.prog.underlying t = some (.array n 5)) (x i : Operand) (ho : o.op = .index t x i) (xs : List Nat) (hl : xs.length = n) (j : Nat) (k : IntKind) (hj : j < n) (hx : a.eval x = aB xs) (hi : a.eval i = .int k (j : Int))
    (h : φ (b8 (xs.getD j 0)) w) : YieldsP Tryd.prog o a w φ := by
  have e : (execOp a.eval o).run Tryd.prog w = .ok (.value (b8 (xs.getD j 0))) w := by
    unfold execOp
    simp only [ho, hx, hi, run_idxB ht xs hl j hj, Sem.run_bind, Sem.run_pure, Result.andThen_ok]
  unfold YieldsP
  rw [e]
  exact ⟨h, Below.refl _ _⟩
theorem yieldsA_eq {o : Oper} {a : Act} {w : World} {φ : Value → World → Prop} {t u : TypeId} {n : Nat} (ht : Tryd.prog.underlying t = some (.array n 5)) (hg : Tryd.prog.eqGuardType Tryd.prog.depth t = false) (x y : Operand) (ho : o.op = .binOp .eql t x y u) (xs ys : List Nat) (hl : xs.length = n) (hl' : ys.length = n) (hx : a.eval x = aB xs) (hy : a.eval y = aB ys)
    (h : φ (.bool (decide (xs = ys))) w) : YieldsP Tryd.prog o a w φ := by
  have e : (execOp a.eval o).run Tryd.prog w = .ok (.value (.bool (decide (xs = ys)))) w := by
    have h1 := eqA_dec ht xs ys hl hl' w
    simp [execOp, ho, hx, hy, h1, eqGuard, Result.andThen, hg]
  unfold YieldsP
  rw [e]
  exact ⟨h, Below.refl _ _⟩
section
open Go.BigFrame
variable {ops : Array Oper} {rest : List Oper} {o : Oper} {a : Act} {C : World → Prop} {Q : Act → Prop}
/-- Arrays of bytes held against each other in a quiet walk. -/
theorem quietA_eq {t : TypeId} {n : Nat} (hgd : Region.wanted o (yielded ops a.tmps) = true) (ht : Tryd.prog.underlying t = some (.array n 5)) (hg : Tryd.prog.eqGuardType Tryd.prog.depth t = false) (x y : Operand) (u : TypeId) (ho : o.op = .binOp .eql t x y u) (xs ys : List Nat) (hl : xs.length = n) (hl' : ys.length = n) (hx : a.eval x = aB xs) (hy : a.eval y = aB ys) (b : Bool) (hb : decide (xs = ys) = b) (h : wpQuiet Tryd.prog ops C Q rest (a.put o.dst (.bool b))) : wpQuiet Tryd.prog ops C Q (o :: rest) a := by
  subst hb
  refine wpQuiet_want hgd fun K hK => ⟨.bool (decide (xs = ys)), fun w hw => ?_, hK _ h⟩
  have e : (execOp a.eval o).run Tryd.prog w = .ok (.value (.bool (decide (xs = ys)))) w := by
    have e1 := eqA_dec ht xs ys hl hl' w
    unfold execOp
    simp [ho, hx, hy, e1, eqGuard, hg]
  unfold Oper.quietAt
  rw [e]
  exact ⟨rfl, rfl⟩
theorem quietA_ne {t : TypeId} {n : Nat} (hgd : Region.wanted o (yielded ops a.tmps) = true) (ht : Tryd.prog.underlying t = some (.array n 5)) (hg : Tryd.prog.eqGuardType Tryd.prog.depth t = false) (x y : Operand) (u : TypeId) (ho : o.op = .binOp .neq t x y u) (xs ys : List Nat) (hl : xs.length = n) (hl' : ys.length = n) (hx : a.eval x = aB xs) (hy : a.eval y = aB ys) (b : Bool) (hb : (!decide (xs = ys)) = b) (h : wpQuiet Tryd.prog ops C Q rest (a.put o.dst (.bool b))) : wpQuiet Tryd.prog ops C Q (o :: rest) a := by
  subst hb
  refine wpQuiet_want hgd fun K hK => ⟨.bool (!decide (xs = ys)), fun w hw => ?_, hK _ h⟩
  have e : (execOp a.eval o).run Tryd.prog w = .ok (.value (.bool (!decide (xs = ys)))) w := by
    have e1 := neA_dec ht xs ys hl hl' w
    unfold execOp
    simp [ho, hx, hy, e1, eqGuard, hg]
  unfold Oper.quietAt
  rw [e]
  exact ⟨rfl, rfl⟩
theorem quietA_build0 {t : TypeId} {cs : Array Value} (hgd : Region.wanted o (yielded ops a.tmps) = true) (ho : o.op = .build t #[]) (hb : Tryd.prog.built t [] = some cs) (h : wpQuiet Tryd.prog ops C Q rest (a.put o.dst (.agg cs))) : wpQuiet Tryd.prog ops C Q (o :: rest) a := by
  refine wpQuiet_want hgd fun K hK => ⟨.agg cs, fun w hw => ?_, hK _ h⟩
  have e : (execOp a.eval o).run Tryd.prog w = .ok (.value (.agg cs)) w := by
    have e1 : (Instr.build t ((#[] : Array (Nat × Operand)).map fun x => (x.fst, a.eval x.snd))).run Tryd.prog w = .ok (.agg cs) w := run_build w t _ _ (by simpa using hb)
    unfold execOp
    simp only [ho, Sem.run_bind, e1, Result.andThen_ok, Sem.run_pure]
  unfold Oper.quietAt
  rw [e]
  exact ⟨rfl, rfl⟩
theorem quietA_ld {t : TypeId} {n : Nat} (hgd : Region.wanted o (yielded ops a.tmps) = true) (ht : Tryd.prog.underlying t = some (.array n 5)) (hi : (Tryd.prog.info? t).map (·.size) = some n) (x : Operand) (ho : o.op = .load t x) (k f : Nat) (hx : a.eval x = .pointer (some ⟨k, f, none⟩)) (xs : List Nat) (hl : xs.length = n) (hr : ∀ w, C w → w.rangeAt k f (xs.map b8)) (h : wpQuiet Tryd.prog ops C Q rest (a.put o.dst (aB xs))) : wpQuiet Tryd.prog ops C Q (o :: rest) a :=
  quiet_load hgd t x ho k f hx (xs.map b8) _ hr ht rfl (hi.trans (congrArg some (by rw [List.length_map, hl]))) h
end
theorem info_n {t : TypeId} {n : Nat} (h : (Tryd.prog.info? t).map (·.size) = some n) (xs : List Nat) (hl : xs.length = n) : (Tryd.prog.info? t).map (·.size) = some (xs.map b8).length := h.trans (congrArg some (by rw [List.length_map, hl]))
end Go.Proofs.YtjcnfffmciahiaaDoor

/- copy of bytes out of a row, and out of a slice, into a range that may be written; an array sliced from a place on. -/
namespace Go.Proofs.YtjcnfffmciahiaaDoor
open Go.RowKit
set_option linter.unusedSimpArgs false
theorem wp_copyR {ops : Array Oper} {rest : List Oper} {o : Oper} {act : Act} {Q : Exit → Act → World → Prop} {w : World} (hgd : o.guard = none) (d s : Operand)
    (ho : o.op = .call { callee := .builtin .copy, args := #[d, s], argTypes := #[27, 27] }) (b f dl dc g q sl sc : Nat) (xs : List Nat) (hd : act.eval d = .slice (some ⟨b, f, none⟩) dl dc) (hs : act.eval s = .slice (some ⟨g, q, none⟩) sl sc) (hn : xs.length = min sl dl) (hr : w.rangeAt g q (xs.map b8))
    (ht : w.there b f xs.length)
    (h : ∀ w2, Hid (w2 = w.setCells b f (xs.map b8)) → wpList Tryd.prog ops Q rest (act.put o.dst (.int .i64 ((xs.length : Nat) : Int))) w2) : wpList Tryd.prog ops Q (o :: rest) act w := by
  refine wpList_plain hgd fun K hK => ?_
  have hlen : (xs.map b8).length = min sl dl := by rw [List.length_map]; exact hn
  have hrun := run_copy_cells (P := Tryd.prog) w 27 27 o.type 5 b f dl dc ⟨g, q, none⟩ sl sc (xs.map b8) Tryd.uBytes gi_u8 hlen
    (fun j v hj => by rw [Addr.add_lit]; exact hr j v hj)
    (fun j hj => (ht j (by rw [List.length_map] at hj; exact hj)).1) (fun j hj => (ht j (by rw [List.length_map] at hj; exact hj)).2) (one_b8 _)
  rw [List.length_map] at hrun
  unfold Oper.wp
  simp [execOp, ho, resolve, invoke, builtin, hd, hs, hrun, Result.andThen]
  exact hK _ _ (h _ rfl)
theorem By.range {w : World} {a : Option Addr} {n c : Nat} {xs : List Nat} (h : By w (.slice a n c) xs) (hp : 0 < xs.length) : ∃ g q, a = some ⟨g, q, none⟩ ∧ n = xs.length ∧ w.rangeAt g q (xs.map b8) := by
  obtain ⟨a', c', e, h1, h2, h3⟩ := h
  cases e
  obtain ⟨g, q, e, hc⟩ := h3 hp
  refine ⟨g, q, e, rfl, fun j v hj => ?_⟩
  rw [List.getElem?_map] at hj
  rcases Nat.lt_or_ge j xs.length with h | h
  · rw [hc j h]
    simp [List.getD_eq_getElem?_getD, h] at hj ⊢
    exact hj
  · simp [List.getElem?_eq_none h] at hj
/-- The first bytes of a range. -/
theorem range_take {w : World} {g q : Nat} {vs : List Value} (h : w.rangeAt g q vs) (n : Nat) : w.rangeAt g q (vs.take n) := fun j v hj => by
  rw [List.getElem?_take] at hj
  split at hj
  · exact h j v hj
  · cases hj
/-- An array sliced from a place on. -/
theorem slice_from {t e : TypeId} {n : Nat} (ht : Tryd.prog.underlying t = some (.array n e)) (hz : (Tryd.prog.info? e).map (·.size) = some 1) (k : IntKind) (i : Nat) (hi : i < n) (b o : Nat) (w : World) :
    (Instr.sliceAt t (.pointer (some ⟨b, o, none⟩)) (some (.int k (i : Int))) none none).run Tryd.prog w = .ok (.slice (some ⟨b, o + i, none⟩) (n - i) (n - i)) w := by
  have ha : Tryd.prog.arrayLen t = n := by simp [Program.arrayLen, ht]
  have he : Tryd.prog.elem t = e := by simp [Program.elem, ht]
  rw [run_sliceAt_array_l w t ⟨b, o, none⟩ (by rw [ha, he]; exact ht) k (i : Int) (by omega) (by rw [ha]; omega), ha, he]
  cases hq : Tryd.prog.info? e with
  | none => simp [hq] at hz
  | some d =>
    have hs : d.size = 1 := by simpa [hq] using hz
    have hne : ¬ n = i := by omega
    simp [sizeOf, typeInfo, hq, hs, slicedAt, Addr.add_lit, hne]
theorem yields_all {o : Oper} {a : Act} {w : World} {φ : Value → World → Prop} {t e : TypeId} {n : Nat} (ht : Tryd.prog.underlying t = some (.array n e)) (hz : (Tryd.prog.info? e).map (·.size) = some 1) (hn : 0 < n) (x : Operand) (ho : o.op = .slice t x none none none) (b f : Nat) (hx : a.eval x = .pointer (some ⟨b, f, none⟩))
    (h : φ (.slice (some ⟨b, f, none⟩) n n) w) : YieldsP Tryd.prog o a w φ := by
  have e1 := slice_all ht hz hn b f w
  have e : (execOp a.eval o).run Tryd.prog w = .ok (.value (.slice (some ⟨b, f, none⟩) n n)) w := by
    unfold execOp
    simp [ho, hx, e1]
  unfold YieldsP
  rw [e]
  exact ⟨h, Below.refl _ _⟩
theorem yields_from {o : Oper} {a : Act} {w : World} {φ : Value → World → Prop} {t e : TypeId} {n : Nat} (ht : Tryd.prog.underlying t = some (.array n e)) (hz : (Tryd.prog.info? e).map (·.size) = some 1) (x y : Operand) (ho : o.op = .slice t x (some y) none none) (b f i : Nat) (k : IntKind) (hi : i < n) (hx : a.eval x = .pointer (some ⟨b, f, none⟩)) (hy : a.eval y = .int k (i : Int))
    (h : φ (.slice (some ⟨b, f + i, none⟩) (n - i) (n - i)) w) : YieldsP Tryd.prog o a w φ := by
  have e1 := slice_from ht hz k i hi b f w
  have e : (execOp a.eval o).run Tryd.prog w = .ok (.value (.slice (some ⟨b, f + i, none⟩) (n - i) (n - i))) w := by
    unfold execOp
    simp [ho, hx, hy, e1]
  unfold YieldsP
  rw [e]
  exact ⟨h, Below.refl _ _⟩
theorem yields_cutB {o : Oper} {act : Act} {w : World} {φ : Value → World → Prop} (x l : Operand)
    (ho : o.op = .slice 27 x (some l) none none) (a : Option Addr) (c n : Nat) (k : IntKind) (xs : List Nat) (hx : act.eval x = .slice a xs.length c) (hl : act.eval l = .int k (n : Int)) (hn : n ≤ xs.length)
    (h : φ (sliced a n xs.length c 1) w) : YieldsP Tryd.prog o act w φ := by
  have e1 : (Instr.sliceAt 27 (.slice a xs.length c) (some (.int k (n : Int))) none none).run Tryd.prog w = .ok (sliced a n xs.length c 1) w := by
    rw [run_sliceAt_slice (h := slice_elem), run_slice_l (ht := slice_elem) (h0 := by omega) (h1 := by omega), elem_bytes, size_u8]
    simp
  have e : (execOp act.eval o).run Tryd.prog w = .ok (.value (sliced a n xs.length c 1)) w := by
    unfold execOp
    simp [ho, hx, hl, e1]
  unfold YieldsP
  rw [e]
  exact ⟨h, Below.refl _ _⟩
end Go.Proofs.YtjcnfffmciahiaaDoor
