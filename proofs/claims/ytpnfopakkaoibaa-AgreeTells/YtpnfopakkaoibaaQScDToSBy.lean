/- Texts that were joined: ScD, ScF, BK, Bs, SlA, HCut, GArr, Cpy, Up3, ScOf, SNum, SBy. -/
import Derived.Test.YtpnfopakkaoibaaQQMathToAdN
import Derived.Test.YtpnfopakkaoibaaQPrimeLToAgM
import Derived.Test.YtpnfopakkaoibaaQNumToKn
import Derived.Test.YtpnfopakkaoibaaQUpA
import Derived.Test.YtpnfopakkaoibaaQPick
import Derived.Test.YtpnfopakkaoibaaQHalf
import Derived.Test.YtpnfopakkaoibaaRows
import Derived.WalkKit
import Derived.WalkSpells
import Derived.WalkLawsBesides
import Derived.LoopN
import Derived.OwnWalk
import Derived.Laws.AppendOwn
import Derived.Laws.Rows
import Derived.Below
import Derived.Deep.MidRow
import Derived.BigQuiet
import Derived.Laws.AppendOwnNone
import Derived.Laws.OwnMore
import Derived.Laws.BytesString
import Derived.Test.YtpnfopakkaoibaaQUpMToUpS
import Derived.ChangeKeysEq
import Derived.Laws.IdiomCopy
import Derived.Test.YtpnfopakkaoibaaQOctToCurvePk
import Derived.Test.YtpnfopakkaoibaaQDWordsToDNum
import Derived.Test.YtpnfopakkaoibaaQDDigPToFeN
import Derived.Test.YtpnfopakkaoibaaQDRestToDNumP
/- What package scalar must keep: its calls' contracts, by numbers modulo the order. -/
namespace Go.Proofs.Ytpnfopakkaoibaa
open Go.RowKit
set_option linter.unusedSimpArgs false
end Go.Proofs.Ytpnfopakkaoibaa

/- Package scalar, as it landed: L, less, Low, Reduce, Add, Neg, Mul. -/
namespace Go.Proofs.Ytpnfopakkaoibaa
open Go.RowKit
attribute [local go_sem] World.cell?_alloc_some cell_alloc2 cell_alloc3 cell_alloc4 frozen?_alloc_cells frozen_out
set_option linter.unusedSimpArgs false
end Go.Proofs.Ytpnfopakkaoibaa

/- What a block of memory holds, whole or in ranges; and what a store of a range does to it. -/
namespace Go.Proofs.Ytpnfopakkaoibaa
open Go.RowKit
abbrev b8 (x : Nat) : Value := .int .u8 ((x : Nat) : Int)
/-- Block k holds these cells, and none of it is frozen. -/
structure Blk (w : World) (k : Nat) (vs : List Value) : Prop where
  lt : k < w.heap.size
  cell : ∀ j v, vs[j]? = some v → w.cell? ⟨k, j, none⟩ = some v
  fz : ∀ j, w.frozen? ⟨k, j, none⟩ = false
theorem Blk.up {W w1 : World} {k : Nat} {vs : List Value} {B : Nat} (h : Blk W k vs) (hb : Below B W w1) (hB : k < B) : Blk w1 k vs :=
  ⟨Nat.lt_of_lt_of_le h.lt hb.size, fun j v hv => (hb.cell (p := ⟨k, j, none⟩) hB).trans (h.cell j v hv), fun j => (hb.frozen (p := ⟨k, j, none⟩) hB).trans (h.fz j)⟩
theorem Blk.al {w : World} {vs : List Value} {t : TypeId} {C : Array Value} {k : Nat} (hk : k = w.heap.size) (hC : C.toList = vs) : Blk (w.alloc (.cells C t)) k vs := by
  subst hk hC
  have hb : (w.alloc (.cells C t)).heap[w.heap.size]? = some (.cells C t) := by show (w.heap.push _)[w.heap.size]? = _; simp
  refine ⟨by simp, fun j v hv => ?_, fun j => ?_⟩
  · rw [cell_of_row _ _ j C t _ hb]; simpa using hv
  · unfold World.frozen?
    rw [hb]
    simp
theorem Blk.range {w : World} {k : Nat} {a b c : List Value} (h : Blk w k (a ++ (b ++ c))) {o : Nat} (ho : o = a.length) : w.rangeAt k o b := by
  subst ho
  intro j v hv
  refine h.cell _ _ ?_
  have hj := (List.getElem?_eq_some_iff.1 hv).1
  rw [List.getElem?_append_right (by omega), show a.length + j - a.length = j by omega, List.getElem?_append_left hj, hv]
theorem Blk.all {w : World} {k : Nat} {a : List Value} (h : Blk w k a) : w.rangeAt k 0 a := fun j v hv => by
  rw [Nat.zero_add]; exact h.cell j v hv
theorem Blk.there {w : World} {k : Nat} {vs : List Value} (h : Blk w k vs) {o n : Nat} (hn : o + n ≤ vs.length) : w.there k o n := fun j hj => by
  refine ⟨?_, h.fz _⟩
  rw [h.cell (o + j) vs[o + j] (List.getElem?_eq_getElem (by omega))]
  rfl
theorem size_setCell (w : World) (a : Addr) (v : Value) : (w.setCell a v).heap.size = w.heap.size := by simp [World.setCell]
theorem size_setCells (k : Nat) : ∀ (vs : List Value) (o : Nat) (w : World), (w.setCells k o vs).heap.size = w.heap.size
  | [], _, _ => rfl
  | v :: vs, o, w => (size_setCells k vs (o + 1) _).trans (size_setCell w _ v)
theorem Blk.store {w : World} {k : Nat} {a b c b' : List Value} (h : Blk w k (a ++ (b ++ c))) {o : Nat} (ho : o = a.length) (hl : b'.length = b.length) : Blk (w.setCells k o b') k (a ++ (b' ++ c)) := by
  subst ho
  have ht := h.there (o := a.length) (n := b'.length) (by simp; omega)
  refine ⟨by rw [size_setCells]; exact h.lt, fun j v hv => ?_, fun j => by rw [World.frozen?_setCells]; exact h.fz j⟩
  rcases Nat.lt_or_ge j a.length with h1 | h1
  · rw [World.cell?_setCells_out k b' a.length w ⟨k, j, none⟩ (fun _ _ => Or.inl h1)]
    refine h.cell j v ?_
    rw [List.getElem?_append_left h1] at hv ⊢
    exact hv
  · rw [List.getElem?_append_right h1] at hv
    rcases Nat.lt_or_ge (j - a.length) b'.length with h2 | h2
    · rw [List.getElem?_append_left h2] at hv
      have := World.rangeAt_setCells_same w k a.length b' ht (j - a.length) v hv
      rwa [show a.length + (j - a.length) = j by omega] at this
    · rw [World.cell?_setCells_out k b' a.length w ⟨k, j, none⟩ (fun _ _ => Or.inr (by show a.length + b'.length ≤ j; omega))]
      refine h.cell j v ?_
      rw [List.getElem?_append_right h1, List.getElem?_append_right (by omega), ← hl]
      rw [List.getElem?_append_right h2] at hv
      exact hv
theorem Blk.set {w : World} {k : Nat} {vs : List Value} (h : Blk w k vs) (j : Nat) (v : Value) (hj : j < vs.length) : Blk (w.setCell ⟨k, j, none⟩ v) k (vs.set j v) := by
  have h0 : Blk w k (vs.take j ++ ([vs[j]] ++ vs.drop (j + 1))) := by
    have e : vs.take j ++ ([vs[j]] ++ vs.drop (j + 1)) = vs := by simp
    rw [e]; exact h
  have := h0.store (o := j) (b' := [v]) (by simp; omega) rfl
  rw [List.set_eq_take_append_cons_drop, if_pos hj]
  exact this
theorem Blk.apart {w : World} {k k' o : Nat} {vs b : List Value} (h : Blk w k vs) (hk : k ≠ k') : Blk (w.setCells k' o b) k vs :=
  ⟨by rw [size_setCells]; exact h.lt, fun j v hv => by
    rw [World.cell?_setCells_out k' b o w ⟨k, j, none⟩ (fun e _ => absurd e hk)]; exact h.cell j v hv, fun j => by rw [World.frozen?_setCells]; exact h.fz j⟩
theorem Blk.apart1 {w : World} {k k' o : Nat} {vs : List Value} {v : Value} (h : Blk w k vs) (hk : k ≠ k') : Blk (w.setCell ⟨k', o, none⟩ v) k vs := h.apart (b := [v]) hk
theorem below_setCells {B k : Nat} {a : World} : ∀ (vs : List Value) (o : Nat) (w : World), Below B a w → B ≤ k → Below B a (w.setCells k o vs)
  | [], _, _, h, _ => h
  | v :: vs, o, _, h, hk => below_setCells vs (o + 1) _ (h.setCell hk v) hk
/-- A row stored whole; the world behind it by an equation. -/
theorem wp_store_eq {P : Program} {ops : Array Oper} {rest : List Oper} {op : Oper} {a : Act} {w : World} {Q : Exit → Act → World → Prop} (hgd : op.guard = none) (ty : TypeId) (x y : Operand) (ho : op.op = .store ty x y)
    (b o : Nat) (cs : List Value) (hx : a.eval x = .pointer (some ⟨b, o, none⟩)) (hy : a.eval y = .agg cs.toArray)
    (ht : w.there b o cs.length) (hi : (P.info? ty).map (·.size) = some cs.length) (h1 : ∀ v ∈ cs, v.oneCell' = true)
    (h : ∀ w2, Hid (w2 = w.setCells b o cs) → wpList P ops Q rest (a.put op.dst undef) w2) : wpList P ops Q (op :: rest) a w :=
  wpList_store_mid hgd ty x y ho b o cs.toArray hx hy (by rw [List.size_toArray]; exact ht) (by rw [List.size_toArray]; exact hi) (all_oneCell_toArray h1) (h _ rfl)
theorem al1 (w : World) (C0 : Array Value) (t0 : TypeId) : Blk (w.alloc (.cells C0 t0)) w.heap.size C0.toList ∧ Below w.heap.size w (w.alloc (.cells C0 t0)) :=
  ⟨Blk.al rfl rfl, (Below.refl _ _).alloc (Nat.le_refl _) _⟩
theorem al2 (w : World) (C0 C1 : Array Value) (t0 t1 : TypeId) : Blk ((w.alloc (.cells C0 t0)).alloc (.cells C1 t1)) w.heap.size C0.toList ∧ Blk ((w.alloc (.cells C0 t0)).alloc (.cells C1 t1)) (w.heap.size + 1) C1.toList ∧ Below w.heap.size w ((w.alloc (.cells C0 t0)).alloc (.cells C1 t1)) := by
  obtain ⟨a0, a1⟩ := al1 w C0 t0
  obtain ⟨b0, b1⟩ := al1 (w.alloc (.cells C0 t0)) C1 t1
  rw [show (w.alloc (.cells C0 t0)).heap.size = w.heap.size + 1 by simp] at b0 b1
  exact ⟨a0.up b1 (by omega), b0, a1.trans (b1.mono (by omega))⟩
theorem al3 (w : World) (C0 C1 C2 : Array Value) (t0 t1 t2 : TypeId) : Blk (((w.alloc (.cells C0 t0)).alloc (.cells C1 t1)).alloc (.cells C2 t2)) w.heap.size C0.toList ∧ Blk (((w.alloc (.cells C0 t0)).alloc (.cells C1 t1)).alloc (.cells C2 t2)) (w.heap.size + 1) C1.toList ∧ Blk (((w.alloc (.cells C0 t0)).alloc (.cells C1 t1)).alloc (.cells C2 t2)) (w.heap.size + 1 + 1) C2.toList ∧ Below w.heap.size w (((w.alloc (.cells C0 t0)).alloc (.cells C1 t1)).alloc (.cells C2 t2)) := by
  obtain ⟨a0, a1, a2⟩ := al2 w C0 C1 t0 t1
  obtain ⟨b0, b1⟩ := al1 ((w.alloc (.cells C0 t0)).alloc (.cells C1 t1)) C2 t2
  rw [show ((w.alloc (.cells C0 t0)).alloc (.cells C1 t1)).heap.size = w.heap.size + 1 + 1 by simp] at b0 b1
  exact ⟨a0.up b1 (by omega), a1.up b1 (by omega), b0, a2.trans (b1.mono (by omega))⟩
/-- A row read whole in a quiet walk. -/
theorem quiet_load {P : Program} {ops : Array Oper} {C : World → Prop} {Q : Act → Prop} {o : Oper} {rest : List Oper} {a : Act} (hw : Region.wanted o (yielded ops a.tmps) = true) (ty : TypeId) (x : Operand) (ho : o.op = .load ty x)
    (b f : Nat) (hx : a.eval x = .pointer (some ⟨b, f, none⟩)) (cs : List Value) (d : TypeDesc) (hc : ∀ w, C w → w.rangeAt b f cs) (hu : P.underlying ty = some d) (hd : d.isRow = true) (hi : (P.info? ty).map (·.size) = some cs.length)
    (h : wpQuiet P ops C Q rest (a.put o.dst (.agg cs.toArray))) : wpQuiet P ops C Q (o :: rest) a := by
  refine BigFrame.wpQuiet_want hw fun K hK => ⟨.agg cs.toArray, fun w hw' => ?_, hK _ h⟩
  unfold Oper.quietAt
  have e : (execOp a.eval o).run P w = .ok (.value (.agg cs.toArray)) w := by
    unfold execOp
    simp only [ho, hx, Instr.loadAt, Instr.sureAddr, Sem.run_bind, Sem.run_pure, Result.andThen_ok, run_loadVar_mid w b f ty cs d (hc w hw') hu hd hi]
  rw [e]
  exact ⟨rfl, rfl⟩
theorem results_cell {P : Program} {fn : Func} {tmps : Array Value} {s : Tmp} {t : TypeId} {b : Nat} {cs : List Value} {d : TypeDesc} {W : World} (hr : fn.results = #[.cell s t]) (ht : tmps[s]?.getD undef = .pointer (some ⟨b, 0, none⟩)) (hc : W.rangeAt b 0 cs)
    (hu : P.underlying t = some d) (hd : d.isRow = true) (hi : (P.info? t).map (·.size) = some cs.length) : (results fn tmps).run P W = .ok (.agg cs.toArray) W := by
  have h1 := run_loadVar_mid (P := P) W b 0 t cs d hc hu hd hi
  simp [results, hr, ht, asAddr, h1]
theorem heap_setCell_at (w : World) (k o : Nat) (v : Value) (cs : List Value) (t : TypeId) (fz : Nat × Nat) (h : w.heap[k]? = some (.cells cs.toArray t fz)) : (w.setCell ⟨k, o, none⟩ v).heap[k]? = some (.cells (cs.set o v).toArray t fz) := by
  have hlt := (Array.getElem?_eq_some_iff.1 h).1
  have e : (w.setCell ⟨k, o, none⟩ v).heap = w.heap.modify k fun | .cells c elem frozen => .cells (if (⟨k, o, none⟩ : Addr).spot.isSome then c else c.setIfInBounds o v) elem frozen | o => o := rfl
  rw [e, Array.getElem?_modify, h]
  simp
theorem heap_setCells_at (k : Nat) (t : TypeId) (fz : Nat × Nat) : ∀ (vs a b c : List Value) (w : World), w.heap[k]? = some (.cells (a ++ (b ++ c)).toArray t fz) → b.length = vs.length → (w.setCells k a.length vs).heap[k]? = some (.cells (a ++ (vs ++ c)).toArray t fz)
  | [], a, b, c, w, h, hb => by
    rw [List.length_eq_zero_iff.1 hb] at h
    exact h
  | v :: vs, a, y :: b, c, w, h, hb => by
    have h1 := heap_setCell_at w k a.length v _ t fz h
    rw [List.set_append_right _ _ (Nat.le_refl _), Nat.sub_self, List.cons_append, List.set_cons_zero, show a ++ v :: (b ++ c) = (a ++ [v]) ++ (b ++ c) by simp] at h1
    have h2 := heap_setCells_at k t fz vs (a ++ [v]) b c _ h1 (by simpa using hb)
    rw [List.length_append, List.length_singleton] at h2
    rw [show a ++ (v :: vs ++ c) = (a ++ [v]) ++ (vs ++ c) by simp]
    exact h2
  | v :: vs, a, [], c, w, h, hb => by simp at hb
theorem heap_setCells_off (k j : Nat) (hj : j ≠ k) : ∀ (vs : List Value) (o : Nat) (w : World), (w.setCells k o vs).heap[j]? = w.heap[j]?
  | [], _, _ => rfl
  | v :: vs, o, w => (heap_setCells_off k j hj vs (o + 1) (w.setCell ⟨k, o, none⟩ v)).trans (Below.heap_setCell w ⟨k, o, none⟩ v j hj)
theorem Blk.put {w : World} {k : Nat} {vs us : List Value} (h : Blk w k vs) (hl : us.length = vs.length) : Blk (w.setCells k 0 us) k us := by
  have h1 : Blk w k ([] ++ (vs ++ [])) := by simpa using h
  have h2 := h1.store (o := 0) (b' := us) rfl (by omega)
  rw [List.nil_append, List.append_nil] at h2
  exact h2
end Go.Proofs.Ytpnfopakkaoibaa

/- Slices of bytes: what one holds; rows of bytes that a call itself makes, and what append does to one. -/
namespace Go.Proofs.Ytpnfopakkaoibaa
open Go.RowKit
theorem lt_of_cellB {w : World} {b o : Nat} {v : Value} (h : w.cell? ⟨b, o, none⟩ = some v) : b < w.heap.size := World.block_lt_of_cell? w ⟨b, o, none⟩ h
/-- The slice v holds the bytes xs. -/
def By (w : World) (v : Value) (xs : List Nat) : Prop :=
  ∃ a c, v = .slice a xs.length c ∧ xs.length ≤ c ∧ (a = none → c = 0) ∧ (0 < xs.length → ∃ b o, a = some ⟨b, o, none⟩ ∧ ∀ j, j < xs.length → w.cell? ⟨b, o + j, none⟩ = some (b8 (xs.getD j 0)))
theorem By.nil (w : World) : By w (.slice none 0 0) [] := ⟨none, 0, rfl, Nat.le_refl _, fun _ => rfl, fun h => absurd h (Nat.lt_irrefl _)⟩
theorem By.up {W w1 : World} {v : Value} {xs : List Nat} {B : Nat} (h : By W v xs) (hb : Below B W w1) (hB : W.heap.size ≤ B) : By w1 v xs := by
  obtain ⟨a, c, e, h1, h2, h3⟩ := h
  refine ⟨a, c, e, h1, h2, fun hp => ?_⟩
  obtain ⟨b, o, e2, hc⟩ := h3 hp
  exact ⟨b, o, e2, fun j hj => (hb.cell (p := ⟨b, o + j, none⟩) (Nat.lt_of_lt_of_le (lt_of_cellB (hc j hj)) hB)).trans (hc j hj)⟩
theorem By.of_cells {w : World} {b o c : Nat} {xs : List Nat} (h1 : xs.length ≤ c) (hc : ∀ j, j < xs.length → w.cell? ⟨b, o + j, none⟩ = some (b8 (xs.getD j 0))) : By w (.slice (some ⟨b, o, none⟩) xs.length c) xs :=
  ⟨_, c, rfl, h1, (fun h => by cases h), fun _ => ⟨b, o, rfl, hc⟩⟩
theorem By.one {w : World} {b : Nat} {x : Nat} (h : w.cell? ⟨b, 0, none⟩ = some (b8 x)) : By w (.slice (some ⟨b, 0, none⟩) 1 1) [x] :=
  By.of_cells (xs := [x]) (Nat.le_refl _) fun j hj => by match j, hj with | 0, _ => simpa using h
theorem By.two {w : World} {b : Nat} {x y : Nat} (h : w.cell? ⟨b, 0, none⟩ = some (b8 x)) (h1 : w.cell? ⟨b, 1, none⟩ = some (b8 y)) : By w (.slice (some ⟨b, 0, none⟩) 2 2) [x, y] :=
  By.of_cells (xs := [x, y]) (Nat.le_refl _) fun j hj => by match j, hj with | 0, _ => simpa using h | 1, _ => simpa using h1
theorem By.three {w : World} {b : Nat} {x y z : Nat} (h : w.cell? ⟨b, 0, none⟩ = some (b8 x)) (h1 : w.cell? ⟨b, 1, none⟩ = some (b8 y)) (h2 : w.cell? ⟨b, 2, none⟩ = some (b8 z)) : By w (.slice (some ⟨b, 0, none⟩) 3 3) [x, y, z] :=
  By.of_cells (xs := [x, y, z]) (Nat.le_refl _) fun j hj => by match j, hj with | 0, _ => simpa using h | 1, _ => simpa using h1 | 2, _ => simpa using h2
theorem By.four {w : World} {b : Nat} {x y z t : Nat} (h : w.cell? ⟨b, 0, none⟩ = some (b8 x)) (h1 : w.cell? ⟨b, 1, none⟩ = some (b8 y)) (h2 : w.cell? ⟨b, 2, none⟩ = some (b8 z)) (h3 : w.cell? ⟨b, 3, none⟩ = some (b8 t)) : By w (.slice (some ⟨b, 0, none⟩) 4 4) [x, y, z, t] :=
  By.of_cells (xs := [x, y, z, t]) (Nat.le_refl _) fun j hj => by match j, hj with | 0, _ => simpa using h | 1, _ => simpa using h1 | 2, _ => simpa using h2 | 3, _ => simpa using h3
/-- The slice v is a row of bytes that the call made (its block from B on), and holds xs. -/
def Ob (w : World) (B : Nat) (v : Value) (xs : List Nat) : Prop := w.ownsRow B 5 1 v xs.length (xs.map b8)
theorem Ob.nil (w : World) (B : Nat) : Ob w B (.slice none 0 0) [] := World.ownsRow_nil _ _ _ _
theorem Ob.up {W w1 : World} {B : Nat} {v : Value} {xs : List Nat} (h : Ob W B v xs) (hb : Below W.heap.size W w1) : Ob w1 B v xs := by
  refine ⟨h.1, ?_⟩
  rcases h.2 with h' | ⟨g, cap, cur, e, hB, hg, rest⟩
  · exact .inl h'
  · exact .inr ⟨g, cap, cur, e, hB, (hb.block g (Array.getElem?_eq_some_iff.1 hg).1).trans hg, rest⟩
theorem Ob.by {w : World} {B : Nat} {v : Value} {xs : List Nat} (h : Ob w B v xs) : By w v xs := by
  rcases h.2 with ⟨e, e2⟩ | ⟨g, cap, cur, e, hB, hg, hn, rest⟩
  · rw [List.length_eq_zero_iff.1 e2, e]
    exact By.nil w
  · rw [e]
    refine By.of_cells hn fun j hj => ?_
    have h2 : w.ownsRow B 5 1 (.slice (some ⟨g, 0, none⟩) xs.length cap) xs.length (xs.map b8) := by rw [← e]; exact h
    rw [Nat.zero_add, h2.cellAt j (by omega)]
    simp [hj, b8]
theorem Ob.mono {w : World} {A B : Nat} {v : Value} {xs : List Nat} (h : Ob w B v xs) (hab : A ≤ B) : Ob w A v xs := by
  refine ⟨h.1, ?_⟩
  rcases h.2 with h' | ⟨g, cap, cur, e, hB, rest⟩
  · exact .inl h'
  · exact .inr ⟨g, cap, cur, e, Nat.le_trans hab hB, rest⟩
end Go.Proofs.Ytpnfopakkaoibaa

/- An array sliced whole; bytes of a block as a slice; bytes one behind the other. -/
namespace Go.Proofs.Ytpnfopakkaoibaa
open Go.RowKit
set_option linter.unusedSimpArgs false
theorem slice_all {t e : TypeId} {n : Nat} (ht : Try.prog.underlying t = some (.array n e)) (hz : (Try.prog.info? e).map (·.size) = some 1) (hn : 0 < n) (b o : Nat) (w : World) :
    (Instr.sliceAt t (.pointer (some ⟨b, o, none⟩)) none none none).run Try.prog w = .ok (.slice (some ⟨b, o, none⟩) n n) w := by
  have ha : Try.prog.arrayLen t = n := by simp [Program.arrayLen, ht]
  have he : Try.prog.elem t = e := by simp [Program.elem, ht]
  rw [run_sliceAt_array_all w t ⟨b, o, none⟩ (by rw [ha, he]; exact ht), ha, he]
  cases hq : Try.prog.info? e with
  | none => simp [hq] at hz
  | some i =>
    have hi : i.size = 1 := by simpa [hq] using hz
    simp [sizeOf, typeInfo, hq, hi, slicedAt, Addr.add_zero', Nat.ne_of_gt hn]
end Go.Proofs.Ytpnfopakkaoibaa

/- How a slice of bytes is cut. -/
namespace Go.Proofs.Ytpnfopakkaoibaa
open Go.RowKit
set_option linter.unusedSimpArgs false
/-- What is left behind the first n. -/
theorem By.cut {w : World} {a : Option Addr} {c n : Nat} {xs : List Nat} (h : By w (.slice a xs.length c) xs) (hn : n ≤ xs.length) : By w (sliced a n xs.length c 1) (xs.drop n) := by
  obtain ⟨a', c', e, h1, h2, h3⟩ := h
  cases e
  have hl : (xs.drop n).length = xs.length - n := List.length_drop
  refine ⟨if c = n then a else a.map (·.add (n * 1)), c - n, by rw [hl, sliced], by omega, fun h => ?_, fun hp => ?_⟩
  · by_cases hc : c = n
    · omega
    · rw [if_neg hc] at h
      have := h2 (by simpa using h)
      omega
  · obtain ⟨b, o, e, hc⟩ := h3 (by omega)
    subst e
    refine ⟨b, o + n, ?_, fun j hj => ?_⟩
    · rw [if_neg (by omega), Nat.mul_one]
      simp [Addr.add_lit]
    · have := hc (n + j) (by omega)
      rw [Nat.add_assoc, this]
      simp [List.getD_eq_getElem?_getD]
theorem By.front {w : World} {a : Option Addr} {c n : Nat} {xs : List Nat} (h : By w (.slice a xs.length c) xs) (hn : n ≤ xs.length) : By w (sliced a 0 n c 1) (xs.take n) := by
  obtain ⟨a', c', e, h1, h2, h3⟩ := h
  cases e
  have hl : (xs.take n).length = n := by rw [List.length_take]; omega
  refine ⟨a, c, ?_, by omega, h2, fun hp => ?_⟩
  · rw [hl, sliced]
    cases a with
    | none => simp
    | some a => simp [Addr.add_zero']
  · obtain ⟨b, o, e, hc⟩ := h3 (by omega)
    refine ⟨b, o, e, fun j hj => ?_⟩
    rw [hc j (by omega)]
    congr 2
    simp [List.getD_eq_getElem?_getD, List.getElem?_take, show j < n by omega]
end Go.Proofs.Ytpnfopakkaoibaa

/- Arrays of bytes as values: an element by its place; arrays that are loaded and stored whole. -/
namespace Go.Proofs.Ytpnfopakkaoibaa
open Go.RowKit
set_option linter.unusedSimpArgs false
section
variable {P : Program}
end
section
open Go.BigFrame
variable {ops : Array Oper} {rest : List Oper} {o : Oper} {a : Act} {C : World → Prop} {Q : Act → Prop}
end
end Go.Proofs.Ytpnfopakkaoibaa

/- copy of bytes out of a row, and out of a slice, into a range that may be written; an array sliced from a place on. -/
namespace Go.Proofs.Ytpnfopakkaoibaa
open Go.RowKit
set_option linter.unusedSimpArgs false
theorem By.range {w : World} {a : Option Addr} {n c : Nat} {xs : List Nat} (h : By w (.slice a n c) xs) (hp : 0 < xs.length) : ∃ g q, a = some ⟨g, q, none⟩ ∧ n = xs.length ∧ w.rangeAt g q (xs.map b8) := by
  obtain ⟨a', c', e, h1, h2, h3⟩ := h
  cases e
  obtain ⟨g, q, e, hc⟩ := h3 hp
  refine ⟨g, q, e, rfl, fun j v hj => ?_⟩
  rw [List.getElem?_map] at hj
  rcases Nat.lt_or_ge j xs.length with h | h
  · rw [hc j h]
    simp [List.getD_eq_getElem?_getD, h] at hj ⊢
    exact hj
  · simp [List.getElem?_eq_none h] at hj
theorem yields_all {o : Oper} {a : Act} {w : World} {φ : Value → World → Prop} {t e : TypeId} {n : Nat} (ht : Try.prog.underlying t = some (.array n e)) (hz : (Try.prog.info? e).map (·.size) = some 1) (hn : 0 < n) (x : Operand) (ho : o.op = .slice t x none none none) (b f : Nat) (hx : a.eval x = .pointer (some ⟨b, f, none⟩))
    (h : φ (.slice (some ⟨b, f, none⟩) n n) w) : YieldsP Try.prog o a w φ := by
  have e1 := slice_all ht hz hn b f w
  have e : (execOp a.eval o).run Try.prog w = .ok (.value (.slice (some ⟨b, f, none⟩) n n)) w := by
    unfold execOp
    simp [ho, hx, e1]
  unfold YieldsP
  rw [e]
  exact ⟨h, Below.refl _ _⟩
end Go.Proofs.Ytpnfopakkaoibaa

/- A region that draws its order of evaluation: readings and calls, then operations that wait for all of these, by whatever chain. Over any program. -/
namespace Go.Proofs.Ytpnfopakkaoibaa
open Go.RowKit
theorem wp_region_then3 {P : Program} {id : Nat} {Q : Exit → Act → World → Prop} {a : Act} {w : World} (m : Nat) {l : List Oper} (hm : P.follows .mixedOrders = true) (hB : Region.lexB .any (l.take m).toArray = true) (hS : allocB .any l.toArray m m = true) (hN : Region.noSelect l.toArray = true)
    (hmn : m ≤ l.length) (hQp : ∀ c a d v w, Q (.panic c) (a.put d v) w → Q (.panic c) a w)
    (h : ∃ aF, (∀ (U : Type) (_ : Nonempty U) (f : U → World), (∀ n, Hid (Below w.heap.size w (f n))) → Hid (∀ n w', Below (f n).heap.size (f n) w' → ∃ m, w' = f m) →
      wpQuiet P (l.take m).toArray (fun w' => ∃ n : U, w' = f n) (fun a' => a' = aF) (l.take m) a) ∧
    (∀ w', Hid (Below w.heap.size w w') → wpList P l.toArray Q (l.drop m) aF w')) :
    (Code.region id l.toArray true).wp P Q a w := by
  obtain ⟨aF, h1, h2⟩ := h
  refine wp_region_allocs m m (fun _ => .cells #[] 0) hm hB hS hN (Nat.le_refl _) hmn hQp (fun i o hi hi2 _ => absurd hi2 (by omega)) h1 (fun D w' hw' hn hr hc => ?_)
  have : D = [] := by
    cases D with
    | nil => rfl
    | cons p D => have := hr p (by simp); omega
  subst this
  exact h2 w' hw'.1
end Go.Proofs.Ytpnfopakkaoibaa

/- Package scalar, as it landed: ofHalves, Of. -/
namespace Go.Proofs.Ytpnfopakkaoibaa
open Go.RowKit
attribute [local go_sem] World.cell?_alloc_some cell_alloc2 cell_alloc3 cell_alloc4 frozen?_alloc_cells frozen_out
set_option linter.unusedSimpArgs false
/-- The number of bytes, the least first. -/
def S.le : List Nat → Nat
  | [] => 0
  | x :: xs => x + 256 * S.le xs
theorem S.le_append : ∀ xs ys : List Nat, S.le (xs ++ ys) = S.le xs + 256 ^ xs.length * S.le ys
  | [], ys => by simp [S.le]
  | x :: xs, ys => by
    rw [List.cons_append, S.le, S.le, S.le_append xs ys, List.length_cons, Nat.pow_succ, Nat.mul_comm (256 ^ xs.length) 256, Nat.mul_assoc]
    omega
theorem S.le_zeros : ∀ n, S.le (List.replicate n 0) = 0
  | 0 => rfl
  | n + 1 => by rw [List.replicate_succ, S.le, S.le_zeros n]
theorem S.le_lt : ∀ xs : List Nat, (∀ x ∈ xs, x < 256) → S.le xs < 256 ^ xs.length
  | [], _ => by simp [S.le]
  | x :: xs, h => by
    have h1 := S.le_lt xs fun y hy => h y (List.mem_cons_of_mem _ hy)
    have h2 := h x List.mem_cons_self
    rw [S.le, List.length_cons, Nat.pow_succ]
    omega
theorem S.le_at : ∀ (xs : List Nat), (∀ x ∈ xs, x < 256) → ∀ i, S.le xs / 256 ^ i % 256 = xs.getD i 0
  | [], _, i => by simp [S.le]
  | x :: xs, h, 0 => by
    have h2 := h x List.mem_cons_self
    rw [S.le, Nat.pow_zero, Nat.div_one]
    show _ = x
    omega
  | x :: xs, h, i + 1 => by
    have h2 := h x List.mem_cons_self
    rw [S.le, Nat.pow_succ, Nat.mul_comm (256 ^ i) 256, ← Nat.div_div_eq_div_mul, show (x + 256 * S.le xs) / 256 = S.le xs by omega, S.le_at xs (fun y hy => h y (List.mem_cons_of_mem _ hy)) i]
    simp
theorem S.row {xs : List Nat} (hl : xs.length = 32) (h : ∀ x ∈ xs, x < 256) : xs.map b8 = bR (S.le xs) := by
  apply List.ext_getElem?
  intro i
  by_cases hi : i < 32
  · have h1 := S.le_at xs h i
    rw [List.getD_eq_getElem?_getD, List.getElem?_eq_getElem (by omega)] at h1
    rw [List.getElem?_map, List.getElem?_eq_getElem (by omega)]
    simp only [Option.getD_some] at h1
    simp only [bR, List.getElem?_map, List.getElem?_range hi, Option.map_some]
    rw [h1]
  · rw [List.getElem?_eq_none (by simp; omega), List.getElem?_eq_none (by rw [bR_length]; omega)]
theorem S.low {xs : List Nat} (hl : xs.length = 32) (h : ∀ x ∈ xs, x < 256) : S.le xs < 2 ^ 256 := Nat.lt_of_lt_of_le (S.le_lt xs h) (by rw [hl]; decide)
/-- Thirty-two bytes: these, and noughts behind them. -/
def S.pad (xs : List Nat) : List Nat := xs ++ List.replicate (32 - xs.length) 0
theorem S.pad_le (xs : List Nat) : S.le (S.pad xs) = S.le xs := by rw [S.pad, S.le_append, S.le_zeros, Nat.mul_zero, Nat.add_zero]
theorem S.halves (xs : List Nat) : S.le xs = S.le (S.pad (xs.take 32)) + 2 ^ 256 * S.le (S.pad (xs.drop 32)) := by
  rw [S.pad_le, S.pad_le]
  rcases Nat.lt_or_ge 32 xs.length with h | h
  · conv => lhs; rw [← List.take_append_drop 32 xs]
    rw [S.le_append, List.length_take, Nat.min_eq_left (by omega), show (256 : Nat) ^ 32 = 2 ^ 256 by decide]
  · rw [List.take_of_length_le h, List.drop_of_length_le h, S.le, Nat.mul_zero, Nat.add_zero]
theorem u_b32r : (Try.prog.info? 5).map (·.size) = some 1 := by kernel_rfl
theorem wp_all32 {ops : Array Oper} {rest : List Oper} {o : Oper} {a : Act} {Q : Exit → Act → World → Prop} {w : World} (hgd : o.guard = none) (x : Operand) (ho : o.op = .slice 22 x none none none) (b : Nat) (hx : a.eval x = .pointer (some ⟨b, 0, none⟩))
    (h : wpList Try.prog ops Q rest (a.put o.dst (.slice (some ⟨b, 0, none⟩) 32 32)) w) : wpList Try.prog ops Q (o :: rest) a w := by
  refine wpList_plain hgd fun K hK => ?_
  have e1 := slice_all u_b32 u_b32r (by decide) b 0 w
  unfold Oper.wp
  simp [execOp, ho, hx, e1, Result.andThen]
  exact hK _ _ h
end Go.Proofs.Ytpnfopakkaoibaa

/- The document's numbers: how often the base makes nothing; the number of bytes. -/
namespace Go.Proofs.Ytpnfopakkaoibaa
open Go.RowKit
set_option linter.unusedSimpArgs false
attribute [local go_sem] YieldsP execOp
attribute [local simp] MP.eq_p MP.sl_p MP.sl2_p
theorem S.le_drop {xs : List Nat} {i : Nat} (h : i < xs.length) : S.le (xs.drop i) = S.le (xs.drop (i + 1)) * 256 + xs.getD i 0 := by
  rw [List.drop_eq_getElem_cons h, S.le, List.getD_eq_getElem?_getD, List.getElem?_eq_getElem h, Option.getD_some]
  omega
theorem times_c (Z : Nat) (h : Z < 65536 ^ 64) (u v : Value) (w : World) (su : Sl w u (P.dg Z)) (sv : Sl w v [256]) :
    Calls Try.prog 50 #[u, v] w fun e w' => (∃ v', e = .returned v' ∧ Sl w' v' (P.dg (Z * 256))) ∧ Below w.heap.size w w' := by
  have := dtimes_fun u v _ _ (P.dg_Dg Z) (P.Dg.one (show 256 < 65536 by decide)) (Nat.lt_trans (dshort h) (by decide)) (by decide) w su sv
  rwa [P.dv_dg, show P.dv [256] = 256 from rfl] at this
theorem plus_c (Z x : Nat) (h : Z < 65536 ^ 64) (hx : x < 256) (u v : Value) (w : World) (su : Sl w u (P.dg Z)) (sv : Sl w v [x]) :
    Calls Try.prog 49 #[u, v] w fun e w' => (∃ v', e = .returned v' ∧ Sl w' v' (P.dg (Z + x))) ∧ Below w.heap.size w w' := by
  have := dplus_fun u v _ _ (P.dg_Dg Z) (P.Dg.one (show x < 65536 by omega)) (Nat.lt_trans (dshort h) (by decide)) (by simp) w su sv
  rwa [P.dv_dg, show P.dv [x] = x by simp [P.dv]] at this
theorem By.at_K {w : World} {ad : Option Addr} {n c K : Nat} {bs : List Nat} (hv : By w (.slice ad n c) bs) (hn : bs.length = n) (hK : K < bs.length) : ∃ g q, ad = some ⟨g, q, none⟩ ∧ Hid (∀ W, Below w.heap.size w W → W.cell? ⟨g, q + K, none⟩ = some (b8 (bs.getD K 0))) := by
  have hv' := hv
  obtain ⟨a', c', e, h1, h2, h3⟩ := hv
  cases e
  obtain ⟨g, q, e2, hc⟩ := h3 (by omega)
  refine ⟨g, q, e2, fun W hW => ?_⟩
  obtain ⟨a'', c'', e, _, _, h4⟩ := hv'.up hW (Nat.le_refl _)
  cases e
  obtain ⟨g', q', e3, hc'⟩ := h4 (by omega)
  rw [e2] at e3
  cases e3
  exact hc' K hK
set_option maxRecDepth 20000 in
set_option maxHeartbeats 2000000 in
theorem number_fun (bs : List Nat) (lo : ∀ x ∈ bs, x < 256) (hl : bs.length ≤ 64) (v : Value) (w : World) (hv : By w v bs) :
    Calls Try.prog 25 #[v] w fun e w' => (∃ v', e = .returned v' ∧ Sl w' v' (P.dg (S.le bs))) ∧ Below w.heap.size w w' := by
  have HV : Hid (By w v bs) := hv
  have LD : Hid _ := lo
  have HL : Hid _ := hl
  obtain ⟨ad, c, rfl, _⟩ := hv
  obtain ⟨n, hn⟩ : ∃ n, Hid (bs.length = n) := ⟨_, rfl⟩
  rw [hn.out] at HV
  rw [hn.out]
  have n64 : n ≤ 64 := by rw [← hn.out]; exact hl
  have wn : IntKind.i64.wrap ((n : Int) - 1) = (n : Int) - 1 := by rw [IntKind.wrap_i64]; omega
  clear lo hl
  go_enter Try.func25, Try.ntmps25
  go_wp2_with fail
  go_loopw [3, 4] (fun l i wr => ∃ K : Nat, K ≤ n ∧ i = .int .i64 ((K : Int) - 1) ∧ Hid (Sl wr l (P.dg (S.le (bs.drop K)))) ∧ Hid (Below w.heap.size w wr)) (fun _ i _ => (intOf i + 1).toNat)
  case atStart => exact ⟨n, Nat.le_refl _, by first | rfl | go_num, .inl ⟨rfl, by rw [List.drop_of_length_le (by rw [hn.out]; exact Nat.le_refl _)]; exact P.dg_zero⟩, Below.refl _ _⟩
  case round =>
    obtain ⟨K, hK, rfl, sx, hb⟩ := hrel
    cases K with
    | zero =>
      rw [List.drop_zero] at sx
      have j0 : ¬ ((((0 : Nat) : Int)) - 1 ≥ 0) := by omega
      go_wp2_with fail
      go_ret
      exact ⟨⟨_, rfl, sx.out⟩, hb.out⟩
    | succ K =>
      have e1 : ((K + 1 : Nat) : Int) - 1 = (K : Int) := by omega
      rw [e1]
      have hKl : K < bs.length := by rw [hn.out]; omega
      have HD : Hid (S.le (bs.drop K) = S.le (bs.drop (K + 1)) * 256 + bs.getD K 0) := S.le_drop hKl
      have ZL : Hid (S.le (bs.drop (K + 1)) * 256 < 65536 ^ 64) := by
        have h1 := S.le_lt (bs.drop (K + 1)) (fun x hx => LD.out x (List.mem_of_mem_drop hx))
        have h2 := Nat.pow_le_pow_right (n := 256) (by decide) (show (bs.drop (K + 1)).length ≤ 64 by rw [List.length_drop, hn.out]; omega)
        have h3 : (256 : Nat) ^ 64 * 256 < 65536 ^ 64 := by decide
        exact Nat.lt_of_lt_of_le (Nat.mul_lt_mul_of_pos_right (Nat.lt_of_lt_of_le h1 h2) (by decide)) (Nat.le_of_lt h3)
      have la : bs.getD K 0 < 256 := by
        rw [List.getD_eq_getElem?_getD, List.getElem?_eq_getElem hKl]
        exact LD.out _ (List.getElem_mem hKl)
      obtain ⟨g, q, ea, CA⟩ := By.at_K HV.out hn.out hKl
      subst ea
      generalize S.le (bs.drop (K + 1)) = Z at *
      generalize bs.getD K 0 = x at *
      have x0' : (0 : Int) ≤ (x : Int) := by omega
      have x2' : (x : Int) < 256 := by omega
      have TI : Hid _ := times_c Z (Nat.lt_of_le_of_lt (Nat.le_mul_of_pos_right _ (by decide)) ZL.out)
      have PL : Hid _ := plus_c (Z * 256) x ZL.out la
      have k0 : (0 : Int) ≤ (K : Int) := by omega
      have k1 : (K : Int) < (n : Int) := by omega
      have HK : Hid (K + 1 ≤ n) := hK
      have j0 : (K : Int) ≥ 0 := k0
      have wk : IntKind.i64.wrap ((K : Int) - 1) = (K : Int) - 1 := by rw [IntKind.wrap_i64]; omega
      clear hK e1 hKl la
      go_wp2_with fail
      refine wp_region_monoE [MP.sl (P.dg Z), MP.sl [256], MP.sl (P.dg (Z * 256)), MP.eq (.slice (some ⟨g, q, none⟩) n c), MP.eq (.int .i64 (K : Int)), MP.eq (.pointer (some ⟨g, q + K, none⟩)), MP.eq (.int .u8 (x : Int)), MP.eq (.int .i64 (x : Int)), MP.sl [x], MP.sl (P.dg (Z * 256 + x)), MP.sl (P.dg (Z * 256 + x))] (by kernel_rfl) (by kernel_rfl) rfl ?_
      apply Exists.intro
      refine ⟨fun vals => ?_, ?_, fun vals4 w4 hb4 hF => ?_⟩
      · simp only [putsV, dstL, List.length_cons, List.length_nil, Nat.zero_add, Nat.reduceAdd, List.getElem?_cons_zero, List.getElem?_cons_succ, Option.bind_some, Act.put, List.setIfInBounds_toArray, List.set_cons_succ, List.set_cons_zero]
        rfl
      · refine ⟨?_, ?_, ?_, ?_, ?_, ?_, ?_, ?_, ?_, ?_, ?_, trivial⟩
        · intro vals W hW hw hd
          try simp [Region.binds] at hd
          refine ⟨by first | rfl | simp [Region.wanted, yielded, hd], ?_⟩
          have h9 : vals 10 = u3 := (hw.out 10 (by kernel_rfl)).trans rfl
          simp [go_sem, h9]
          exact ⟨Sl.up (xs := P.dg Z) sx.out hW.out, Below.refl _ _⟩
        · intro vals W hW hw hd
          try simp [Region.binds] at hd
          refine ⟨by first | rfl | simp [Region.wanted, yielded, hd], ?_⟩
          simp [go_sem]
          exact ⟨Sl.one W 256 _ rfl, (Below.refl _ _).alloc (Nat.le_refl _) _⟩
        · intro vals W hW hw hd
          try simp [Region.binds] at hd
          refine ⟨by first | rfl | simp [Region.wanted, yielded, hd], ?_⟩
          simp [go_sem]
          exact (TI.out _ _ _ (by simp [hd]) (by simp [hd])).mono fun e w' ⟨⟨v', he, hs⟩, hb⟩ => ⟨v', he, hs, hb⟩
        · intro vals W hW hw hd
          try simp [Region.binds] at hd
          refine ⟨by first | rfl | simp [Region.wanted, yielded, hd], ?_⟩
          simp [go_sem, hd]
          exact Below.refl _ _
        · intro vals W hW hw hd
          try simp [Region.binds] at hd
          refine ⟨by first | rfl | simp [Region.wanted, yielded, hd], ?_⟩
          simp [go_sem, hd]
          exact Below.refl _ _
        · intro vals W hW hw hd
          try simp [Region.binds] at hd
          refine ⟨by first | rfl | simp [Region.wanted, yielded, hd], ?_⟩
          simp [go_sem, hd, k0, k1]
          exact Below.refl _ _
        · intro vals W hW hw hd
          try simp [Region.binds] at hd
          refine ⟨by first | rfl | simp [Region.wanted, yielded, hd], ?_⟩
          have ca := CA.out W (hb.out.trans (hW.out.mono hb.out.size))
          simp [go_sem, hd, ca, b8]
          exact Below.refl _ _
        · intro vals W hW hw hd
          try simp [Region.binds] at hd
          refine ⟨by first | rfl | simp [Region.wanted, yielded, hd], ?_⟩
          simp [go_sem, hd]
          exact ⟨by rw [IntKind.wrap_i64]; omega, Below.refl _ _⟩
        · intro vals W hW hw hd
          try simp [Region.binds] at hd
          refine ⟨by first | rfl | simp [Region.wanted, yielded, hd], ?_⟩
          simp [go_sem, hd]
          exact ⟨Sl.one W x _ rfl, (Below.refl _ _).alloc (Nat.le_refl _) _⟩
        · intro vals W hW hw hd
          try simp [Region.binds] at hd
          refine ⟨by first | rfl | simp [Region.wanted, yielded, hd], ?_⟩
          simp [go_sem]
          exact (PL.out _ _ _ (by simp [hd]) (by simp [hd])).mono fun e w' ⟨⟨v', he, hs⟩, hb⟩ => ⟨v', he, hs, hb⟩
        · intro vals W hW hw hd
          try simp [Region.binds] at hd
          refine ⟨by first | rfl | simp [Region.wanted, yielded, hd], ?_⟩
          simp [go_sem]
          exact ⟨by simp [hd], Below.refl _ _⟩
      obtain ⟨f0, f1, f2, f3, f4, f5, f6, f7, f8, f9, f10, _⟩ := hF
      simp only [MP.eq_p] at f3 f4 f5 f6 f7
      simp only [MP.sl_p] at f10
      have S9 : Hid (Sl w4 (vals4 10) (P.dg (Z * 256 + x))) := f10
      rw [← HD.out] at S9
      have b4 : Hid (Below w.heap.size w w4) := hb.out.trans (hb4.out.mono hb.out.size)
      clear f10 hb4 hb TI PL sx HD ZL CA
      go_wp2_with fail
      go_roundw
      case rel =>
        have := HK.out
        exact ⟨K, by omega, by first | rfl | go_num, S9, b4⟩
      case measure => simp [intOf]
end Go.Proofs.Ytpnfopakkaoibaa

/- Thirty-two bytes of a number, as a list and as a slice. -/
namespace Go.Proofs.Ytpnfopakkaoibaa
open Go.RowKit
set_option linter.unusedSimpArgs false
/-- The bytes of a number, as a list. -/
def S.by (n : Nat) : List Nat := (List.range 32).map fun i => n / 256 ^ i % 256
theorem S.by_length (n : Nat) : (S.by n).length = 32 := by simp [S.by]
theorem S.by_low (n : Nat) : ∀ x ∈ S.by n, x < 256 := fun x hx => by
  obtain ⟨i, _, rfl⟩ := List.mem_map.1 hx
  exact Nat.mod_lt _ (by decide)
theorem S.by_row (n : Nat) : bR n = (S.by n).map b8 := by
  unfold bR S.by
  rw [List.map_map]
  rfl
theorem S.le_by {n : Nat} (hn : n < 2 ^ 256) : S.le (S.by n) = n := by
  have h1 := S.low (S.by_length n) (S.by_low n)
  have h3 := byte_eq (m := S.le (S.by n)) (n := n) 32 fun i hi => by
    rw [S.le_at _ (S.by_low n)]
    simp [S.by, hi]
  rw [show (256 : Nat) ^ 32 = 2 ^ 256 by decide, Nat.mod_eq_of_lt h1, Nat.mod_eq_of_lt hn] at h3
  exact h3
theorem Kn.by32 {w : World} {L : List (Nat × List Value)} (h : Kn w L) (i : Nat) {k n : Nat} (hp : L[i]? = some (k, bR n)) : By w (.slice (some ⟨k, 0, none⟩) 32 32) (S.by n) := by
  have hb := h.all _ (List.mem_of_getElem? hp)
  have := By.of_cells (w := w) (b := k) (o := 0) (c := 32) (xs := S.by n) (by rw [S.by_length]; decide) fun j hj => by
    rw [S.by_length] at hj
    rw [Nat.zero_add]
    refine hb.cell j _ ?_
    show (bR n)[j]? = _
    rw [S.by_row, List.getElem?_map, List.getElem?_eq_getElem (by rw [S.by_length]; exact hj)]
    simp [List.getD_eq_getElem?_getD, S.by_length, hj]
  rw [S.by_length] at this
  exact this
end Go.Proofs.Ytpnfopakkaoibaa
