/- Texts that were joined: BK, Bs, SlA, HCut, GArr, Cpy. -/
import Derived.Test.YtfknkfninjjgbaaGreatDoorRows
import Derived.WalkKit
import Derived.WalkSpells
import Derived.WalkLawsBesides
import Derived.LoopN
import Derived.OwnWalk
import Derived.Laws.AppendOwn
import Derived.Laws.Rows
import Derived.Below
import Derived.Deep.MidRow
import Derived.BigQuiet
import Derived.Laws.AppendOwnNone
import Derived.Laws.OwnMore
import Derived.Laws.BytesString
import Derived.Test.YtfknkfninjjgbaaGreatDoorQUpToUpS
import Derived.ChangeKeysEq
import Derived.Laws.IdiomCopy
/- What a block of memory holds, whole or in ranges; and what a store of a range does to it. -/
namespace Go.Proofs.YtfknkfninjjgbaaGreatDoor
open Go.RowKit
abbrev b8 (x : Nat) : Value := .int .u8 ((x : Nat) : Int)
/-- Block k holds these cells, and none of it is frozen. -/
structure Blk (w : World) (k : Nat) (vs : List Value) : Prop where
 lt : k < w.heap.size
 cell : ∀ j v, vs[j]? = some v → w.cell? ⟨k, j, none⟩ = some v
 fz : ∀ j, w.frozen? ⟨k, j, none⟩ = false
theorem Blk.up {W w1 : World} {k : Nat} {vs : List Value} {B : Nat} (h : Blk W k vs) (hb : Below B W w1) (hB : k < B) : Blk w1 k vs :=
 ⟨Nat.lt_of_lt_of_le h.lt hb.size, fun j v hv => (hb.cell (p := ⟨k, j, none⟩) hB).trans (h.cell j v hv), fun j => (hb.frozen (p := ⟨k, j, none⟩) hB).trans (h.fz j)⟩
theorem Blk.al {w : World} {vs : List Value} {t : TypeId} {C : Array Value} {k : Nat} (hk : k = w.heap.size) (hC : C.toList = vs) : Blk (w.alloc (.cells C t)) k vs := by
 subst hk hC
 have hb : (w.alloc (.cells C t)).heap[w.heap.size]? = some (.cells C t) := by show (w.heap.push _)[w.heap.size]? = _; simp
 refine ⟨by simp, fun j v hv => ?_, fun j => ?_⟩
 ·rw [cell_of_row _ _ j C t _ hb]; simpa using hv
 ·unfold World.frozen?
  rw [hb]
  simp
theorem Blk.range {w : World} {k : Nat} {a b c : List Value} (h : Blk w k (a ++ (b ++ c))) {o : Nat} (ho : o = a.length) : w.rangeAt k o b := by
 subst ho
 intro j v hv
 refine h.cell _ _ ?_
 have hj := (List.getElem?_eq_some_iff.1 hv).1
 rw [List.getElem?_append_right (by omega), show a.length + j - a.length = j by omega, List.getElem?_append_left hj, hv]
theorem Blk.all {w : World} {k : Nat} {a : List Value} (h : Blk w k a) : w.rangeAt k 0 a := fun j v hv => by
 rw [Nat.zero_add]; exact h.cell j v hv
theorem Blk.there {w : World} {k : Nat} {vs : List Value} (h : Blk w k vs) {o n : Nat} (hn : o + n ≤ vs.length) : w.there k o n := fun j hj => by
 refine ⟨?_, h.fz _⟩
 rw [h.cell (o + j) vs[o + j] (List.getElem?_eq_getElem (by omega))]
 rfl
theorem size_setCell (w : World) (a : Addr) (v : Value) : (w.setCell a v).heap.size = w.heap.size := by simp [World.setCell]
theorem size_setCells (k : Nat) : ∀ (vs : List Value) (o : Nat) (w : World), (w.setCells k o vs).heap.size = w.heap.size
 | [], _, _ => rfl
 | v :: vs, o, w => (size_setCells k vs (o + 1) _).trans (size_setCell w _ v)
theorem Blk.store {w : World} {k : Nat} {a b c b' : List Value} (h : Blk w k (a ++ (b ++ c))) {o : Nat} (ho : o = a.length) (hl : b'.length = b.length) : Blk (w.setCells k o b') k (a ++ (b' ++ c)) := by
 subst ho
 have ht := h.there (o := a.length) (n := b'.length) (by simp; omega)
 refine ⟨by rw [size_setCells]; exact h.lt, fun j v hv => ?_, fun j => by rw [World.frozen?_setCells]; exact h.fz j⟩
 rcases Nat.lt_or_ge j a.length with h1 | h1
 ·rw [World.cell?_setCells_out k b' a.length w ⟨k, j, none⟩ (fun _ _ => Or.inl h1)]
  refine h.cell j v ?_
  rw [List.getElem?_append_left h1] at hv ⊢
  exact hv
 ·rw [List.getElem?_append_right h1] at hv
  rcases Nat.lt_or_ge (j - a.length) b'.length with h2 | h2
  ·rw [List.getElem?_append_left h2] at hv
   have := World.rangeAt_setCells_same w k a.length b' ht (j - a.length) v hv
   rwa [show a.length + (j - a.length) = j by omega] at this
  ·rw [World.cell?_setCells_out k b' a.length w ⟨k, j, none⟩ (fun _ _ => Or.inr (by show a.length + b'.length ≤ j; omega))]
   refine h.cell j v ?_
   rw [List.getElem?_append_right h1, List.getElem?_append_right (by omega), ← hl]
   rw [List.getElem?_append_right h2] at hv
   exact hv
theorem Blk.set {w : World} {k : Nat} {vs : List Value} (h : Blk w k vs) (j : Nat) (v : Value) (hj : j < vs.length) : Blk (w.setCell ⟨k, j, none⟩ v) k (vs.set j v) := by
 have h0 : Blk w k (vs.take j ++ ([vs[j]] ++ vs.drop (j + 1))) := by
  have e : vs.take j ++ ([vs[j]] ++ vs.drop (j + 1)) = vs := by simp
  rw [e]; exact h
 have := h0.store (o := j) (b' := [v]) (by simp; omega) rfl
 rw [List.set_eq_take_append_cons_drop, if_pos hj]
 exact this
theorem Blk.apart {w : World} {k k' o : Nat} {vs b : List Value} (h : Blk w k vs) (hk : k ≠ k') : Blk (w.setCells k' o b) k vs :=
 ⟨by rw [size_setCells]; exact h.lt, fun j v hv => by
  rw [World.cell?_setCells_out k' b o w ⟨k, j, none⟩ (fun e _ => absurd e hk)]; exact h.cell j v hv, fun j => by rw [World.frozen?_setCells]; exact h.fz j⟩
theorem Blk.apart1 {w : World} {k k' o : Nat} {vs : List Value} {v : Value} (h : Blk w k vs) (hk : k ≠ k') : Blk (w.setCell ⟨k', o, none⟩ v) k vs := h.apart (b := [v]) hk
theorem below_setCells {B k : Nat} {a : World} : ∀ (vs : List Value) (o : Nat) (w : World), Below B a w → B ≤ k → Below B a (w.setCells k o vs)
 | [], _, _, h, _ => h
 | v :: vs, o, _, h, hk => below_setCells vs (o + 1) _ (h.setCell hk v) hk
/-- A row stored whole; the world behind it by an equation. -/
theorem wp_store_eq {P : Program} {ops : Array Oper} {rest : List Oper} {op : Oper} {a : Act} {w : World} {Q : Exit → Act → World → Prop} (hgd : op.guard = none) (ty : TypeId) (x y : Operand) (ho : op.op = .store ty x y)
  (b o : Nat) (cs : List Value) (hx : a.eval x = .pointer (some ⟨b, o, none⟩)) (hy : a.eval y = .agg cs.toArray)
  (ht : w.there b o cs.length) (hi : (P.info? ty).map (·.size) = some cs.length) (h1 : ∀ v ∈ cs, v.oneCell' = true)
  (h : ∀ w2, Hid (w2 = w.setCells b o cs) → wpList P ops Q rest (a.put op.dst undef) w2) : wpList P ops Q (op :: rest) a w :=
 wpList_store_mid hgd ty x y ho b o cs.toArray hx hy (by rw [List.size_toArray]; exact ht) (by rw [List.size_toArray]; exact hi) (all_oneCell_toArray h1) (h _ rfl)
theorem one_uw (xs : List (BitVec 32)) (f : BitVec 32 → Int) : ∀ v ∈ xs.map (fun x => Value.int .u32 (f x)), v.oneCell' = true := fun v hv => by
 obtain ⟨x, _, rfl⟩ := List.mem_map.1 hv
 rfl
theorem one_b8 (xs : List Nat) : ∀ v ∈ xs.map b8, v.oneCell' = true := fun v hv => by
 obtain ⟨x, _, rfl⟩ := List.mem_map.1 hv
 rfl
theorem al1 (w : World) (C0 : Array Value) (t0 : TypeId) : Blk (w.alloc (.cells C0 t0)) w.heap.size C0.toList ∧ Below w.heap.size w (w.alloc (.cells C0 t0)) :=
 ⟨Blk.al rfl rfl, (Below.refl _ _).alloc (Nat.le_refl _) _⟩
theorem al2 (w : World) (C0 C1 : Array Value) (t0 t1 : TypeId) : Blk ((w.alloc (.cells C0 t0)).alloc (.cells C1 t1)) w.heap.size C0.toList ∧ Blk ((w.alloc (.cells C0 t0)).alloc (.cells C1 t1)) (w.heap.size + 1) C1.toList ∧ Below w.heap.size w ((w.alloc (.cells C0 t0)).alloc (.cells C1 t1)) := by
 obtain ⟨a0, a1⟩ := al1 w C0 t0
 obtain ⟨b0, b1⟩ := al1 (w.alloc (.cells C0 t0)) C1 t1
 rw [show (w.alloc (.cells C0 t0)).heap.size = w.heap.size + 1 by simp] at b0 b1
 exact ⟨a0.up b1 (by omega), b0, a1.trans (b1.mono (by omega))⟩
theorem al3 (w : World) (C0 C1 C2 : Array Value) (t0 t1 t2 : TypeId) : Blk (((w.alloc (.cells C0 t0)).alloc (.cells C1 t1)).alloc (.cells C2 t2)) w.heap.size C0.toList ∧ Blk (((w.alloc (.cells C0 t0)).alloc (.cells C1 t1)).alloc (.cells C2 t2)) (w.heap.size + 1) C1.toList ∧ Blk (((w.alloc (.cells C0 t0)).alloc (.cells C1 t1)).alloc (.cells C2 t2)) (w.heap.size + 1 + 1) C2.toList ∧ Below w.heap.size w (((w.alloc (.cells C0 t0)).alloc (.cells C1 t1)).alloc (.cells C2 t2)) := by
 obtain ⟨a0, a1, a2⟩ := al2 w C0 C1 t0 t1
 obtain ⟨b0, b1⟩ := al1 ((w.alloc (.cells C0 t0)).alloc (.cells C1 t1)) C2 t2
 rw [show ((w.alloc (.cells C0 t0)).alloc (.cells C1 t1)).heap.size = w.heap.size + 1 + 1 by simp] at b0 b1
 exact ⟨a0.up b1 (by omega), a1.up b1 (by omega), b0, a2.trans (b1.mono (by omega))⟩
/-- A row that was made and stored into whole. -/
theorem alst (w : World) (C : Array Value) (t : TypeId) (vs : List Value) (hC : vs.length = C.size) : Blk ((w.alloc (.cells C t)).setCells w.heap.size 0 vs) w.heap.size vs ∧ Below w.heap.size w ((w.alloc (.cells C t)).setCells w.heap.size 0 vs) := by
 obtain ⟨a0, a1⟩ := al1 w C t
 have h : Blk (w.alloc (.cells C t)) w.heap.size ([] ++ (C.toList ++ [])) := by simpa using a0
 have := h.store (o := 0) (b' := vs) rfl (by simpa using hC)
 exact ⟨by simpa using this, below_setCells _ _ _ a1 (Nat.le_refl _)⟩
/-- A row read whole in a quiet walk. -/
theorem quiet_load {P : Program} {ops : Array Oper} {C : World → Prop} {Q : Act → Prop} {o : Oper} {rest : List Oper} {a : Act} (hw : Region.wanted o (yielded ops a.tmps) = true) (ty : TypeId) (x : Operand) (ho : o.op = .load ty x)
  (b f : Nat) (hx : a.eval x = .pointer (some ⟨b, f, none⟩)) (cs : List Value) (d : TypeDesc) (hc : ∀ w, C w → w.rangeAt b f cs) (hu : P.underlying ty = some d) (hd : d.isRow = true) (hi : (P.info? ty).map (·.size) = some cs.length)
  (h : wpQuiet P ops C Q rest (a.put o.dst (.agg cs.toArray))) : wpQuiet P ops C Q (o :: rest) a := by
 refine BigFrame.wpQuiet_want hw fun K hK => ⟨.agg cs.toArray, fun w hw' => ?_, hK _ h⟩
 unfold Oper.quietAt
 have e : (execOp a.eval o).run P w = .ok (.value (.agg cs.toArray)) w := by
  unfold execOp
  simp only [ho, hx, Instr.loadAt, Instr.sureAddr, Sem.run_bind, Sem.run_pure, Result.andThen_ok, run_loadVar_mid w b f ty cs d (hc w hw') hu hd hi]
 rw [e]
 exact ⟨rfl, rfl⟩
theorem results_cell {P : Program} {fn : Func} {tmps : Array Value} {s : Tmp} {t : TypeId} {b : Nat} {cs : List Value} {d : TypeDesc} {W : World} (hr : fn.results = #[.cell s t]) (ht : tmps[s]?.getD undef = .pointer (some ⟨b, 0, none⟩)) (hc : W.rangeAt b 0 cs)
  (hu : P.underlying t = some d) (hd : d.isRow = true) (hi : (P.info? t).map (·.size) = some cs.length) : (results fn tmps).run P W = .ok (.agg cs.toArray) W := by
 have h1 := run_loadVar_mid (P := P) W b 0 t cs d hc hu hd hi
 simp [results, hr, ht, asAddr, h1]
theorem heap_setCell_at (w : World) (k o : Nat) (v : Value) (cs : List Value) (t : TypeId) (fz : Nat × Nat) (h : w.heap[k]? = some (.cells cs.toArray t fz)) : (w.setCell ⟨k, o, none⟩ v).heap[k]? = some (.cells (cs.set o v).toArray t fz) := by
 have hlt := (Array.getElem?_eq_some_iff.1 h).1
 have e : (w.setCell ⟨k, o, none⟩ v).heap = w.heap.modify k fun | .cells c elem frozen => .cells (if (⟨k, o, none⟩ : Addr).spot.isSome then c else c.setIfInBounds o v) elem frozen | o => o := rfl
 rw [e, Array.getElem?_modify, h]
 simp
theorem heap_setCells_at (k : Nat) (t : TypeId) (fz : Nat × Nat) : ∀ (vs a b c : List Value) (w : World), w.heap[k]? = some (.cells (a ++ (b ++ c)).toArray t fz) → b.length = vs.length → (w.setCells k a.length vs).heap[k]? = some (.cells (a ++ (vs ++ c)).toArray t fz)
 | [], a, b, c, w, h, hb => by
  rw [List.length_eq_zero_iff.1 hb] at h
  exact h
 | v :: vs, a, y :: b, c, w, h, hb => by
  have h1 := heap_setCell_at w k a.length v _ t fz h
  rw [List.set_append_right _ _ (Nat.le_refl _), Nat.sub_self, List.cons_append, List.set_cons_zero, show a ++ v :: (b ++ c) = (a ++ [v]) ++ (b ++ c) by simp] at h1
  have h2 := heap_setCells_at k t fz vs (a ++ [v]) b c _ h1 (by simpa using hb)
  rw [List.length_append, List.length_singleton] at h2
  rw [show a ++ (v :: vs ++ c) = (a ++ [v]) ++ (vs ++ c) by simp]
  exact h2
 | v :: vs, a, [], c, w, h, hb => by simp at hb
theorem heap_setCells_off (k j : Nat) (hj : j ≠ k) : ∀ (vs : List Value) (o : Nat) (w : World), (w.setCells k o vs).heap[j]? = w.heap[j]?
 | [], _, _ => rfl
 | v :: vs, o, w => (heap_setCells_off k j hj vs (o + 1) (w.setCell ⟨k, o, none⟩ v)).trans (Below.heap_setCell w ⟨k, o, none⟩ v j hj)
theorem Blk.put {w : World} {k : Nat} {vs us : List Value} (h : Blk w k vs) (hl : us.length = vs.length) : Blk (w.setCells k 0 us) k us := by
 have h1 : Blk w k ([] ++ (vs ++ [])) := by simpa using h
 have h2 := h1.store (o := 0) (b' := us) rfl (by omega)
 rw [List.nil_append, List.append_nil] at h2
 exact h2
end Go.Proofs.YtfknkfninjjgbaaGreatDoor

/- Slices of bytes: what one holds; rows of bytes that a call itself makes, and what append does to one. -/
namespace Go.Proofs.YtfknkfninjjgbaaGreatDoor
open Go.RowKit
theorem Tryz.uBytes : Tryz.prog.underlying 23 = some (.slice 5) := by kernel_rfl
theorem Tryz.uU8 : Tryz.prog.underlying 5 = some (.int .u8) := by kernel_rfl
theorem Tryz.uStr : Tryz.prog.underlying 9 = some .string := by kernel_rfl
theorem Tryz.iU8 : (Tryz.prog.info? 5).map (fun i => (i.zero, i.size, i.bytes)) = some (some (.int .u8 0), 1, 1) := by kernel_rfl
theorem lt_of_cellB {w : World} {b o : Nat} {v : Value} (h : w.cell? ⟨b, o, none⟩ = some v) : b < w.heap.size := World.block_lt_of_cell? w ⟨b, o, none⟩ h
theorem cell_top {w : World} {cs : Array Value} {t : TypeId} {k j : Nat} (hk : k = w.heap.size) : (w.alloc (.cells cs t)).cell? ⟨k, j, none⟩ = cs[j]? := by
 subst hk
 unfold World.cell?
 rw [heap_alloc_new w (.cells cs t)]
 simp
/-- The slice v holds the bytes xs. -/
def By (w : World) (v : Value) (xs : List Nat) : Prop :=
 ∃ a c, v = .slice a xs.length c ∧ xs.length ≤ c ∧ (a = none → c = 0) ∧ (0 < xs.length → ∃ b o, a = some ⟨b, o, none⟩ ∧ ∀ j, j < xs.length → w.cell? ⟨b, o + j, none⟩ = some (b8 (xs.getD j 0)))
theorem By.nil (w : World) : By w (.slice none 0 0) [] := ⟨none, 0, rfl, Nat.le_refl _, fun _ => rfl, fun h => absurd h (Nat.lt_irrefl _)⟩
theorem By.up {W w1 : World} {v : Value} {xs : List Nat} {B : Nat} (h : By W v xs) (hb : Below B W w1) (hB : W.heap.size ≤ B) : By w1 v xs := by
 obtain ⟨a, c, e, h1, h2, h3⟩ := h
 refine ⟨a, c, e, h1, h2, fun hp => ?_⟩
 obtain ⟨b, o, e2, hc⟩ := h3 hp
 exact ⟨b, o, e2, fun j hj => (hb.cell (p := ⟨b, o + j, none⟩) (Nat.lt_of_lt_of_le (lt_of_cellB (hc j hj)) hB)).trans (hc j hj)⟩
theorem By.of_cells {w : World} {b o c : Nat} {xs : List Nat} (h1 : xs.length ≤ c) (hc : ∀ j, j < xs.length → w.cell? ⟨b, o + j, none⟩ = some (b8 (xs.getD j 0))) : By w (.slice (some ⟨b, o, none⟩) xs.length c) xs :=
 ⟨_, c, rfl, h1, (fun h => by cases h), fun _ => ⟨b, o, rfl, hc⟩⟩
theorem By.one {w : World} {b : Nat} {x : Nat} (h : w.cell? ⟨b, 0, none⟩ = some (b8 x)) : By w (.slice (some ⟨b, 0, none⟩) 1 1) [x] :=
 By.of_cells (xs := [x]) (Nat.le_refl _) fun j hj => by match j, hj with | 0, _ => simpa using h
theorem By.two {w : World} {b : Nat} {x y : Nat} (h : w.cell? ⟨b, 0, none⟩ = some (b8 x)) (h1 : w.cell? ⟨b, 1, none⟩ = some (b8 y)) : By w (.slice (some ⟨b, 0, none⟩) 2 2) [x, y] :=
 By.of_cells (xs := [x, y]) (Nat.le_refl _) fun j hj => by match j, hj with | 0, _ => simpa using h | 1, _ => simpa using h1
theorem By.three {w : World} {b : Nat} {x y z : Nat} (h : w.cell? ⟨b, 0, none⟩ = some (b8 x)) (h1 : w.cell? ⟨b, 1, none⟩ = some (b8 y)) (h2 : w.cell? ⟨b, 2, none⟩ = some (b8 z)) : By w (.slice (some ⟨b, 0, none⟩) 3 3) [x, y, z] :=
 By.of_cells (xs := [x, y, z]) (Nat.le_refl _) fun j hj => by match j, hj with | 0, _ => simpa using h | 1, _ => simpa using h1 | 2, _ => simpa using h2
theorem By.four {w : World} {b : Nat} {x y z t : Nat} (h : w.cell? ⟨b, 0, none⟩ = some (b8 x)) (h1 : w.cell? ⟨b, 1, none⟩ = some (b8 y)) (h2 : w.cell? ⟨b, 2, none⟩ = some (b8 z)) (h3 : w.cell? ⟨b, 3, none⟩ = some (b8 t)) : By w (.slice (some ⟨b, 0, none⟩) 4 4) [x, y, z, t] :=
 By.of_cells (xs := [x, y, z, t]) (Nat.le_refl _) fun j hj => by match j, hj with | 0, _ => simpa using h | 1, _ => simpa using h1 | 2, _ => simpa using h2 | 3, _ => simpa using h3
/-- The slice v is a row of bytes that the call made (its block from B on), and holds xs. -/
def Ob (w : World) (B : Nat) (v : Value) (xs : List Nat) : Prop := w.ownsRow B 5 1 v xs.length (xs.map b8)
theorem Ob.nil (w : World) (B : Nat) : Ob w B (.slice none 0 0) [] := World.ownsRow_nil _ _ _ _
theorem Ob.up {W w1 : World} {B : Nat} {v : Value} {xs : List Nat} (h : Ob W B v xs) (hb : Below W.heap.size W w1) : Ob w1 B v xs := by
 refine ⟨h.1, ?_⟩
 rcases h.2 with h' | ⟨g, cap, cur, e, hB, hg, rest⟩
 ·exact .inl h'
 ·exact .inr ⟨g, cap, cur, e, hB, (hb.block g (Array.getElem?_eq_some_iff.1 hg).1).trans hg, rest⟩
theorem Ob.by {w : World} {B : Nat} {v : Value} {xs : List Nat} (h : Ob w B v xs) : By w v xs := by
 rcases h.2 with ⟨e, e2⟩ | ⟨g, cap, cur, e, hB, hg, hn, rest⟩
 ·rw [List.length_eq_zero_iff.1 e2, e]
  exact By.nil w
 ·rw [e]
  refine By.of_cells hn fun j hj => ?_
  have h2 : w.ownsRow B 5 1 (.slice (some ⟨g, 0, none⟩) xs.length cap) xs.length (xs.map b8) := by rw [← e]; exact h
  rw [Nat.zero_add, h2.cellAt j (by omega)]
  simp [hj, b8]
theorem Ob.mono {w : World} {A B : Nat} {v : Value} {xs : List Nat} (h : Ob w B v xs) (hab : A ≤ B) : Ob w A v xs := by
 refine ⟨h.1, ?_⟩
 rcases h.2 with h' | ⟨g, cap, cur, e, hB, rest⟩
 ·exact .inl h'
 ·exact .inr ⟨g, cap, cur, e, Nat.le_trans hab hB, rest⟩
/-- append of bytes to a row that the call made. -/
theorem wp_appB {ops : Array Oper} {rest : List Oper} {o : Oper} {a : Act} {Q : Exit → Act → World → Prop} {w : World} (hgd : o.guard = none) (s x : Operand)
  (ho : o.op = .call { callee := .builtin .append, args := #[s, x], argTypes := #[23, 23] })
  (B : Nat) (v u : Value) (xs ys : List Nat) (W0 : World) (hs : a.eval s = v) (hown : Ob W0 B v xs) (hup : Below W0.heap.size W0 w) (hx : a.eval x = u) (hy : By w u ys)
  (hl : xs.length + ys.length ≤ 140737488355328) (hB : B ≤ W0.heap.size) (h : ∀ v' w', Ob w' B v' (xs ++ ys) → w.grownBy w' v.ownBlock → Below B W0 w' → wpList Tryz.prog ops Q rest (a.put o.dst v') w') : wpList Tryz.prog ops Q (o :: rest) a w := by
 obtain ⟨i0, hi, hz0, hz1, hz2⟩ := info_parts Tryz.iU8
 have hs0 := hup.size
 obtain ⟨ad, c, rfl, hyc, hn, hcells⟩ := hy
 cases ad with
 | none =>
  have hc0 := hn rfl
  have hy0 : ys = [] := List.length_eq_zero_iff.1 (by omega)
  subst hc0 hy0
  refine wpList_append_own_none hgd s x 23 ho B 5 i0 1 Tryz.uBytes hi v xs.length (xs.map b8) hs (hown.up hup) hx ?_
  exact h v w (by rw [List.append_nil]; exact hown.up hup) (World.grownBy.refl _ _) (hup.mono hB)
 | some ad =>
  refine wpList_append_own w hgd s x 23 ho B 5 i0 (.int .u8 0) 1 1 Tryz.uBytes hi hz0 hz1 hz2 rfl (by decide) v xs.length (xs.map b8) hs (hown.up hup) ad ys.length c (ys.map b8) hx (by simp) ?_ ?_ ?_ ?_ ?_ ?_
  ·intro j u hj
   have hj2 : j < ys.length := by
    have := (List.getElem?_eq_some_iff.1 hj).1
    simpa using this
   obtain ⟨b, o', e, hc⟩ := hcells (by omega)
   obtain rfl : ad = ⟨b, o', none⟩ := Option.some.inj e
   have := hc j hj2
   rw [List.getElem?_map, List.getElem?_eq_getElem hj2] at hj
   simp at hj
   simp only [List.getD_eq_getElem?_getD, List.getElem?_eq_getElem hj2, Option.getD_some] at this
   subst hj
   rw [Addr.add_lit]
   exact this
  ·intro u hu
   simp at hu
   obtain ⟨y, _, rfl⟩ := hu
   rfl
  ·unfold maxLen; omega
  ·omega
  ·omega
  ·intro v' w' hown' hg _
   refine h v' w' ?_ hg ?_
   ·unfold Ob
    rw [List.map_append, List.length_append]
    exact hown'
   ·refine Below.grown (hup.mono hB) hg (by omega) fun k hk => ?_
    exact ((hown.up hup).lt k hk).1
/-- The text of bytes. -/
def sOf (xs : List Nat) : ByteArray := ⟨(xs.map UInt8.ofNat).toArray⟩
theorem foldl_push : ∀ (l : List Nat) (s : ByteArray), (l.map fun n => ((n : Nat) : Int)).foldl (fun r n => r.push (UInt8.ofNat n.toNat)) s = ⟨s.data ++ (l.map UInt8.ofNat).toArray⟩
 | [], s => by simp
 | n :: l, s => by
  rw [List.map_cons, List.foldl_cons, foldl_push l]
  apply ByteArray.ext
  simp [ByteArray.push]
theorem bytes_conv {w : World} {v : Value} {xs : List Nat} (h : By w v xs) : (convert 23 9 v).run Tryz.prog w = .ok (.string (sOf xs)) w := by
 obtain ⟨a, c, rfl, h1, h2, h3⟩ := h
 rw [run_convert_bytes_string w _ _ 5 a _ c Tryz.uBytes Tryz.uU8 Tryz.uStr]
 cases a with
 | none =>
  have : xs = [] := List.length_eq_zero_iff.1 (by have := h2 rfl; omega)
  subst this
  simp [Conv.bytesToString, sOf, Sem.run_pure]
  rfl
 | some a =>
  rw [run_bytesToString w a _ c (xs.map fun n => ((n : Nat) : Int)) ?_, foldl_push]
  ·simp [sOf, ByteArray.empty, ByteArray.emptyWithCapacity]
   rfl
  ·have := run_loadCells_list (P := Tryz.prog) (w := w) a ((xs.map fun n => ((n : Nat) : Int)).map (Value.int .u8)) (fun j v hj => ?_)
   ·rw [List.length_map, List.length_map] at this
    exact this
   ·have hj2 : j < xs.length := by
     have := (List.getElem?_eq_some_iff.1 hj).1
     simpa using this
    obtain ⟨b, o, e, hc⟩ := h3 (by omega)
    obtain rfl : a = ⟨b, o, none⟩ := Option.some.inj e
    have := hc j hj2
    rw [List.getElem?_map, List.getElem?_map, List.getElem?_eq_getElem hj2] at hj
    simp at hj
    simp only [List.getD_eq_getElem?_getD, List.getElem?_eq_getElem hj2, Option.getD_some] at this
    subst hj
    rw [Addr.add_lit]
    exact this
theorem wp_conv {ops : Array Oper} {rest : List Oper} {o : Oper} {a : Act} {Q : Exit → Act → World → Prop} {w : World} (hgd : o.guard = none) (x : Operand)
  (ho : o.op = .convert 23 9 x) (u : Value) (xs : List Nat) (hx : a.eval x = u) (h : By w u xs) (hK : wpList Tryz.prog ops Q rest (a.put o.dst (.string (sOf xs))) w) : wpList Tryz.prog ops Q (o :: rest) a w := by
 refine wpList_plain hgd fun K hK2 => ?_
 unfold Oper.wp
 simp [execOp, ho, hx, bytes_conv h, Result.andThen]
 exact hK2 _ _ hK
theorem sOf_size (xs : List Nat) : (sOf xs).size = xs.length := by simp [sOf, ByteArray.size]
theorem sOf_append (xs ys : List Nat) : sOf xs ++ sOf ys = sOf (xs ++ ys) := by
 apply ByteArray.ext
 simp [sOf]
end Go.Proofs.YtfknkfninjjgbaaGreatDoor

/- An array sliced whole; bytes of a block as a slice; bytes one behind the other. -/
namespace Go.Proofs.YtfknkfninjjgbaaGreatDoor
open Go.RowKit
set_option linter.unusedSimpArgs false
theorem low_app {a b : List Nat} (ha : ∀ x ∈ a, x < 256) (hb : ∀ x ∈ b, x < 256) : ∀ x ∈ a ++ b, x < 256 := fun x hx => (List.mem_append.1 hx).elim (ha x) (hb x)
theorem slice_all {t e : TypeId} {n : Nat} (ht : Tryz.prog.underlying t = some (.array n e)) (hz : (Tryz.prog.info? e).map (·.size) = some 1) (hn : 0 < n) (b o : Nat) (w : World) :
  (Instr.sliceAt t (.pointer (some ⟨b, o, none⟩)) none none none).run Tryz.prog w = .ok (.slice (some ⟨b, o, none⟩) n n) w := by
 have ha : Tryz.prog.arrayLen t = n := by simp [Program.arrayLen, ht]
 have he : Tryz.prog.elem t = e := by simp [Program.elem, ht]
 rw [run_sliceAt_array_all w t ⟨b, o, none⟩ (by rw [ha, he]; exact ht), ha, he]
 cases hq : Tryz.prog.info? e with
 | none => simp [hq] at hz
 | some i =>
  have hi : i.size = 1 := by simpa [hq] using hz
  simp [sizeOf, typeInfo, hq, hi, slicedAt, Addr.add_zero', Nat.ne_of_gt hn]
theorem By.of_blk {w : World} {k n : Nat} {xs : List Nat} (h : Blk w k (xs.map b8)) (hl : xs.length = n) : By w (.slice (some ⟨k, 0, none⟩) n n) xs := by
 subst hl
 refine By.of_cells (Nat.le_refl _) fun j hj => ?_
 rw [Nat.zero_add]
 exact h.cell j _ (by simp [List.getD_eq_getElem?_getD, hj])
end Go.Proofs.YtfknkfninjjgbaaGreatDoor

/- How a slice of bytes is cut. -/
namespace Go.Proofs.YtfknkfninjjgbaaGreatDoor
open Go.RowKit
set_option linter.unusedSimpArgs false
theorem cinfo_u8 : (Tryz.prog.info? 5).map (·.size) = some 1 := by kernel_rfl
theorem By.len {w : World} {v : Value} {xs : List Nat} (h : By w v xs) : ∃ a c, v = .slice a xs.length c := by
 obtain ⟨a, c, e, _⟩ := h
 exact ⟨a, c, e⟩
theorem slice_elem : Tryz.prog.underlying 23 = some (.slice (Tryz.prog.elem 23)) := by kernel_rfl
theorem elem_bytes : Tryz.prog.elem 23 = 5 := by kernel_rfl
theorem size_u8 (w : World) : (sizeOf 5).run Tryz.prog w = .ok 1 w := by
 cases hq : Tryz.prog.info? 5 with
 | none => have := cinfo_u8; simp [hq] at this
 | some i =>
  have hi : i.size = 1 := by simpa [hq] using cinfo_u8
  simp [sizeOf, typeInfo, hq, hi]
/-- What is left behind the first n. -/
theorem By.cut {w : World} {a : Option Addr} {c n : Nat} {xs : List Nat} (h : By w (.slice a xs.length c) xs) (hn : n ≤ xs.length) : By w (sliced a n xs.length c 1) (xs.drop n) := by
 obtain ⟨a', c', e, h1, h2, h3⟩ := h
 cases e
 have hl : (xs.drop n).length = xs.length - n := List.length_drop
 refine ⟨if c = n then a else a.map (·.add (n * 1)), c - n, by rw [hl, sliced], by omega, fun h => ?_, fun hp => ?_⟩
 ·by_cases hc : c = n
  ·omega
  ·rw [if_neg hc] at h
   have := h2 (by simpa using h)
   omega
 ·obtain ⟨b, o, e, hc⟩ := h3 (by omega)
  subst e
  refine ⟨b, o + n, ?_, fun j hj => ?_⟩
  ·rw [if_neg (by omega), Nat.mul_one]
   simp [Addr.add_lit]
  ·have := hc (n + j) (by omega)
   rw [Nat.add_assoc, this]
   simp [List.getD_eq_getElem?_getD]
theorem By.front {w : World} {a : Option Addr} {c n : Nat} {xs : List Nat} (h : By w (.slice a xs.length c) xs) (hn : n ≤ xs.length) : By w (sliced a 0 n c 1) (xs.take n) := by
 obtain ⟨a', c', e, h1, h2, h3⟩ := h
 cases e
 have hl : (xs.take n).length = n := by rw [List.length_take]; omega
 refine ⟨a, c, ?_, by omega, h2, fun hp => ?_⟩
 ·rw [hl, sliced]
  cases a with
  | none => simp
  | some a => simp [Addr.add_zero']
 ·obtain ⟨b, o, e, hc⟩ := h3 (by omega)
  refine ⟨b, o, e, fun j hj => ?_⟩
  rw [hc j (by omega)]
  congr 2
  simp [List.getD_eq_getElem?_getD, List.getElem?_take, show j < n by omega]
theorem wp_cutB {ops : Array Oper} {rest : List Oper} {o : Oper} {act : Act} {Q : Exit → Act → World → Prop} {w : World} (hgd : o.guard = none) (x l : Operand)
  (ho : o.op = .slice 23 x (some l) none none) (a : Option Addr) (m c n : Nat) (k : IntKind) (z : Int) (xs : List Nat) (hx : act.eval x = .slice a m c) (hm : m = xs.length) (hl : act.eval l = .int k z) (hz : z = (n : Int)) (hn : n ≤ xs.length) (W0 : World) (hb : By W0 (.slice a m c) xs)
  (h : ∀ v', By W0 v' (xs.drop n) → wpList Tryz.prog ops Q rest (act.put o.dst v') w) : wpList Tryz.prog ops Q (o :: rest) act w := by
 subst hm hz
 refine wpList_plain hgd fun K hK2 => ?_
 have e : (Instr.sliceAt 23 (.slice a xs.length c) (some (.int k (n : Int))) none none).run Tryz.prog w = .ok (sliced a n xs.length c 1) w := by
  rw [run_sliceAt_slice (h := slice_elem), run_slice_l (ht := slice_elem) (h0 := by omega) (h1 := by omega), elem_bytes, size_u8]
  simp
 unfold Oper.wp
 simp [execOp, ho, hx, hl, e, Result.andThen]
 exact hK2 _ _ (h _ (hb.cut hn))
end Go.Proofs.YtfknkfninjjgbaaGreatDoor

/- Arrays of bytes as values: an element by its place; arrays that are loaded and stored whole. -/
namespace Go.Proofs.YtfknkfninjjgbaaGreatDoor
open Go.RowKit
set_option linter.unusedSimpArgs false
theorem gi_u8 : (Tryz.prog.info? 5).map (·.size) = some 1 := by kernel_rfl
section
variable {P : Program}
end
section
open Go.BigFrame
variable {ops : Array Oper} {rest : List Oper} {o : Oper} {a : Act} {C : World → Prop} {Q : Act → Prop}
end
end Go.Proofs.YtfknkfninjjgbaaGreatDoor

/- copy of bytes out of a row, and out of a slice, into a range that may be written; an array sliced from a place on. -/
namespace Go.Proofs.YtfknkfninjjgbaaGreatDoor
open Go.RowKit
set_option linter.unusedSimpArgs false
theorem wp_copyR {ops : Array Oper} {rest : List Oper} {o : Oper} {act : Act} {Q : Exit → Act → World → Prop} {w : World} (hgd : o.guard = none) (d s : Operand)
  (ho : o.op = .call { callee := .builtin .copy, args := #[d, s], argTypes := #[23, 23] }) (b f dl dc g q sl sc : Nat) (xs : List Nat) (hd : act.eval d = .slice (some ⟨b, f, none⟩) dl dc) (hs : act.eval s = .slice (some ⟨g, q, none⟩) sl sc) (hn : xs.length = min sl dl) (hr : w.rangeAt g q (xs.map b8))
  (ht : w.there b f xs.length)
  (h : ∀ w2, Hid (w2 = w.setCells b f (xs.map b8)) → wpList Tryz.prog ops Q rest (act.put o.dst (.int .i64 ((xs.length : Nat) : Int))) w2) : wpList Tryz.prog ops Q (o :: rest) act w := by
 refine wpList_plain hgd fun K hK => ?_
 have hlen : (xs.map b8).length = min sl dl := by rw [List.length_map]; exact hn
 have hrun := run_copy_cells (P := Tryz.prog) w 23 23 o.type 5 b f dl dc ⟨g, q, none⟩ sl sc (xs.map b8) Tryz.uBytes gi_u8 hlen
  (fun j v hj => by rw [Addr.add_lit]; exact hr j v hj)
  (fun j hj => (ht j (by rw [List.length_map] at hj; exact hj)).1) (fun j hj => (ht j (by rw [List.length_map] at hj; exact hj)).2) (one_b8 _)
 rw [List.length_map] at hrun
 unfold Oper.wp
 simp [execOp, ho, resolve, invoke, builtin, hd, hs, hrun, Result.andThen]
 exact hK _ _ (h _ rfl)
theorem By.range {w : World} {a : Option Addr} {n c : Nat} {xs : List Nat} (h : By w (.slice a n c) xs) (hp : 0 < xs.length) : ∃ g q, a = some ⟨g, q, none⟩ ∧ n = xs.length ∧ w.rangeAt g q (xs.map b8) := by
 obtain ⟨a', c', e, h1, h2, h3⟩ := h
 cases e
 obtain ⟨g, q, e, hc⟩ := h3 hp
 refine ⟨g, q, e, rfl, fun j v hj => ?_⟩
 rw [List.getElem?_map] at hj
 rcases Nat.lt_or_ge j xs.length with h | h
 ·rw [hc j h]
  simp [List.getD_eq_getElem?_getD, h] at hj ⊢
  exact hj
 ·simp [List.getElem?_eq_none h] at hj
/-- An array sliced from a place on. -/
theorem slice_from {t e : TypeId} {n : Nat} (ht : Tryz.prog.underlying t = some (.array n e)) (hz : (Tryz.prog.info? e).map (·.size) = some 1) (k : IntKind) (i : Nat) (hi : i < n) (b o : Nat) (w : World) :
  (Instr.sliceAt t (.pointer (some ⟨b, o, none⟩)) (some (.int k (i : Int))) none none).run Tryz.prog w = .ok (.slice (some ⟨b, o + i, none⟩) (n - i) (n - i)) w := by
 have ha : Tryz.prog.arrayLen t = n := by simp [Program.arrayLen, ht]
 have he : Tryz.prog.elem t = e := by simp [Program.elem, ht]
 rw [run_sliceAt_array_l w t ⟨b, o, none⟩ (by rw [ha, he]; exact ht) k (i : Int) (by omega) (by rw [ha]; omega), ha, he]
 cases hq : Tryz.prog.info? e with
 | none => simp [hq] at hz
 | some d =>
  have hs : d.size = 1 := by simpa [hq] using hz
  have hne : ¬ n = i := by omega
  simp [sizeOf, typeInfo, hq, hs, slicedAt, Addr.add_lit, hne]
theorem yields_all {o : Oper} {a : Act} {w : World} {φ : Value → World → Prop} {t e : TypeId} {n : Nat} (ht : Tryz.prog.underlying t = some (.array n e)) (hz : (Tryz.prog.info? e).map (·.size) = some 1) (hn : 0 < n) (x : Operand) (ho : o.op = .slice t x none none none) (b f : Nat) (hx : a.eval x = .pointer (some ⟨b, f, none⟩))
  (h : φ (.slice (some ⟨b, f, none⟩) n n) w) : YieldsP Tryz.prog o a w φ := by
 have e1 := slice_all ht hz hn b f w
 have e : (execOp a.eval o).run Tryz.prog w = .ok (.value (.slice (some ⟨b, f, none⟩) n n)) w := by
  unfold execOp
  simp [ho, hx, e1]
 unfold YieldsP
 rw [e]
 exact ⟨h, Below.refl _ _⟩
end Go.Proofs.YtfknkfninjjgbaaGreatDoor
