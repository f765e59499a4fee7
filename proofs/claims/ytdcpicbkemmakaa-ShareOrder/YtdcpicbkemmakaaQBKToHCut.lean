/- Texts that were joined: BK, Bs, SlA, HCut. -/
import Derived.Test.YtdcpicbkemmakaaRows
import Derived.WalkKit
import Derived.WalkSpells
import Derived.WalkLawsBesides
import Derived.LoopN
import Derived.OwnWalk
import Derived.Laws.AppendOwn
import Derived.Laws.Rows
import Derived.Below
import Derived.Deep.MidRow
import Derived.BigQuiet
import Derived.Laws.AppendOwnNone
import Derived.Laws.OwnMore
import Derived.Laws.BytesString
/- What a block of memory holds, whole or in ranges; and what a store of a range does to it. -/
namespace Go.Proofs.Ytdcpicbkemmakaa
open Go.RowKit
abbrev b8 (x : Nat) : Value := .int .u8 ((x : Nat) : Int)
/-- Block k holds these cells, and none of it is frozen. -/
structure Blk (w : World) (k : Nat) (vs : List Value) : Prop where
  lt : k < w.heap.size
  cell : ∀ j v, vs[j]? = some v → w.cell? ⟨k, j, none⟩ = some v
  fz : ∀ j, w.frozen? ⟨k, j, none⟩ = false
theorem Blk.up {W w1 : World} {k : Nat} {vs : List Value} {B : Nat} (h : Blk W k vs) (hb : Below B W w1) (hB : k < B) : Blk w1 k vs :=
  ⟨Nat.lt_of_lt_of_le h.lt hb.size, fun j v hv => (hb.cell (p := ⟨k, j, none⟩) hB).trans (h.cell j v hv), fun j => (hb.frozen (p := ⟨k, j, none⟩) hB).trans (h.fz j)⟩
theorem Blk.al {w : World} {vs : List Value} {t : TypeId} {C : Array Value} {k : Nat} (hk : k = w.heap.size) (hC : C.toList = vs) : Blk (w.alloc (.cells C t)) k vs := by
  subst hk hC
  have hb : (w.alloc (.cells C t)).heap[w.heap.size]? = some (.cells C t) := by show (w.heap.push _)[w.heap.size]? = _; simp
  refine ⟨by simp, fun j v hv => ?_, fun j => ?_⟩
  · rw [cell_of_row _ _ j C t _ hb]; simpa using hv
  · unfold World.frozen?
    rw [hb]
    simp
theorem Blk.range {w : World} {k : Nat} {a b c : List Value} (h : Blk w k (a ++ (b ++ c))) {o : Nat} (ho : o = a.length) : w.rangeAt k o b := by
  subst ho
  intro j v hv
  refine h.cell _ _ ?_
  have hj := (List.getElem?_eq_some_iff.1 hv).1
  rw [List.getElem?_append_right (by omega), show a.length + j - a.length = j by omega, List.getElem?_append_left hj, hv]
theorem Blk.all {w : World} {k : Nat} {a : List Value} (h : Blk w k a) : w.rangeAt k 0 a := fun j v hv => by
  rw [Nat.zero_add]; exact h.cell j v hv
theorem Blk.there {w : World} {k : Nat} {vs : List Value} (h : Blk w k vs) {o n : Nat} (hn : o + n ≤ vs.length) : w.there k o n := fun j hj => by
  refine ⟨?_, h.fz _⟩
  rw [h.cell (o + j) vs[o + j] (List.getElem?_eq_getElem (by omega))]
  rfl
theorem size_setCell (w : World) (a : Addr) (v : Value) : (w.setCell a v).heap.size = w.heap.size := by simp [World.setCell]
theorem size_setCells (k : Nat) : ∀ (vs : List Value) (o : Nat) (w : World), (w.setCells k o vs).heap.size = w.heap.size
  | [], _, _ => rfl
  | v :: vs, o, w => (size_setCells k vs (o + 1) _).trans (size_setCell w _ v)
theorem Blk.store {w : World} {k : Nat} {a b c b' : List Value} (h : Blk w k (a ++ (b ++ c))) {o : Nat} (ho : o = a.length) (hl : b'.length = b.length) : Blk (w.setCells k o b') k (a ++ (b' ++ c)) := by
  subst ho
  have ht := h.there (o := a.length) (n := b'.length) (by simp; omega)
  refine ⟨by rw [size_setCells]; exact h.lt, fun j v hv => ?_, fun j => by rw [World.frozen?_setCells]; exact h.fz j⟩
  rcases Nat.lt_or_ge j a.length with h1 | h1
  · rw [World.cell?_setCells_out k b' a.length w ⟨k, j, none⟩ (fun _ _ => Or.inl h1)]
    refine h.cell j v ?_
    rw [List.getElem?_append_left h1] at hv ⊢
    exact hv
  · rw [List.getElem?_append_right h1] at hv
    rcases Nat.lt_or_ge (j - a.length) b'.length with h2 | h2
    · rw [List.getElem?_append_left h2] at hv
      have := World.rangeAt_setCells_same w k a.length b' ht (j - a.length) v hv
      rwa [show a.length + (j - a.length) = j by omega] at this
    · rw [World.cell?_setCells_out k b' a.length w ⟨k, j, none⟩ (fun _ _ => Or.inr (by show a.length + b'.length ≤ j; omega))]
      refine h.cell j v ?_
      rw [List.getElem?_append_right h1, List.getElem?_append_right (by omega), ← hl]
      rw [List.getElem?_append_right h2] at hv
      exact hv
theorem Blk.set {w : World} {k : Nat} {vs : List Value} (h : Blk w k vs) (j : Nat) (v : Value) (hj : j < vs.length) : Blk (w.setCell ⟨k, j, none⟩ v) k (vs.set j v) := by
  have h0 : Blk w k (vs.take j ++ ([vs[j]] ++ vs.drop (j + 1))) := by
    have e : vs.take j ++ ([vs[j]] ++ vs.drop (j + 1)) = vs := by simp
    rw [e]; exact h
  have := h0.store (o := j) (b' := [v]) (by simp; omega) rfl
  rw [List.set_eq_take_append_cons_drop, if_pos hj]
  exact this
theorem Blk.apart {w : World} {k k' o : Nat} {vs b : List Value} (h : Blk w k vs) (hk : k ≠ k') : Blk (w.setCells k' o b) k vs :=
  ⟨by rw [size_setCells]; exact h.lt, fun j v hv => by
    rw [World.cell?_setCells_out k' b o w ⟨k, j, none⟩ (fun e _ => absurd e hk)]; exact h.cell j v hv, fun j => by rw [World.frozen?_setCells]; exact h.fz j⟩
theorem below_setCells {B k : Nat} {a : World} : ∀ (vs : List Value) (o : Nat) (w : World), Below B a w → B ≤ k → Below B a (w.setCells k o vs)
  | [], _, _, h, _ => h
  | v :: vs, o, _, h, hk => below_setCells vs (o + 1) _ (h.setCell hk v) hk
/-- A row read whole in a quiet walk. -/
theorem quiet_load {P : Program} {ops : Array Oper} {C : World → Prop} {Q : Act → Prop} {o : Oper} {rest : List Oper} {a : Act} (hw : Region.wanted o (yielded ops a.tmps) = true) (ty : TypeId) (x : Operand) (ho : o.op = .load ty x)
    (b f : Nat) (hx : a.eval x = .pointer (some ⟨b, f, none⟩)) (cs : List Value) (d : TypeDesc) (hc : ∀ w, C w → w.rangeAt b f cs) (hu : P.underlying ty = some d) (hd : d.isRow = true) (hi : (P.info? ty).map (·.size) = some cs.length)
    (h : wpQuiet P ops C Q rest (a.put o.dst (.agg cs.toArray))) : wpQuiet P ops C Q (o :: rest) a := by
  refine BigFrame.wpQuiet_want hw fun K hK => ⟨.agg cs.toArray, fun w hw' => ?_, hK _ h⟩
  unfold Oper.quietAt
  have e : (execOp a.eval o).run P w = .ok (.value (.agg cs.toArray)) w := by
    unfold execOp
    simp only [ho, hx, Instr.loadAt, Instr.sureAddr, Sem.run_bind, Sem.run_pure, Result.andThen_ok, run_loadVar_mid w b f ty cs d (hc w hw') hu hd hi]
  rw [e]
  exact ⟨rfl, rfl⟩
theorem Blk.put {w : World} {k : Nat} {vs us : List Value} (h : Blk w k vs) (hl : us.length = vs.length) : Blk (w.setCells k 0 us) k us := by
  have h1 : Blk w k ([] ++ (vs ++ [])) := by simpa using h
  have h2 := h1.store (o := 0) (b' := us) rfl (by omega)
  rw [List.nil_append, List.append_nil] at h2
  exact h2
end Go.Proofs.Ytdcpicbkemmakaa

/- Slices of bytes: what one holds; rows of bytes that a call itself makes, and what append does to one. -/
namespace Go.Proofs.Ytdcpicbkemmakaa
open Go.RowKit
theorem lt_of_cellB {w : World} {b o : Nat} {v : Value} (h : w.cell? ⟨b, o, none⟩ = some v) : b < w.heap.size := World.block_lt_of_cell? w ⟨b, o, none⟩ h
/-- The slice v holds the bytes xs. -/
def By (w : World) (v : Value) (xs : List Nat) : Prop :=
  ∃ a c, v = .slice a xs.length c ∧ xs.length ≤ c ∧ (a = none → c = 0) ∧ (0 < xs.length → ∃ b o, a = some ⟨b, o, none⟩ ∧ ∀ j, j < xs.length → w.cell? ⟨b, o + j, none⟩ = some (b8 (xs.getD j 0)))
theorem By.nil (w : World) : By w (.slice none 0 0) [] := ⟨none, 0, rfl, Nat.le_refl _, fun _ => rfl, fun h => absurd h (Nat.lt_irrefl _)⟩
theorem By.up {W w1 : World} {v : Value} {xs : List Nat} {B : Nat} (h : By W v xs) (hb : Below B W w1) (hB : W.heap.size ≤ B) : By w1 v xs := by
  obtain ⟨a, c, e, h1, h2, h3⟩ := h
  refine ⟨a, c, e, h1, h2, fun hp => ?_⟩
  obtain ⟨b, o, e2, hc⟩ := h3 hp
  exact ⟨b, o, e2, fun j hj => (hb.cell (p := ⟨b, o + j, none⟩) (Nat.lt_of_lt_of_le (lt_of_cellB (hc j hj)) hB)).trans (hc j hj)⟩
theorem By.of_cells {w : World} {b o c : Nat} {xs : List Nat} (h1 : xs.length ≤ c) (hc : ∀ j, j < xs.length → w.cell? ⟨b, o + j, none⟩ = some (b8 (xs.getD j 0))) : By w (.slice (some ⟨b, o, none⟩) xs.length c) xs :=
  ⟨_, c, rfl, h1, (fun h => by cases h), fun _ => ⟨b, o, rfl, hc⟩⟩
theorem By.one {w : World} {b : Nat} {x : Nat} (h : w.cell? ⟨b, 0, none⟩ = some (b8 x)) : By w (.slice (some ⟨b, 0, none⟩) 1 1) [x] :=
  By.of_cells (xs := [x]) (Nat.le_refl _) fun j hj => by match j, hj with | 0, _ => simpa using h
theorem By.two {w : World} {b : Nat} {x y : Nat} (h : w.cell? ⟨b, 0, none⟩ = some (b8 x)) (h1 : w.cell? ⟨b, 1, none⟩ = some (b8 y)) : By w (.slice (some ⟨b, 0, none⟩) 2 2) [x, y] :=
  By.of_cells (xs := [x, y]) (Nat.le_refl _) fun j hj => by match j, hj with | 0, _ => simpa using h | 1, _ => simpa using h1
theorem By.three {w : World} {b : Nat} {x y z : Nat} (h : w.cell? ⟨b, 0, none⟩ = some (b8 x)) (h1 : w.cell? ⟨b, 1, none⟩ = some (b8 y)) (h2 : w.cell? ⟨b, 2, none⟩ = some (b8 z)) : By w (.slice (some ⟨b, 0, none⟩) 3 3) [x, y, z] :=
  By.of_cells (xs := [x, y, z]) (Nat.le_refl _) fun j hj => by match j, hj with | 0, _ => simpa using h | 1, _ => simpa using h1 | 2, _ => simpa using h2
theorem By.four {w : World} {b : Nat} {x y z t : Nat} (h : w.cell? ⟨b, 0, none⟩ = some (b8 x)) (h1 : w.cell? ⟨b, 1, none⟩ = some (b8 y)) (h2 : w.cell? ⟨b, 2, none⟩ = some (b8 z)) (h3 : w.cell? ⟨b, 3, none⟩ = some (b8 t)) : By w (.slice (some ⟨b, 0, none⟩) 4 4) [x, y, z, t] :=
  By.of_cells (xs := [x, y, z, t]) (Nat.le_refl _) fun j hj => by match j, hj with | 0, _ => simpa using h | 1, _ => simpa using h1 | 2, _ => simpa using h2 | 3, _ => simpa using h3
/-- The slice v is a row of bytes that the call made (its block from B on), and holds xs. -/
def Ob (w : World) (B : Nat) (v : Value) (xs : List Nat) : Prop := w.ownsRow B 5 1 v xs.length (xs.map b8)
theorem Ob.nil (w : World) (B : Nat) : Ob w B (.slice none 0 0) [] := World.ownsRow_nil _ _ _ _
theorem Ob.up {W w1 : World} {B : Nat} {v : Value} {xs : List Nat} (h : Ob W B v xs) (hb : Below W.heap.size W w1) : Ob w1 B v xs := by
  refine ⟨h.1, ?_⟩
  rcases h.2 with h' | ⟨g, cap, cur, e, hB, hg, rest⟩
  · exact .inl h'
  · exact .inr ⟨g, cap, cur, e, hB, (hb.block g (Array.getElem?_eq_some_iff.1 hg).1).trans hg, rest⟩
theorem Ob.by {w : World} {B : Nat} {v : Value} {xs : List Nat} (h : Ob w B v xs) : By w v xs := by
  rcases h.2 with ⟨e, e2⟩ | ⟨g, cap, cur, e, hB, hg, hn, rest⟩
  · rw [List.length_eq_zero_iff.1 e2, e]
    exact By.nil w
  · rw [e]
    refine By.of_cells hn fun j hj => ?_
    have h2 : w.ownsRow B 5 1 (.slice (some ⟨g, 0, none⟩) xs.length cap) xs.length (xs.map b8) := by rw [← e]; exact h
    rw [Nat.zero_add, h2.cellAt j (by omega)]
    simp [hj, b8]
theorem Ob.mono {w : World} {A B : Nat} {v : Value} {xs : List Nat} (h : Ob w B v xs) (hab : A ≤ B) : Ob w A v xs := by
  refine ⟨h.1, ?_⟩
  rcases h.2 with h' | ⟨g, cap, cur, e, hB, rest⟩
  · exact .inl h'
  · exact .inr ⟨g, cap, cur, e, Nat.le_trans hab hB, rest⟩
end Go.Proofs.Ytdcpicbkemmakaa

/- An array sliced whole; bytes of a block as a slice; bytes one behind the other. -/
namespace Go.Proofs.Ytdcpicbkemmakaa
open Go.RowKit
set_option linter.unusedSimpArgs false
end Go.Proofs.Ytdcpicbkemmakaa

/- How a slice of bytes is cut. -/
namespace Go.Proofs.Ytdcpicbkemmakaa
open Go.RowKit
set_option linter.unusedSimpArgs false
theorem By.len {w : World} {v : Value} {xs : List Nat} (h : By w v xs) : ∃ a c, v = .slice a xs.length c := by
  obtain ⟨a, c, e, _⟩ := h
  exact ⟨a, c, e⟩
/-- What is left behind the first n. -/
theorem By.cut {w : World} {a : Option Addr} {c n : Nat} {xs : List Nat} (h : By w (.slice a xs.length c) xs) (hn : n ≤ xs.length) : By w (sliced a n xs.length c 1) (xs.drop n) := by
  obtain ⟨a', c', e, h1, h2, h3⟩ := h
  cases e
  have hl : (xs.drop n).length = xs.length - n := List.length_drop
  refine ⟨if c = n then a else a.map (·.add (n * 1)), c - n, by rw [hl, sliced], by omega, fun h => ?_, fun hp => ?_⟩
  · by_cases hc : c = n
    · omega
    · rw [if_neg hc] at h
      have := h2 (by simpa using h)
      omega
  · obtain ⟨b, o, e, hc⟩ := h3 (by omega)
    subst e
    refine ⟨b, o + n, ?_, fun j hj => ?_⟩
    · rw [if_neg (by omega), Nat.mul_one]
      simp [Addr.add_lit]
    · have := hc (n + j) (by omega)
      rw [Nat.add_assoc, this]
      simp [List.getD_eq_getElem?_getD]
theorem By.front {w : World} {a : Option Addr} {c n : Nat} {xs : List Nat} (h : By w (.slice a xs.length c) xs) (hn : n ≤ xs.length) : By w (sliced a 0 n c 1) (xs.take n) := by
  obtain ⟨a', c', e, h1, h2, h3⟩ := h
  cases e
  have hl : (xs.take n).length = n := by rw [List.length_take]; omega
  refine ⟨a, c, ?_, by omega, h2, fun hp => ?_⟩
  · rw [hl, sliced]
    cases a with
    | none => simp
    | some a => simp [Addr.add_zero']
  · obtain ⟨b, o, e, hc⟩ := h3 (by omega)
    refine ⟨b, o, e, fun j hj => ?_⟩
    rw [hc j (by omega)]
    congr 2
    simp [List.getD_eq_getElem?_getD, List.getElem?_take, show j < n by omega]
end Go.Proofs.Ytdcpicbkemmakaa
