/- Slices of digests, and slices of slices of bytes: what one holds; rows of digests that a call made. -/
import Derived.Test.YtmpniingbioggaaDoorHX
import Derived.Test.YtmpniingbioggaaDoorUpS
import Derived.Great.BuildSlice
namespace Go.Proofs.YtmpniingbioggaaDoor
open Go.RowKit
set_option linter.unusedSimpArgs false
theorem uDss : Tryd.prog.underlying 25 = some (.slice 24) := by kernel_rfl
theorem uBss : Tryd.prog.underlying 22 = some (.slice 23) := by kernel_rfl
theorem iD32 : (Tryd.prog.info? 24).map (fun i => (i.zero, i.size, i.bytes)) = some (some (vB (List.replicate 32 0)), 32, 32) := by kernel_rfl
def Dok (ds : List (List Nat)) : Prop := ∀ d ∈ ds, d.length = 32
theorem Dok.at {ds : List (List Nat)} (h : Dok ds) (j : Nat) (hj : j < ds.length) : (ds.getD j []).length = 32 := by
  rw [List.getD_eq_getElem?_getD, List.getElem?_eq_getElem hj]
  exact h _ (List.getElem_mem hj)
/-- The slice v holds the digests ds. -/
def Ds (w : World) (v : Value) (ds : List (List Nat)) : Prop :=
  ∃ a c, v = .slice a ds.length c ∧ ds.length ≤ c ∧ (0 < ds.length → ∃ b o, a = some ⟨b, o, none⟩ ∧ ∀ j, j < ds.length → w.rangeAt b (o + j * 32) ((ds.getD j []).map b8))
theorem Ds.nil (w : World) : Ds w (.slice none 0 0) [] := ⟨none, 0, rfl, Nat.le_refl _, fun h => absurd h (Nat.lt_irrefl _)⟩
theorem range_up {W w1 : World} {B b o : Nat} {vs : List Value} (h : W.rangeAt b o vs) (hb : Below B W w1) (hB : W.heap.size ≤ B) : w1.rangeAt b o vs :=
  fun j v hj => (hb.cell (p := ⟨b, o + j, none⟩) (Nat.lt_of_lt_of_le (lt_of_cellB (h j v hj)) hB)).trans (h j v hj)
theorem Ds.up {W w1 : World} {v : Value} {ds : List (List Nat)} {B : Nat} (h : Ds W v ds) (hb : Below B W w1) (hB : W.heap.size ≤ B) : Ds w1 v ds := by
  obtain ⟨a, c, e, hc, h3⟩ := h
  refine ⟨a, c, e, hc, fun hp => ?_⟩
  obtain ⟨b, o, e2, hr⟩ := h3 hp
  exact ⟨b, o, e2, fun j hj => range_up (hr j hj) hb hB⟩
/-- The slice v holds slices, and these the bytes ls. -/
def Sb (w : World) (v : Value) (ls : List (List Nat)) : Prop :=
  ∃ a c, v = .slice a ls.length c ∧ ls.length ≤ c ∧ (0 < ls.length → ∃ b o, a = some ⟨b, o, none⟩ ∧ ∀ j, j < ls.length → ∃ u, w.cell? ⟨b, o + j, none⟩ = some u ∧ By w u (ls.getD j []))
theorem Sb.up {W w1 : World} {v : Value} {ls : List (List Nat)} {B : Nat} (h : Sb W v ls) (hb : Below B W w1) (hB : W.heap.size ≤ B) : Sb w1 v ls := by
  obtain ⟨a, c, e, hc, h3⟩ := h
  refine ⟨a, c, e, hc, fun hp => ?_⟩
  obtain ⟨b, o, e2, hr⟩ := h3 hp
  refine ⟨b, o, e2, fun j hj => ?_⟩
  obtain ⟨u, hu, hy⟩ := hr j hj
  exact ⟨u, (hb.cell (p := ⟨b, o + j, none⟩) (Nat.lt_of_lt_of_le (lt_of_cellB hu) hB)).trans hu, hy.up hb hB⟩
/-- The slice v is a row of digests that the call made. -/
def Od (w : World) (B : Nat) (v : Value) (ds : List (List Nat)) : Prop := Dok ds ∧ w.ownsRow B 24 32 v ds.length (ds.flatten.map b8)
theorem Od.nil (w : World) (B : Nat) : Od w B (.slice none 0 0) [] := ⟨(fun d h => by cases h), World.ownsRow_nil _ _ _ _⟩
theorem Od.up {W w1 : World} {B : Nat} {v : Value} {xs : List (List Nat)} (h : Od W B v xs) (hb : Below W.heap.size W w1) : Od w1 B v xs := by
  refine ⟨h.1, h.2.1, ?_⟩
  rcases h.2.2 with h' | ⟨g, cap, cur, e, hB, hg, rest⟩
  · exact .inl h'
  · exact .inr ⟨g, cap, cur, e, hB, (hb.block g (Array.getElem?_eq_some_iff.1 hg).1).trans hg, rest⟩
theorem flat_at : ∀ {ds : List (List Nat)} (_ : Dok ds) (j r : Nat), r < 32 → (ds.flatten)[j * 32 + r]? = (ds.getD j [])[r]?
  | [], _, j, r, _ => by simp
  | d :: ds, h, 0, r, hr => by
    have hd := h d (by simp)
    rw [List.flatten_cons, Nat.zero_mul, Nat.zero_add, List.getElem?_append_left (by omega)]
    simp
  | d :: ds, h, j + 1, r, hr => by
    have hd := h d (by simp)
    have := flat_at (ds := ds) (fun x hx => h x (by simp [hx])) j r hr
    rw [List.flatten_cons, List.getElem?_append_right (by rw [hd]; omega), hd, show (j + 1) * 32 + r - 32 = j * 32 + r by omega, this]
    simp
theorem Od.form {w : World} {B : Nat} {v : Value} {ds : List (List Nat)} (h : Od w B v ds) (hp : 0 < ds.length) : ∃ g c, v = .slice (some ⟨g, 0, none⟩) ds.length c ∧ B ≤ g ∧ ds.length ≤ c ∧ ∀ j, j < ds.length → w.rangeAt g (j * 32) ((ds.getD j []).map b8) := by
  rcases h.2.2 with ⟨e, e2⟩ | ⟨g, cap, cur, e, hB, hg, hn, rest⟩
  · omega
  · refine ⟨g, cap, e, hB, hn, fun j hj r u hu => ?_⟩
    have h2 : w.ownsRow B 24 32 (.slice (some ⟨g, 0, none⟩) ds.length cap) ds.length (ds.flatten.map b8) := by rw [← e]; exact h.2
    have hr : r < 32 := by
      have := (List.getElem?_eq_some_iff.1 hu).1
      rw [List.length_map, h.1.at j hj] at this
      exact this
    rw [h2.cellAt (j * 32 + r) (by omega)]
    rw [List.getElem?_map, flat_at h.1 j r hr, ← List.getElem?_map]
    exact hu
theorem Od.ds {w : World} {B : Nat} {v : Value} {ds : List (List Nat)} (h : Od w B v ds) : Ds w v ds := by
  rcases Nat.eq_zero_or_pos ds.length with h0 | h0
  · rcases h.2.2 with ⟨e, e2⟩ | ⟨g, cap, cur, e, _, _, hn, _⟩
    · exact ⟨none, 0, by rw [e, h0], by omega, fun hp => by omega⟩
    · exact ⟨_, cap, e, hn, fun hp => by omega⟩
  · obtain ⟨g, c, e, _, hn, hc⟩ := h.form h0
    exact ⟨_, c, e, hn, fun _ => ⟨g, 0, rfl, fun j hj => by rw [Nat.zero_add]; exact hc j hj⟩⟩
/-- A row of digests stays when another row, in a block ahead of it, is appended to. -/
theorem Od.grown {w w' : World} {B : Nat} {v : Value} {ds : List (List Nat)} {row : Option Nat} (h : Od w B v ds) (hg : w.grownBy w' row) (hr : ∀ g, row = some g → g < B) : Od w' B v ds := by
  refine ⟨h.1, h.2.1, ?_⟩
  rcases h.2.2 with h' | ⟨g, cap, cur, e, hB, hgg, rest⟩
  · exact .inl h'
  · exact .inr ⟨g, cap, cur, e, hB, (hg.block g (Array.getElem?_eq_some_iff.1 hgg).1 (fun e => by have := hr g e.symm; omega)).trans hgg, rest⟩
theorem Od.low {w : World} {B : Nat} {v : Value} {ds : List (List Nat)} (h : Od w B v ds) : ∀ g, v.ownBlock = some g → g < w.heap.size := fun g hg => (World.ownsRow.lt h.2 g hg).2
/-- append of one digest, built on the spot. -/
theorem wp_appD {ops : Array Oper} {rest : List Oper} {o : Oper} {a : Act} {Q : Exit → Act → World → Prop} {w : World} (hgd : o.guard = none) (s x : Operand)
    (ho : o.op = .call { callee := .builtin .append, args := #[s, x], argTypes := #[25, 25] })
    (B : Nat) (v : Value) (xs : List (List Nat)) (W0 : World) (k : Nat) (y : List Nat) (hs : a.eval s = v) (hown : Od W0 B v xs) (hup : Below W0.heap.size W0 w) (hx : a.eval x = .slice (some ⟨k, 0, none⟩) 1 1) (hy : w.rangeAt k 0 (y.map b8)) (hy1 : y.length = 32)
    (hl : xs.length + 1 ≤ 4398046511103) (hB : B ≤ W0.heap.size) (h : ∀ v' w', Od w' B v' (xs ++ [y]) → Below B W0 w' → w.grownBy w' v.ownBlock → wpList Tryd.prog ops Q rest (a.put o.dst v') w') : wpList Tryd.prog ops Q (o :: rest) a w := by
  obtain ⟨i0, hi, hz0, hz1, hz2⟩ := info_parts iD32
  have hs0 := hup.size
  refine wpList_append_own w hgd s x 25 ho B 24 i0 (vB (List.replicate 32 0)) 32 32 uDss hi hz0 hz1 hz2 rfl (by decide) v xs.length (xs.flatten.map b8) hs (hown.up hup).2 ⟨k, 0, none⟩ 1 1 (y.map b8) hx (by simp [hy1]) ?_ ?_ ?_ ?_ ?_ ?_
  · intro j u hj
    rw [Addr.add_lit]
    exact hy j u hj
  · exact one_b8 y
  · unfold maxLen; omega
  · omega
  · omega
  · intro v' w' hown' hg _
    refine h v' w' ⟨?_, ?_⟩ ?_ hg
    · intro d hd
      rcases List.mem_append.1 hd with h1 | h1
      · exact hown.1 d h1
      · rw [List.mem_singleton.1 h1]; exact hy1
    · rw [List.flatten_append, List.map_append, List.length_append]
      simpa using hown'
    · refine Below.grown (hup.mono hB) hg (by omega) fun k hk => ?_
      exact (World.ownsRow.lt (hown.up hup).2 k hk).1
/-- One digest in a slice that is built. -/
theorem run_bsD (w : World) (y : List Nat) (hy : y.length = 32) : (Instr.buildSlice 25 1 #[(0, vB y)]).run Tryd.prog w = .ok (.slice (some ⟨w.heap.size, 0, none⟩) 1 1) (w.alloc (.cells (y.map b8).toArray 24)) := by
  obtain ⟨i0, hi, hz0, hz1, hz2⟩ := info_parts iD32
  refine run_buildSlice w 25 24 1 _ _ i0 _ uDss hi hz0 (by rw [hz1]; decide) (by rw [hz1]; decide) ?_
  rw [hz1]
  have e := fill_step (fun i => some (i * 32, 32)) ((Array.range (1 * 32)).map ((vB (List.replicate 32 0)).cells[· % (vB (List.replicate 32 0)).cells.size]!)) 0 0 (y.map b8) [] ((Array.range (1 * 32)).map ((vB (List.replicate 32 0)).cells[· % (vB (List.replicate 32 0)).cells.size]!)).toList [] [] (by simp [hy]) (by simp) rfl (by simp [hy])
  rw [List.nil_append, List.append_nil, Instr.fill] at e
  exact e
theorem rangeAt_al {w : World} {vs : List Value} {t : TypeId} : (w.alloc (.cells vs.toArray t)).rangeAt w.heap.size 0 vs := fun j v hv => by
  rw [Nat.zero_add, cell_top rfl]
  simpa using hv
theorem wp_bsD {ops : Array Oper} {rest : List Oper} {o : Oper} {a : Act} {Q : Exit → Act → World → Prop} {w : World} (hgd : o.guard = none) (x : Operand) (ho : o.op = .buildSlice 25 1 #[(0, x)]) (y : List Nat) (hy : y.length = 32) (hx : a.eval x = vB y)
    (h : ∀ w2, w2.rangeAt w.heap.size 0 (y.map b8) → Below w.heap.size w w2 → wpList Tryd.prog ops Q rest (a.put o.dst (.slice (some ⟨w.heap.size, 0, none⟩) 1 1)) w2) : wpList Tryd.prog ops Q (o :: rest) a w := by
  refine wpList_plain hgd fun K hK => ?_
  have e := run_bsD w y hy
  unfold Oper.wp
  simp [execOp, ho, hx, e, Result.andThen]
  exact hK _ _ (h _ rangeAt_al (al1 w _ _).2)
def MP.d1 (y : List Nat) : MP := ⟨fun v w => ∃ g, v = .slice (some ⟨g, 0, none⟩) 1 1 ∧ w.rangeAt g 0 (y.map b8), fun ⟨g, e, h⟩ hk => ⟨g, e, range_up h hk (Nat.le_refl _)⟩⟩
theorem yields_d1 {o : Oper} {a : Act} {w : World} {y : List Nat} (hy : y.length = 32) {x : Operand} (ho : o.op = .buildSlice 25 1 #[(0, x)]) (hx : a.eval x = vB y) : YieldsP Tryd.prog o a w (MP.d1 y).p := by
  have e0 := run_bsD w y hy
  have e : (execOp a.eval o).run Tryd.prog w = .ok (.value (.slice (some ⟨w.heap.size, 0, none⟩) 1 1)) (w.alloc (.cells (y.map b8).toArray 24)) := by
    unfold execOp
    simp [ho, hx, e0]
  unfold YieldsP
  rw [e]
  exact ⟨⟨_, rfl, rangeAt_al⟩, (al1 w _ _).2⟩
end Go.Proofs.YtmpniingbioggaaDoor
