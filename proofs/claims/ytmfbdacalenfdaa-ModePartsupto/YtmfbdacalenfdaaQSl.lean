/- Slices of words of four bytes: what one holds; rows of words that a call made. -/
import Derived.Test.YtmfbdacalenfdaaBs
import Derived.Test.YtmfbdacalenfdaaFil
import Derived.Test.YtmfbdacalenfdaaGArr
import Derived.Test.YtmfbdacalenfdaaUpS
import Derived.Great.BuildSlice
namespace Go.Proofs.Ytmfbdacalenfdaa
open Go.RowKit
set_option linter.unusedSimpArgs false
theorem uQss : Try.prog.underlying 59 = some (.slice 25) := by kernel_rfl
theorem iA4 : (Try.prog.info? 25).map (fun i => (i.zero, i.size, i.bytes)) = some (some (aB (List.replicate 4 0)), 4, 4) := by kernel_rfl
def Qok (ds : List (List Nat)) : Prop := ∀ d ∈ ds, d.length = 4
theorem Qok.at {ds : List (List Nat)} (h : Qok ds) (j : Nat) (hj : j < ds.length) : (ds.getD j []).length = 4 := by
  rw [List.getD_eq_getElem?_getD, List.getElem?_eq_getElem hj]
  exact h _ (List.getElem_mem hj)
/-- The slice v holds the words ds. -/
def Qs (w : World) (v : Value) (ds : List (List Nat)) : Prop :=
  ∃ a c, v = .slice a ds.length c ∧ ds.length ≤ c ∧ (0 < ds.length → ∃ b o, a = some ⟨b, o, none⟩ ∧ ∀ j, j < ds.length → w.rangeAt b (o + j * 4) ((ds.getD j []).map b8))
theorem Qs.nil (w : World) : Qs w (.slice none 0 0) [] := ⟨none, 0, rfl, Nat.le_refl _, fun h => absurd h (Nat.lt_irrefl _)⟩
theorem range_upq {W w1 : World} {B b o : Nat} {vs : List Value} (h : W.rangeAt b o vs) (hb : Below B W w1) (hB : W.heap.size ≤ B) : w1.rangeAt b o vs :=
  fun j v hj => (hb.cell (p := ⟨b, o + j, none⟩) (Nat.lt_of_lt_of_le (lt_of_cellB (h j v hj)) hB)).trans (h j v hj)
theorem Qs.up {W w1 : World} {v : Value} {ds : List (List Nat)} {B : Nat} (h : Qs W v ds) (hb : Below B W w1) (hB : W.heap.size ≤ B) : Qs w1 v ds := by
  obtain ⟨a, c, e, hc, h3⟩ := h
  refine ⟨a, c, e, hc, fun hp => ?_⟩
  obtain ⟨b, o, e2, hr⟩ := h3 hp
  exact ⟨b, o, e2, fun j hj => range_upq (hr j hj) hb hB⟩
/-- The slice v is a row of words that the call made. -/
def Oq (w : World) (B : Nat) (v : Value) (ds : List (List Nat)) : Prop := Qok ds ∧ w.ownsRow B 25 4 v ds.length (ds.flatten.map b8)
theorem Oq.nil (w : World) (B : Nat) : Oq w B (.slice none 0 0) [] := ⟨(fun d h => by cases h), World.ownsRow_nil _ _ _ _⟩
theorem Oq.up {W w1 : World} {B : Nat} {v : Value} {xs : List (List Nat)} (h : Oq W B v xs) (hb : Below W.heap.size W w1) : Oq w1 B v xs := by
  refine ⟨h.1, h.2.1, ?_⟩
  rcases h.2.2 with h' | ⟨g, cap, cur, e, hB, hg, rest⟩
  · exact .inl h'
  · exact .inr ⟨g, cap, cur, e, hB, (hb.block g (Array.getElem?_eq_some_iff.1 hg).1).trans hg, rest⟩
theorem flat_q : ∀ {ds : List (List Nat)} (_ : Qok ds) (j r : Nat), r < 4 → (ds.flatten)[j * 4 + r]? = (ds.getD j [])[r]?
  | [], _, j, r, _ => by simp
  | d :: ds, h, 0, r, hr => by
    have hd := h d (by simp)
    rw [List.flatten_cons, Nat.zero_mul, Nat.zero_add, List.getElem?_append_left (by omega)]
    simp
  | d :: ds, h, j + 1, r, hr => by
    have hd := h d (by simp)
    have := flat_q (ds := ds) (fun x hx => h x (by simp [hx])) j r hr
    rw [List.flatten_cons, List.getElem?_append_right (by rw [hd]; omega), hd, show (j + 1) * 4 + r - 4 = j * 4 + r by omega, this]
    simp
theorem Oq.form {w : World} {B : Nat} {v : Value} {ds : List (List Nat)} (h : Oq w B v ds) (hp : 0 < ds.length) : ∃ g c, v = .slice (some ⟨g, 0, none⟩) ds.length c ∧ B ≤ g ∧ ds.length ≤ c ∧ ∀ j, j < ds.length → w.rangeAt g (j * 4) ((ds.getD j []).map b8) := by
  rcases h.2.2 with ⟨e, e2⟩ | ⟨g, cap, cur, e, hB, hg, hn, rest⟩
  · omega
  · refine ⟨g, cap, e, hB, hn, fun j hj r u hu => ?_⟩
    have h2 : w.ownsRow B 25 4 (.slice (some ⟨g, 0, none⟩) ds.length cap) ds.length (ds.flatten.map b8) := by rw [← e]; exact h.2
    have hr : r < 4 := by
      have := (List.getElem?_eq_some_iff.1 hu).1
      rw [List.length_map, h.1.at j hj] at this
      exact this
    rw [h2.cellAt (j * 4 + r) (by omega)]
    rw [List.getElem?_map, flat_q h.1 j r hr, ← List.getElem?_map]
    exact hu
theorem Oq.qs {w : World} {B : Nat} {v : Value} {ds : List (List Nat)} (h : Oq w B v ds) : Qs w v ds := by
  rcases Nat.eq_zero_or_pos ds.length with h0 | h0
  · rcases h.2.2 with ⟨e, e2⟩ | ⟨g, cap, cur, e, _, _, hn, _⟩
    · exact ⟨none, 0, by rw [e, h0], by omega, fun hp => by omega⟩
    · exact ⟨_, cap, e, hn, fun hp => by omega⟩
  · obtain ⟨g, c, e, _, hn, hc⟩ := h.form h0
    exact ⟨_, c, e, hn, fun _ => ⟨g, 0, rfl, fun j hj => by rw [Nat.zero_add]; exact hc j hj⟩⟩
/-- A row of words stays when another row, in a block ahead of it, is appended to. -/
theorem Oq.grown {w w' : World} {B : Nat} {v : Value} {ds : List (List Nat)} {row : Option Nat} (h : Oq w B v ds) (hg : w.grownBy w' row) (hr : ∀ g, row = some g → g < B) : Oq w' B v ds := by
  refine ⟨h.1, h.2.1, ?_⟩
  rcases h.2.2 with h' | ⟨g, cap, cur, e, hB, hgg, rest⟩
  · exact .inl h'
  · exact .inr ⟨g, cap, cur, e, hB, (hg.block g (Array.getElem?_eq_some_iff.1 hgg).1 (fun e => by have := hr g e.symm; omega)).trans hgg, rest⟩
theorem Oq.low {w : World} {B : Nat} {v : Value} {ds : List (List Nat)} (h : Oq w B v ds) : ∀ g, v.ownBlock = some g → g < w.heap.size := fun g hg => (World.ownsRow.lt h.2 g hg).2
/-- append of one word, built on the spot. -/
theorem wp_appQ {ops : Array Oper} {rest : List Oper} {o : Oper} {a : Act} {Q : Exit → Act → World → Prop} {w : World} (hgd : o.guard = none) (s x : Operand)
    (ho : o.op = .call { callee := .builtin .append, args := #[s, x], argTypes := #[59, 59] })
    (B : Nat) (v : Value) (xs : List (List Nat)) (W0 : World) (k : Nat) (y : List Nat) (hs : a.eval s = v) (hown : Oq W0 B v xs) (hup : Below W0.heap.size W0 w) (hx : a.eval x = .slice (some ⟨k, 0, none⟩) 1 1) (hy : w.rangeAt k 0 (y.map b8)) (hy1 : y.length = 4)
    (hl : xs.length + 1 ≤ 4398046511103) (hB : B ≤ W0.heap.size) (h : ∀ v' w', Oq w' B v' (xs ++ [y]) → Below B W0 w' → w.grownBy w' v.ownBlock → wpList Try.prog ops Q rest (a.put o.dst v') w') : wpList Try.prog ops Q (o :: rest) a w := by
  obtain ⟨i0, hi, hz0, hz1, hz2⟩ := info_parts iA4
  have hs0 := hup.size
  refine wpList_append_own w hgd s x 59 ho B 25 i0 (aB (List.replicate 4 0)) 4 4 uQss hi hz0 hz1 hz2 rfl (by decide) v xs.length (xs.flatten.map b8) hs (hown.up hup).2 ⟨k, 0, none⟩ 1 1 (y.map b8) hx (by simp [hy1]) ?_ ?_ ?_ ?_ ?_ ?_
  · intro j u hj
    rw [Addr.add_lit]
    exact hy j u hj
  · exact one_b8 y
  · unfold maxLen; omega
  · omega
  · omega
  · intro v' w' hown' hg _
    refine h v' w' ⟨?_, ?_⟩ ?_ hg
    · intro d hd
      rcases List.mem_append.1 hd with h1 | h1
      · exact hown.1 d h1
      · rw [List.mem_singleton.1 h1]; exact hy1
    · rw [List.flatten_append, List.map_append, List.length_append]
      simpa using hown'
    · refine Below.grown (hup.mono hB) hg (by omega) fun k hk => ?_
      exact (World.ownsRow.lt (hown.up hup).2 k hk).1
/-- One word in a slice that is built. -/
theorem run_bsQ (w : World) (y : List Nat) (hy : y.length = 4) : (Instr.buildSlice 59 1 #[(0, aB y)]).run Try.prog w = .ok (.slice (some ⟨w.heap.size, 0, none⟩) 1 1) (w.alloc (.cells (y.map b8).toArray 25)) := by
  obtain ⟨i0, hi, hz0, hz1, hz2⟩ := info_parts iA4
  refine run_buildSlice w 59 25 1 _ _ i0 _ uQss hi hz0 (by rw [hz1]; decide) (by rw [hz1]; decide) ?_
  rw [hz1]
  have e := fill_step (fun i => some (i * 4, 4)) ((Array.range (1 * 4)).map ((aB (List.replicate 4 0)).cells[· % (aB (List.replicate 4 0)).cells.size]!)) 0 0 (y.map b8) [] ((Array.range (1 * 4)).map ((aB (List.replicate 4 0)).cells[· % (aB (List.replicate 4 0)).cells.size]!)).toList [] [] (by simp [hy]) (by simp) rfl (by simp [hy])
  rw [List.nil_append, List.append_nil, Instr.fill] at e
  exact e
theorem rangeAt_alq {w : World} {vs : List Value} {t : TypeId} : (w.alloc (.cells vs.toArray t)).rangeAt w.heap.size 0 vs := fun j v hv => by
  rw [Nat.zero_add, cell_top rfl]
  simpa using hv
theorem wp_bsQ {ops : Array Oper} {rest : List Oper} {o : Oper} {a : Act} {Q : Exit → Act → World → Prop} {w : World} (hgd : o.guard = none) (x : Operand) (ho : o.op = .buildSlice 59 1 #[(0, x)]) (y : List Nat) (hy : y.length = 4) (hx : a.eval x = aB y)
    (h : ∀ w2, w2.rangeAt w.heap.size 0 (y.map b8) → Below w.heap.size w w2 → wpList Try.prog ops Q rest (a.put o.dst (.slice (some ⟨w.heap.size, 0, none⟩) 1 1)) w2) : wpList Try.prog ops Q (o :: rest) a w := by
  refine wpList_plain hgd fun K hK => ?_
  have e := run_bsQ w y hy
  unfold Oper.wp
  simp [execOp, ho, hx, e, Result.andThen]
  exact hK _ _ (h _ rangeAt_alq (al1 w _ _).2)
def MP.q1 (y : List Nat) : MP := ⟨fun v w => ∃ g, v = .slice (some ⟨g, 0, none⟩) 1 1 ∧ w.rangeAt g 0 (y.map b8), fun ⟨g, e, h⟩ hk => ⟨g, e, range_upq h hk (Nat.le_refl _)⟩⟩
theorem yields_q1 {o : Oper} {a : Act} {w : World} {y : List Nat} (hy : y.length = 4) {x : Operand} (ho : o.op = .buildSlice 59 1 #[(0, x)]) (hx : a.eval x = aB y) : YieldsP Try.prog o a w (MP.q1 y).p := by
  have e0 := run_bsQ w y hy
  have e : (execOp a.eval o).run Try.prog w = .ok (.value (.slice (some ⟨w.heap.size, 0, none⟩) 1 1)) (w.alloc (.cells (y.map b8).toArray 25)) := by
    unfold execOp
    simp [ho, hx, e0]
  unfold YieldsP
  rw [e]
  exact ⟨⟨_, rfl, rangeAt_alq⟩, (al1 w _ _).2⟩
end Go.Proofs.Ytmfbdacalenfdaa
