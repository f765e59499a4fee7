/- Slices of eights that are built and appended to. -/
import Derived.Test.YtejabkmhpiabnaaGrp43
import Derived.Test.YtejabkmhpiabnaaAeK
namespace Go.Proofs.Ytejabkmhpiabnaa
open Go.RowKit
set_option linter.unusedSimpArgs false
theorem run_bsE (w : World) (y : List Nat) (hy : y.length = 8) : (Instr.buildSlice 53 1 #[(0, aB y)]).run Try.prog w = .ok (.slice (some ⟨w.heap.size, 0, none⟩) 1 1) (w.alloc (.cells (y.map b8).toArray 51)) := by
  obtain ⟨i0, hi, hz0, hz1, hz2⟩ := info_parts iE8
  refine run_buildSlice w 53 51 1 _ _ i0 _ uEss hi hz0 (by rw [hz1]; decide) (by rw [hz1]; decide) ?_
  rw [hz1]
  have e := fill_step (fun i => some (i * 8, 8)) ((Array.range (1 * 8)).map ((aB (List.replicate 8 0)).cells[· % (aB (List.replicate 8 0)).cells.size]!)) 0 0 (y.map b8) [] ((Array.range (1 * 8)).map ((aB (List.replicate 8 0)).cells[· % (aB (List.replicate 8 0)).cells.size]!)).toList [] [] (by simp [hy]) (by simp) rfl (by simp [hy])
  rw [List.nil_append, List.append_nil, Instr.fill] at e
  exact e
/-- The slice v is a row of eights that the call made: n of them, with these bytes. -/
def Oe (w : World) (B : Nat) (v : Value) (n : Nat) (xs : List Nat) : Prop := w.ownsRow B 51 8 v n (xs.map b8)
theorem Oe.form {w : World} {B : Nat} {v : Value} {n : Nat} {xs : List Nat} (h : Oe w B v n xs) (hp : 0 < n) : ∃ g c, v = .slice (some ⟨g, 0, none⟩) n c ∧ n ≤ c ∧ w.rangeAt g 0 (xs.map b8) := by
  rcases h.2 with ⟨e, e2⟩ | ⟨g, cap, cur, e, hB, hg, hn, rest⟩
  · omega
  · refine ⟨g, cap, e, hn, fun j u hu => ?_⟩
    have h2 : w.ownsRow B 51 8 (.slice (some ⟨g, 0, none⟩) n cap) n (xs.map b8) := by rw [← e]; exact h
    have hl := h2.1
    have hj : j < n * 8 := by
      have := (List.getElem?_eq_some_iff.1 hu).1
      omega
    rw [Nat.zero_add, h2.cellAt j hj]
    exact hu
theorem wp_bsE {ops : Array Oper} {rest : List Oper} {o : Oper} {a : Act} {Q : Exit → Act → World → Prop} {w : World} (hgd : o.guard = none) (x : Operand) (ho : o.op = .buildSlice 53 1 #[(0, x)]) (y : List Nat) (hy : y.length = 8) (hx : a.eval x = aB y)
    (h : ∀ w2, Oe w2 w.heap.size (.slice (some ⟨w.heap.size, 0, none⟩) 1 1) 1 y → Below w.heap.size w w2 → wpList Try.prog ops Q rest (a.put o.dst (.slice (some ⟨w.heap.size, 0, none⟩) 1 1)) w2) : wpList Try.prog ops Q (o :: rest) a w := by
  refine wpList_plain hgd fun K hK => ?_
  have e := run_bsE w y hy
  unfold Oper.wp
  simp [execOp, ho, hx, e, Result.andThen]
  refine hK _ _ (h _ ?_ (al1 w _ _).2)
  refine ⟨by simp [hy], .inr ⟨w.heap.size, 1, (y.map b8).toArray, rfl, Nat.le_refl _, ?_, Nat.le_refl _, by unfold maxLen; decide, by simp [hy], ?_⟩⟩
  · show (w.heap.push _)[w.heap.size]? = _
    simp
  · exact List.take_of_length_le (by simp [hy])
theorem wp_appE {ops : Array Oper} {rest : List Oper} {o : Oper} {a : Act} {Q : Exit → Act → World → Prop} {w : World} (hgd : o.guard = none) (s x : Operand)
    (ho : o.op = .call { callee := .builtin .append, args := #[s, x], argTypes := #[53, 53] })
    (B : Nat) (v : Value) (n : Nat) (xs : List Nat) (k f m c : Nat) (ys : List Nat) (hs : a.eval s = v) (hown : Oe w B v n xs) (hx : a.eval x = .slice (some ⟨k, f, none⟩) m c) (hl : ys.length = m * 8) (hy : w.rangeAt k f (ys.map b8))
    (hm : n + m ≤ 65536) (hB : B ≤ w.heap.size) (h : ∀ v' w', Oe w' B v' (n + m) (xs ++ ys) → Below B w w' → wpList Try.prog ops Q rest (a.put o.dst v') w') : wpList Try.prog ops Q (o :: rest) a w := by
  obtain ⟨i0, hi, hz0, hz1, hz2⟩ := info_parts iE8
  refine wpList_append_own w hgd s x 53 ho B 51 i0 (aB (List.replicate 8 0)) 8 8 uEss hi hz0 hz1 hz2 rfl (by decide) v n (xs.map b8) hs hown ⟨k, f, none⟩ m c (ys.map b8) hx (by simp [hl]) ?_ (one_b8 ys) (by unfold maxLen; omega) (by omega) hB ?_
  · intro j u hj
    rw [Addr.add_lit]
    exact hy j u hj
  · intro v' w' hown' hg _
    refine h v' w' ?_ (Below.grown (Below.refl _ _) hg hB fun k hk => (World.ownsRow.lt hown k hk).1)
    unfold Oe
    rw [List.map_append]
    exact hown'
end Go.Proofs.Ytejabkmhpiabnaa
