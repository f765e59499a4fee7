/- append of bytes, and of bytes 0, onto a slice that has no room left. -/
import Derived.Test.YtjcnfffmciahiaaAppZ
import Derived.Test.YtjcnfffmciahiaaSlA
import Derived.Test.YtjcnfffmciahiaaUpM
import Derived.ArgAppend
namespace Go.Proofs.Ytjcnfffmciahiaa
open Go.RowKit
set_option linter.unusedSimpArgs false
theorem By.cellsAt {w : World} {b : Addr} {n c : Nat} {xs : List Nat} (h : By w (.slice (some b) n c) xs) : ∀ j u, (xs.map b8)[j]? = some u → w.cell? (b.add j) = some u := fun j u hj => by
  obtain ⟨a', c', e, h1, h2, h3⟩ := h
  cases e
  have hj2 : j < xs.length := by
    have := (List.getElem?_eq_some_iff.1 hj).1
    simpa using this
  obtain ⟨g, q, e, hc⟩ := h3 (by omega)
  obtain rfl : b = ⟨g, q, none⟩ := Option.some.inj e
  have := hc j hj2
  rw [List.getElem?_map, List.getElem?_eq_getElem hj2] at hj
  simp at hj
  simp only [List.getD_eq_getElem?_getD, List.getElem?_eq_getElem hj2, Option.getD_some] at this
  subst hj
  rw [Addr.add_lit]
  exact this
theorem run_appF (w : World) (b : Addr) (n : Nat) (xs ys : List Nat) (u : Value) (ty : TypeId) (hx : By w (.slice (some b) n n) xs) (hn : n = xs.length) (hy : By w u ys) (hp : 0 < ys.length) (hl : xs.length + ys.length ≤ 140737488355328) :
    ∃ v' w', (Builtin.append_ #[44, 44] ty #[.slice (some b) n n, u]).run Try.prog w = .ok v' w' ∧ Ob w' w.heap.size v' (xs ++ ys) ∧ w.grownBy w' none := by
  subst hn
  obtain ⟨i0, hi, hz0, hz1, hz2⟩ := info_parts Try.iU8
  have hy' := hy
  obtain ⟨ad, c, rfl, hyc, hnn, hcells⟩ := hy
  obtain ⟨g, q, e, _⟩ := hcells hp
  subst e
  obtain ⟨v', w', hr, h1, h2⟩ := run_append_arg_grows (P := Try.prog) w 44 ty 5 i0 (.int .u8 0) 1 1 Try.uBytes hi hz0 hz1 hz2 rfl (by decide) b xs.length xs.length (xs.map b8) (by simp) hx.cellsAt ⟨g, q, none⟩ ys.length c (ys.map b8) (by simp) hy'.cellsAt (by omega) (by unfold maxLen; omega) (by omega)
  refine ⟨v', w', hr, ?_, h2⟩
  unfold Ob
  rw [List.map_append, List.length_append]
  exact h1
theorem run_appFZ (w : World) (b : Addr) (n : Nat) (xs : List Nat) (m : Nat) (ty : TypeId) (hx : By w (.slice (some b) n n) xs) (hn : n = xs.length) (hm : 0 < m) (hl : xs.length + m ≤ 140737488355328) :
    ∃ v' w', (Builtin.append_ #[44, 3] ty #[.slice (some b) n n, .int .i64 m]).run Try.prog w = .ok v' w' ∧ Ob w' w.heap.size v' (xs ++ List.replicate m 0) ∧ w.grownBy w' none := by
  subst hn
  obtain ⟨i0, hi, hz0, hz1, hz2⟩ := info_parts Try.iU8
  have e0 : (xs ++ List.replicate m 0).length = xs.length + m := by simp
  have holds : ∀ j u, (xs.map b8)[j]? = some u → w.drew.cell? (b.add j) = some u := hx.cellsAt
  have hf := run_firstCells_some (P := Try.prog) w.drew i0.size xs.length b xs.length xs.length (xs.map b8) (by rw [hz1]; simp) holds
  have hr := Lib.run_append_grow_zeros (P := Try.prog) w 44 3 ty 5 i0 _ .i64 .i64 Try.uBytes uInt_ hi hz0 (some b) xs.length xs.length (xs.map b8) hf m hm (by omega) (by omega) (by omega) (by rw [hz2]; omega) (growslice_fits (by omega) (by rw [hz2]; omega))
  refine ⟨_, _, hr, ?_, ⟨rfl, rfl, rfl, by simp, fun k hk _ => heap_alloc_old w.drew _ hk⟩⟩
  have hge := grownCap_ge w (xs.length + m) xs.length 5
  rw [Ob, World.ownsRow, e0]
  refine ⟨by simp, .inr ⟨w.heap.size, _, _, rfl, Nat.le_refl _, heap_alloc_new w.drew _, hge, grownCap_le_maxLen w (xs.length + m) xs.length 5 (by unfold maxLen; omega), ?_, ?_⟩⟩
  · simp only [Array.size_append, List.size_toArray, size_zeroCells, List.length_map]
    simp [Value.cells]
    omega
  · rw [zeroCells_b8]
    simp only [Array.toList_append]
    have hq : (xs.map b8 ++ (List.replicate m 0).map b8).length = (xs.length + m) * 1 := by simp
    rw [← hq, List.map_append]
    exact List.take_left
/-- append of m bytes 0 onto a full slice; m may be 0. -/
theorem wp_appFZ {ops : Array Oper} {rest : List Oper} {o : Oper} {a : Act} {Q : Exit → Act → World → Prop} {w : World} (hgd : o.guard = none) (s x : Operand)
    (ho : o.op = .call { callee := .builtin .append, args := #[s, x], argTypes := #[44, 3] })
    (b : Addr) (n : Nat) (xs : List Nat) (m : Nat) (z : Int) (hs : a.eval s = .slice (some b) n n) (hx : By w (.slice (some b) n n) xs) (hn : n = xs.length) (hz : a.eval x = .int .i64 z) (hzm : z = (m : Int))
    (hl : xs.length + m ≤ 140737488355328) (h : ∀ v' w', By w' v' (xs ++ List.replicate m 0) → Below w.heap.size w w' → wpList Try.prog ops Q rest (a.put o.dst v') w') : wpList Try.prog ops Q (o :: rest) a w := by
  subst hzm
  rcases Nat.eq_zero_or_pos m with rfl | hm
  · obtain ⟨i0, hi, hz0, hz1, hz2⟩ := info_parts Try.iU8
    refine Lib.wpList_append_run w hgd s x _ _ ho _ _ hs hz (.slice (some b) n n) w ?_ (h _ w (by simpa using hx) (Below.refl _ _))
    simp [Builtin.append_, run_underlying Try.uBytes, run_underlying uInt_, sizeOf, typeInfo, hi, hz1, asInt, asIntOf, IntKind.wrap_i64, Addr.add_lit, storeCells]
  · obtain ⟨v', w', hr, h1, h2⟩ := run_appFZ w b n xs m o.type hx hn hm hl
    exact Lib.wpList_append_run w hgd s x _ _ ho _ _ hs hz v' w' hr (h v' w' h1.by (Below.grown (Below.refl _ _) h2 (Nat.le_refl _) fun k hk => by cases hk))
def MP.byF (xs : List Nat) : MP := ⟨fun v w => By w v xs, fun h hb => h.up hb (Nat.le_refl _)⟩
theorem yields_appF {o : Oper} {a : Act} {w : World} (s x : Operand) (ho : o.op = .call { callee := .builtin .append, args := #[s, x], argTypes := #[44, 44] })
    (b : Addr) (n : Nat) (xs ys : List Nat) (u : Value) (hs : a.eval s = .slice (some b) n n) (hxx : a.eval x = u) (hx : By w (.slice (some b) n n) xs) (hn : n = xs.length) (hy : By w u ys) (hp : 0 < ys.length) (hl : xs.length + ys.length ≤ 140737488355328) : YieldsP Try.prog o a w (MP.byF (xs ++ ys)).p := by
  obtain ⟨v', w', hr, h1, h2⟩ := run_appF w b n xs ys u o.type hx hn hy hp hl
  have e : (execOp a.eval o).run Try.prog w = .ok (.value v') w' := by
    unfold execOp
    simp [ho, resolve, invoke, builtin, hs, hxx, hr]
  unfold YieldsP
  rw [e]
  exact ⟨h1.by, Below.grown (Below.refl _ _) h2 (Nat.le_refl _) fun k hk => by cases hk⟩
end Go.Proofs.Ytjcnfffmciahiaa
