/- append of as many bytes 0 as a number says (append of a made slice) to a row of bytes that the call made. -/
import Derived.Test.YtjcnfffmciahiaaBs
import Derived.Lib.AppendZerosOnto
namespace Go.Proofs.Ytjcnfffmciahiaa
open Go.RowKit
set_option linter.unusedSimpArgs false
theorem zeroCells_b8 (m : Nat) : Builtin.zeroCells (Value.int .u8 0).cells m = ((List.replicate m 0).map b8).toArray := by
  unfold Builtin.zeroCells
  apply Array.ext
  · simp [Value.cells]
  · intro i h1 h2
    simp [Value.cells, Nat.mod_one]
theorem uInt_ : Try.prog.underlying 3 = some (.int .i64) := by kernel_rfl
theorem run_appZ (w : World) (B : Nat) (v : Value) (xs : List Nat) (m : Nat) (ty : TypeId) (hown : Ob w B v xs) (hl : xs.length + m ≤ 140737488355328) (hB : B ≤ w.heap.size) :
    ∃ v' w', (Builtin.append_ #[44, 3] ty #[v, .int .i64 m]).run Try.prog w = .ok v' w' ∧ Ob w' B v' (xs ++ List.replicate m 0) ∧ w.grownBy w' v.ownBlock := by
  obtain ⟨i0, hi, hz0, hz1, hz2⟩ := info_parts Try.iU8
  have hw : IntKind.i64.wrap (m : Int) = m := by rw [IntKind.wrap_i64]; omega
  have hneg : ¬ ((m : Int) < 0) := by omega
  have h48i : ¬ (281474976710656 < (m : Int) * (i0.bytes : Int)) := by rw [hz2]; omega
  have hlen : ((xs ++ List.replicate m 0).map b8).length = (xs ++ List.replicate m 0).length * 1 := by simp
  have e0 : (xs ++ List.replicate m 0).length = xs.length + m := by simp
  rcases hown.2 with ⟨rfl, h0⟩ | ⟨g, cap, cur, rfl, hbg, hg, hnc, hcm, hcs, htake⟩
  · obtain rfl : xs = [] := List.length_eq_zero_iff.1 h0
    rcases Nat.eq_zero_or_pos m with rfl | hm
    · refine ⟨.slice none 0 0, w, ?_, Ob.nil w B, World.grownBy.refl _ _⟩
      simp [Builtin.append_, run_underlying Try.uBytes, run_underlying uInt_, sizeOf, typeInfo, hi, asInt, asIntOf, IntKind.wrap_i64]
    · have hr := Lib.run_append_nil_zeros (P := Try.prog) w 44 3 ty 5 i0 _ .i64 .i64 Try.uBytes uInt_ hi hz0 m hm (by omega) (by omega) (by rw [hz2]; omega)
      refine ⟨_, _, hr, ?_, ⟨rfl, rfl, rfl, by simp, fun k hk _ => heap_alloc_old w.drew _ hk⟩⟩
      refine ⟨hlen, .inr ⟨w.heap.size, _, _, by rw [e0]; simp, hB, heap_alloc_new w.drew _, by rw [e0]; simpa using grownCap_ge w m 0 5, grownCap_le_maxLen w m 0 5 (by unfold maxLen; omega), ?_, ?_⟩⟩
      · have := grownCap_ge w m 0 5
        simp [size_zeroCells, Value.cells]
        omega
      · rw [zeroCells_b8, Array.toList_append, e0]
        simp [List.take_append_of_le_length]
  · by_cases hroom : xs.length + m ≤ cap
    · have hst := run_storeCells_at Try.prog g xs.length 5 ((List.replicate m 0).map b8) 0 cur w hg (by simp; omega) (fun u hu => by obtain ⟨x, _, rfl⟩ := List.mem_map.1 hu; rfl)
      simp only [Nat.add_zero] at hst
      refine ⟨.slice (some ⟨g, 0, none⟩) (xs.length + m) cap, w.setRow g (cur.toList.take xs.length ++ (List.replicate m 0).map b8 ++ cur.toList.drop (xs.length + ((List.replicate m 0).map b8).length)).toArray, ?_, ?_, ⟨rfl, rfl, rfl, by simp, fun k _ hk => setRow_other w g k _ (fun e => hk (by simp [Value.ownBlock, e]))⟩⟩
      · rcases Nat.eq_zero_or_pos m with rfl | hm
        · have hst0 : w = w.setRow g (cur.toList.take xs.length ++ cur.toList.drop xs.length).toArray := by
            rw [List.take_append_drop, Array.toArray_toList]
            exact (setRow_self w g cur 5 (0, 0) hg).symm
          simp [Builtin.append_, run_underlying Try.uBytes, run_underlying uInt_, sizeOf, typeInfo, hi, hz1, hnc, asInt, asIntOf, IntKind.wrap_i64, Addr.add_lit, storeCells]
          simpa using hst0
        · have hm0 : m ≠ 0 := by omega
          simp [Builtin.append_, run_underlying Try.uBytes, run_underlying uInt_, sizeOf, typeInfo, zeroValue, hi, hz0, hz1, asInt, asIntOf, hw, hneg, h48i, hroom, hm0, Addr.add_lit, zeroCells_b8]
          simp at hst
          rw [hst]
          rfl
      · rw [Ob, World.ownsRow, e0]
        refine ⟨by simp, .inr ⟨g, cap, _, rfl, hbg, setRow_heap w g cur _ 5 _ hg, hroom, hcm, ?_, ?_⟩⟩
        · simp only [List.size_toArray, List.length_append, List.length_take, List.length_drop, Array.length_toList, List.length_map, List.length_replicate]
          omega
        · rw [Nat.mul_one] at htake
          rw [htake]
          have hq : (xs.map b8 ++ (List.replicate m 0).map b8).length = (xs.length + m) * 1 := by simp
          rw [← hq, List.map_append]
          exact List.take_left
    · have hm : 0 < m := by omega
      have holds : ∀ j u, (xs.map b8)[j]? = some u → w.drew.cell? ((⟨g, 0, none⟩ : Addr).add j) = some u := World.ownsRow.cells hown (g := g) rfl
      have hf := run_firstCells_some (P := Try.prog) w.drew i0.size xs.length ⟨g, 0, none⟩ xs.length cap (xs.map b8) (by rw [hz1]; simp) holds
      have hr := Lib.run_append_grow_zeros (P := Try.prog) w 44 3 ty 5 i0 _ .i64 .i64 Try.uBytes uInt_ hi hz0 (some ⟨g, 0, none⟩) xs.length cap (xs.map b8) hf m hm (by omega) (by omega) (by omega) (by rw [hz2]; omega) (growslice_fits (by omega) (by rw [hz2]; omega))
      refine ⟨_, _, hr, ?_, ⟨rfl, rfl, rfl, by simp, fun k hk _ => heap_alloc_old w.drew _ hk⟩⟩
      have hge := grownCap_ge w (xs.length + m) cap 5
      rw [Ob, World.ownsRow, e0]
      refine ⟨by simp, .inr ⟨w.heap.size, _, _, rfl, hB, heap_alloc_new w.drew _, hge, grownCap_le_maxLen w (xs.length + m) cap 5 (by unfold maxLen; omega), ?_, ?_⟩⟩
      · simp only [Array.size_append, List.size_toArray, size_zeroCells, List.length_map]
        simp [Value.cells]
        omega
      · rw [zeroCells_b8]
        simp only [Array.toList_append]
        have hq : (xs.map b8 ++ (List.replicate m 0).map b8).length = (xs.length + m) * 1 := by simp
        rw [← hq, List.map_append]
        exact List.take_left
/-- append of m bytes 0. -/
theorem wp_appZ {ops : Array Oper} {rest : List Oper} {o : Oper} {a : Act} {Q : Exit → Act → World → Prop} {w : World} (hgd : o.guard = none) (s x : Operand)
    (ho : o.op = .call { callee := .builtin .append, args := #[s, x], argTypes := #[44, 3] })
    (B : Nat) (v : Value) (xs : List Nat) (m : Nat) (z : Int) (hs : a.eval s = v) (hown : Ob w B v xs) (hx : a.eval x = .int .i64 z) (hz : z = (m : Int))
    (hl : xs.length + m ≤ 140737488355328) (hB : B ≤ w.heap.size) (h : ∀ v' w', Ob w' B v' (xs ++ List.replicate m 0) → Below B w w' → wpList Try.prog ops Q rest (a.put o.dst v') w') : wpList Try.prog ops Q (o :: rest) a w := by
  subst hz
  obtain ⟨v', w', hr, h1, h2⟩ := run_appZ w B v xs m o.type hown hl hB
  refine Lib.wpList_append_run w hgd s x _ _ ho v _ hs hx v' w' hr (h v' w' h1 ?_)
  refine Below.grown (Below.refl _ _) h2 hB fun k hk => ?_
  exact (World.ownsRow.lt hown k hk).1
end Go.Proofs.Ytjcnfffmciahiaa
