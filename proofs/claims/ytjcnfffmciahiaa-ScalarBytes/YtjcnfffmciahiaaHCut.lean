/- How a slice of bytes is cut. -/
import Derived.Test.YtjcnfffmciahiaaBs
import Derived.Test.YtjcnfffmciahiaaBK
namespace Go.Proofs.Ytjcnfffmciahiaa
open Go.RowKit
set_option linter.unusedSimpArgs false
theorem cinfo_u8 : (Try.prog.info? 5).map (·.size) = some 1 := by kernel_rfl
theorem By.len {w : World} {v : Value} {xs : List Nat} (h : By w v xs) : ∃ a c, v = .slice a xs.length c := by
  obtain ⟨a, c, e, _⟩ := h
  exact ⟨a, c, e⟩
theorem slice_elem : Try.prog.underlying 44 = some (.slice (Try.prog.elem 44)) := by kernel_rfl
theorem elem_bytes : Try.prog.elem 44 = 5 := by kernel_rfl
theorem size_u8 (w : World) : (sizeOf 5).run Try.prog w = .ok 1 w := by
  cases hq : Try.prog.info? 5 with
  | none => have := cinfo_u8; simp [hq] at this
  | some i =>
    have hi : i.size = 1 := by simpa [hq] using cinfo_u8
    simp [sizeOf, typeInfo, hq, hi]
/-- What is left behind the first n. -/
theorem By.cut {w : World} {a : Option Addr} {c n : Nat} {xs : List Nat} (h : By w (.slice a xs.length c) xs) (hn : n ≤ xs.length) : By w (sliced a n xs.length c 1) (xs.drop n) := by
  obtain ⟨a', c', e, h1, h2, h3⟩ := h
  cases e
  have hl : (xs.drop n).length = xs.length - n := List.length_drop
  refine ⟨if c = n then a else a.map (·.add (n * 1)), c - n, by rw [hl, sliced], by omega, fun h => ?_, fun hp => ?_⟩
  · by_cases hc : c = n
    · omega
    · rw [if_neg hc] at h
      have := h2 (by simpa using h)
      omega
  · obtain ⟨b, o, e, hc⟩ := h3 (by omega)
    subst e
    refine ⟨b, o + n, ?_, fun j hj => ?_⟩
    · rw [if_neg (by omega), Nat.mul_one]
      simp [Addr.add_lit]
    · have := hc (n + j) (by omega)
      rw [Nat.add_assoc, this]
      simp [List.getD_eq_getElem?_getD]
theorem By.front {w : World} {a : Option Addr} {c n : Nat} {xs : List Nat} (h : By w (.slice a xs.length c) xs) (hn : n ≤ xs.length) : By w (sliced a 0 n c 1) (xs.take n) := by
  obtain ⟨a', c', e, h1, h2, h3⟩ := h
  cases e
  have hl : (xs.take n).length = n := by rw [List.length_take]; omega
  refine ⟨a, c, ?_, by omega, h2, fun hp => ?_⟩
  · rw [hl, sliced]
    cases a with
    | none => simp
    | some a => simp [Addr.add_zero']
  · obtain ⟨b, o, e, hc⟩ := h3 (by omega)
    refine ⟨b, o, e, fun j hj => ?_⟩
    rw [hc j (by omega)]
    congr 2
    simp [List.getD_eq_getElem?_getD, List.getElem?_take, show j < n by omega]
theorem wp_cutB {ops : Array Oper} {rest : List Oper} {o : Oper} {act : Act} {Q : Exit → Act → World → Prop} {w : World} (hgd : o.guard = none) (x l : Operand)
    (ho : o.op = .slice 44 x (some l) none none) (a : Option Addr) (m c n : Nat) (k : IntKind) (z : Int) (xs : List Nat) (hx : act.eval x = .slice a m c) (hm : m = xs.length) (hl : act.eval l = .int k z) (hz : z = (n : Int)) (hn : n ≤ xs.length) (W0 : World) (hb : By W0 (.slice a m c) xs)
    (h : ∀ v', By W0 v' (xs.drop n) → wpList Try.prog ops Q rest (act.put o.dst v') w) : wpList Try.prog ops Q (o :: rest) act w := by
  subst hm hz
  refine wpList_plain hgd fun K hK2 => ?_
  have e : (Instr.sliceAt 44 (.slice a xs.length c) (some (.int k (n : Int))) none none).run Try.prog w = .ok (sliced a n xs.length c 1) w := by
    rw [run_sliceAt_slice (h := slice_elem), run_slice_l (ht := slice_elem) (h0 := by omega) (h1 := by omega), elem_bytes, size_u8]
    simp
  unfold Oper.wp
  simp [execOp, ho, hx, hl, e, Result.andThen]
  exact hK2 _ _ (h _ (hb.cut hn))
theorem wp_frontB {ops : Array Oper} {rest : List Oper} {o : Oper} {act : Act} {Q : Exit → Act → World → Prop} {w : World} (hgd : o.guard = none) (x l : Operand)
    (ho : o.op = .slice 44 x none (some l) none) (a : Option Addr) (m c n : Nat) (k : IntKind) (z : Int) (xs : List Nat) (hx : act.eval x = .slice a m c) (hm : m = xs.length) (hl : act.eval l = .int k z) (hz : z = (n : Int)) (hn : n ≤ xs.length) (W0 : World) (hb : By W0 (.slice a m c) xs)
    (h : ∀ v', By W0 v' (xs.take n) → wpList Try.prog ops Q rest (act.put o.dst v') w) : wpList Try.prog ops Q (o :: rest) act w := by
  subst hm hz
  refine wpList_plain hgd fun K hK2 => ?_
  have hc : xs.length ≤ c := by obtain ⟨_, _, e, h1, _⟩ := hb; cases e; exact h1
  have e : (Instr.sliceAt 44 (.slice a xs.length c) none (some (.int k (n : Int))) none).run Try.prog w = .ok (sliced a 0 n c 1) w := by
    rw [run_sliceAt_slice (h := slice_elem), run_slice_h (ht := slice_elem) (h0 := by omega) (h2 := by omega), elem_bytes, size_u8]
    simp
  unfold Oper.wp
  simp [execOp, ho, hx, hl, e, Result.andThen]
  exact hK2 _ _ (h _ (hb.front hn))
end Go.Proofs.Ytjcnfffmciahiaa
