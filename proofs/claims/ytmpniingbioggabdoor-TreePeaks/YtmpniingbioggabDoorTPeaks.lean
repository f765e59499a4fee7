/- The contract of sealringref.Peaks; slices of slices that are cut. -/
import Derived.Test.YtmpniingbioggabDoorTCheck
namespace Go.Proofs.YtmpniingbioggabDoor
open Go.RowKit
set_option linter.unusedSimpArgs false
theorem size_bytes (w : World) : (sizeOf 23).run Tryd.prog w = .ok 1 w := by
  have e : (Tryd.prog.info? 23).map (·.size) = some 1 := by kernel_rfl
  cases hq : Tryd.prog.info? 23 with
  | none => simp [hq] at e
  | some i =>
    have hi : i.size = 1 := by simpa [hq] using e
    simp [sizeOf, typeInfo, hq, hi]
theorem slice_elemS : Tryd.prog.underlying 22 = some (.slice (Tryd.prog.elem 22)) := by kernel_rfl
theorem elem_bss : Tryd.prog.elem 22 = 23 := by kernel_rfl
theorem Sb.cut {w : World} {a : Option Addr} {c n : Nat} {ls : List (List Nat)} (h : Sb w (.slice a ls.length c) ls) (hn : n ≤ ls.length) : Sb w (sliced a n ls.length c 1) (ls.drop n) := by
  obtain ⟨a', c', e, h1, h3⟩ := h
  cases e
  have hl : (ls.drop n).length = ls.length - n := List.length_drop
  refine ⟨if c = n then a else a.map (·.add (n * 1)), c - n, by rw [hl, sliced], by omega, fun hp => ?_⟩
  obtain ⟨b, o, e, hc⟩ := h3 (by omega)
  subst e
  refine ⟨b, o + n, ?_, fun j hj => ?_⟩
  · rw [if_neg (by omega), Nat.mul_one]
    simp [Addr.add_lit]
  · obtain ⟨u, hu, hy⟩ := hc (n + j) (by omega)
    refine ⟨u, by rw [Nat.add_assoc]; exact hu, ?_⟩
    have e : (ls.drop n).getD j [] = ls.getD (n + j) [] := by simp [List.getD_eq_getElem?_getD]
    rw [e]
    exact hy
theorem Sb.front {w : World} {a : Option Addr} {c n : Nat} {ls : List (List Nat)} (h : Sb w (.slice a ls.length c) ls) (hn : n ≤ ls.length) : Sb w (sliced a 0 n c 1) (ls.take n) := by
  obtain ⟨a', c', e, h1, h3⟩ := h
  cases e
  have hl : (ls.take n).length = n := by rw [List.length_take]; omega
  refine ⟨a, c, ?_, by omega, fun hp => ?_⟩
  · rw [hl, sliced]
    cases a with
    | none => simp
    | some a => simp [Addr.add_zero']
  · obtain ⟨b, o, e, hc⟩ := h3 (by omega)
    refine ⟨b, o, e, fun j hj => ?_⟩
    obtain ⟨u, hu, hy⟩ := hc j (by omega)
    refine ⟨u, hu, ?_⟩
    have e : (ls.take n).getD j [] = ls.getD j [] := by simp [List.getD_eq_getElem?_getD, List.getElem?_take, show j < n by omega]
    rw [e]
    exact hy
theorem wp_cutS {ops : Array Oper} {rest : List Oper} {o : Oper} {act : Act} {Q : Exit → Act → World → Prop} {w : World} (hgd : o.guard = none) (x l : Operand)
    (ho : o.op = .slice 22 x (some l) none none) (a : Option Addr) (m c n : Nat) (k : IntKind) (z : Int) (ls : List (List Nat)) (hx : act.eval x = .slice a m c) (hm : m = ls.length) (hl : act.eval l = .int k z) (hz : z = (n : Int)) (hn : n ≤ ls.length) (W0 : World) (hb : Sb W0 (.slice a m c) ls)
    (h : ∀ v', Sb W0 v' (ls.drop n) → wpList Tryd.prog ops Q rest (act.put o.dst v') w) : wpList Tryd.prog ops Q (o :: rest) act w := by
  subst hm hz
  refine wpList_plain hgd fun K hK2 => ?_
  have e : (Instr.sliceAt 22 (.slice a ls.length c) (some (.int k (n : Int))) none none).run Tryd.prog w = .ok (sliced a n ls.length c 1) w := by
    rw [run_sliceAt_slice (h := slice_elemS), run_slice_l (ht := slice_elemS) (h0 := by omega) (h1 := by omega), elem_bss, size_bytes]
    simp
  unfold Oper.wp
  simp [execOp, ho, hx, hl, e, Result.andThen]
  exact hK2 _ _ (h _ (hb.cut hn))
theorem wp_frontS {ops : Array Oper} {rest : List Oper} {o : Oper} {act : Act} {Q : Exit → Act → World → Prop} {w : World} (hgd : o.guard = none) (x l : Operand)
    (ho : o.op = .slice 22 x none (some l) none) (a : Option Addr) (m c n : Nat) (k : IntKind) (z : Int) (ls : List (List Nat)) (hx : act.eval x = .slice a m c) (hm : m = ls.length) (hl : act.eval l = .int k z) (hz : z = (n : Int)) (hn : n ≤ ls.length) (W0 : World) (hb : Sb W0 (.slice a m c) ls)
    (h : ∀ v', Sb W0 v' (ls.take n) → wpList Tryd.prog ops Q rest (act.put o.dst v') w) : wpList Tryd.prog ops Q (o :: rest) act w := by
  subst hm hz
  refine wpList_plain hgd fun K hK2 => ?_
  have hc : ls.length ≤ c := by obtain ⟨_, _, e, h1, _⟩ := hb; cases e; exact h1
  have e : (Instr.sliceAt 22 (.slice a ls.length c) none (some (.int k (n : Int))) none).run Tryd.prog w = .ok (sliced a 0 n c 1) w := by
    rw [run_sliceAt_slice (h := slice_elemS), run_slice_h (ht := slice_elemS) (h0 := by omega) (h2 := by omega), elem_bss, size_bytes]
    simp
  unfold Oper.wp
  simp [execOp, ho, hx, hl, e, Result.andThen]
  exact hK2 _ _ (h _ (hb.front hn))
theorem i64_and (a b : Nat) (ha : a < 4611686018427387904) (hb : b < 4611686018427387904) : bits .and .i64 (a : Int) (b : Int) = ((a &&& b : Nat) : Int) := by
  show IntKind.i64.wrap (((BitVec.ofInt 64 (a : Int) &&& BitVec.ofInt 64 (b : Int)).toNat : Nat) : Int) = _
  have e1 : (BitVec.ofInt 64 (a : Int)).toNat = a := by rw [BitVec.toNat_ofInt]; omega
  have e2 : (BitVec.ofInt 64 (b : Int)).toNat = b := by rw [BitVec.toNat_ofInt]; omega
  have hl : a &&& b ≤ a := Nat.and_le_left
  rw [BitVec.toNat_and, e1, e2, IntKind.wrap_i64]
  omega
theorem and_pow_pos (a k : Nat) : 0 < a &&& 2 ^ k ↔ a / 2 ^ k % 2 = 1 := by
  have h : a / 2 ^ k % 2 = 1 ↔ a.testBit k = true := by
    rw [Nat.testBit_eq_decide_div_mod_eq]
    simp
  rw [h, Nat.pos_iff_ne_zero]
  constructor
  · intro hn
    apply Classical.byContradiction
    intro hf
    apply hn
    apply Nat.eq_of_testBit_eq
    intro j
    rw [Nat.testBit_and, Nat.zero_testBit]
    by_cases e : k = j
    · subst e
      simp at hf
      simp [hf]
    · simp [Nat.testBit_two_pow_of_ne e]
  · intro hb hz
    have := congrArg (·.testBit k) hz
    simp [hb] at this
def peaksS (ls : List (List Nat)) : List (List Nat) := T.peaksF nodeS (sumS []) 21 (ls.map leafS)
theorem rootS_low (ls : List (List Nat)) : (rootS ls).length = 32 ∧ ∀ x ∈ rootS ls, x < 256 :=
  T.top_all (P := fun d => d.length = 32 ∧ ∀ x ∈ d, x < 256) nodeS (sumS []) nodeS_low ⟨sumS_length _, sumS_low _⟩ (Dlow.leaves ls)
theorem rootS_length (ls : List (List Nat)) : (rootS ls).length = 32 := (rootS_low ls).1
theorem pathS_low (ls : List (List Nat)) (i : Nat) : Dlow (pathS ls i) := T.pathF_all (P := fun d => d.length = 32 ∧ ∀ x ∈ d, x < 256) nodeS nodeS_low _ i (Dlow.leaves ls)
theorem peaksS_low (ls : List (List Nat)) : Dlow (peaksS ls) := T.peaksF_all (P := fun d => d.length = 32 ∧ ∀ x ∈ d, x < 256) nodeS (sumS []) nodeS_low ⟨sumS_length _, sumS_low _⟩ 21 (Dlow.leaves ls)
theorem pow_half (k : Nat) : 2 ^ (k + 1) / 2 = 2 ^ k := by rw [Nat.pow_succ]; omega
theorem pow_le20 {k : Nat} (h : k + 1 ≤ 21) : 2 ^ k ≤ 1048576 := Nat.pow_le_pow_right (n := 2) (by decide) (show k ≤ 20 by omega)
end Go.Proofs.YtmpniingbioggabDoor
