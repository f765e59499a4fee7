/- The document's Packed. -/
import Derived.Test.YtfknkfninjjgbaaGreatDoorQFldCToROft
import Derived.Test.YtfknkfninjjgbaaGreatDoorQOctToCrvB
import Derived.Test.YtfknkfninjjgbaaGreatDoorQUpA
import Derived.Test.YtfknkfninjjgbaaGreatDoorQYcToIntN
import Derived.Test.YtfknkfninjjgbaaGreatDoorQShlToCvPk
namespace Go.Proofs.YtfknkfninjjgbaaGreatDoor
open Go.RowKit
attribute [local go_sem] World.cell?_alloc_some cell_alloc2 cell_alloc3 cell_alloc4 frozen?_alloc_cells frozen_out
set_option linter.unusedSimpArgs false
theorem bR_get (n i : Nat) (h : i < 32) : (bR n)[i]? = some (.int .u8 ((n / 256 ^ i % 256 : Nat) : Int)) := by simp [bR, h]
/-- One more byte. -/
theorem bR_next (n i : Nat) (h : i < 32) : (bR (n % 256 ^ i)).set i (.int .u8 ((n / 256 ^ i % 256 : Nat) : Int)) = bR (n % 256 ^ (i + 1)) := by
 apply List.ext_getElem?
 intro j
 by_cases e : i = j
 ·subst e
  rw [List.getElem?_set_self (by rw [bR_length]; exact h), bR_get _ _ h, Nat.pow_succ, Nat.mod_mul_right_div_self, Nat.mod_mod]
 ·rw [List.getElem?_set_ne e]
  by_cases hj : j < 32
  ·rw [bR_get _ _ hj, bR_get _ _ hj]
   congr 3
   rcases Nat.lt_or_gt_of_ne e with h1 | h1
   ·have p1 : n % 256 ^ i / 256 ^ j = 0 := Nat.div_eq_of_lt (Nat.lt_of_lt_of_le (Nat.mod_lt _ (Nat.pow_pos (by decide))) (Nat.pow_le_pow_right (by decide) (by omega)))
    have p2 : n % 256 ^ (i + 1) / 256 ^ j = 0 := Nat.div_eq_of_lt (Nat.lt_of_lt_of_le (Nat.mod_lt _ (Nat.pow_pos (by decide))) (Nat.pow_le_pow_right (by decide) (by omega)))
    rw [p1, p2]
   ·have q : ∀ k, j < k → n % 256 ^ k / 256 ^ j % 256 = n / 256 ^ j % 256 := fun k hk => by
     obtain ⟨d, rfl⟩ : ∃ d, k = j + 1 + d := ⟨k - (j + 1), by omega⟩
     rw [Nat.add_assoc, Nat.pow_add, Nat.mod_mul_right_div_self, Nat.add_comm 1 d, Nat.pow_succ, Nat.mul_comm, Nat.mod_mul_right_mod]
    rw [q i h1, q (i + 1) (by omega)]
  ·rw [List.getElem?_eq_none (by rw [bR_length]; omega), List.getElem?_eq_none (by rw [bR_length]; omega)]
/-- A byte out of digits of sixteen bits. -/
theorem half_byte (n i : Nat) : n / 65536 ^ (i / 2) % 65536 / 2 ^ (i % 2 * 8) % 256 = n / 256 ^ i % 256 := by
 have e : (65536 : Nat) ^ (i / 2) = 256 ^ (2 * (i / 2)) := by rw [Nat.pow_mul]
 rw [e]
 rcases Nat.mod_two_eq_zero_or_one i with h | h
 ·rw [h, Nat.zero_mul, Nat.pow_zero, Nat.div_one, show 2 * (i / 2) = i by omega, Nat.mod_mod_of_dvd _ (by decide)]
 ·rw [h, show (65536 : Nat) = 256 * 256 by decide, show (2 : Nat) ^ (1 * 8) = 256 by decide, Nat.mod_mul_right_div_self, Nat.mod_mod, Nat.div_div_eq_div_mul, ← Nat.pow_succ, show (2 * (i / 2)).succ = i by omega]
theorem ix0 (x : Nat) (w : World) : (Instr.index 61 (.agg (fR x).toArray) (.int .i64 0)).run Tryz.prog w = .ok (I.dI (I.fd x 0)) w := by kernel_rfl
theorem exec_ix0 {o : Oper} {a : Act} (y : Operand) (ho : o.op = .index 61 y (.const (.int .i64 0))) (x : Nat) (hx : a.eval y = .agg (fR x).toArray) (W : World) : (execOp a.eval o).run Tryz.prog W = .ok (.value (.int .i64 ((x % 65536 : Nat) : Int))) W := by
 have h0 := ix0 x W
 have h1 : I.dI (I.fd x 0) = .int .i64 ((x % 65536 : Nat) : Int) := by
  unfold I.fd
  rw [Nat.pow_zero, Nat.div_one]
 have hc : a.eval (.const (.int .i64 0)) = .int .i64 0 := rfl
 rw [h1] at h0
 generalize a.eval = ev at *
 unfold execOp
 simp [ho, hx, hc, h0]
theorem wp_runV {ops : Array Oper} {rest : List Oper} {o : Oper} {a : Act} {Q : Exit → Act → World → Prop} {w : World} {v : Value} (hgd : o.guard = none) (e : (execOp a.eval o).run Tryz.prog w = .ok (.value v) w) (h : wpList Tryz.prog ops Q rest (a.put o.dst v) w) : wpList Tryz.prog ops Q (o :: rest) a w := by
 refine wpList_plain hgd fun K hK => ?_
 unfold Oper.wp
 rw [e]
 exact hK _ _ h
theorem conv_u8 (n m : Nat) (h : n % 256 = m) : IntKind.u8.wrap (n : Int) = (m : Int) := by
 rw [IntKind.wrap_u8]
 omega
set_option maxRecDepth 20000 in
set_option maxHeartbeats 2000000 in
theorem rPacked_walk (px py : Nm) (x y N_ : Nat) (hy : y < 2 ^ 255) (hN : N_ = y + 2 ^ 255 * (x % 2))
  (F1 : ∀ w, Calls Tryz.prog 57 #[N py] w fun e w' => e = .returned (.agg (fR (y)).toArray) ∧ Below w.heap.size w w')
  (F2 : ∀ w, Calls Tryz.prog 57 #[N px] w fun e w' => e = .returned (.agg (fR (x)).toArray) ∧ Below w.heap.size w w')
  (w : World) :
  Calls Tryz.prog 24 #[Wv px py] w fun e w' => e = .returned (bV N_) ∧ Below w.heap.size w w' := by
 go_enter Tryz.func24, Tryz.ntmps24
 have s0 : Hid (Kn ((kalP w (px) (py)).alloc (.cells #[Value.int IntKind.u8 0, .int .u8 0, .int .u8 0, .int .u8 0, .int .u8 0, .int .u8 0, .int .u8 0, .int .u8 0, .int .u8 0, .int .u8 0, .int .u8 0, .int .u8 0, .int .u8 0, .int .u8 0, .int .u8 0, .int .u8 0, .int .u8 0, .int .u8 0, .int .u8 0, .int .u8 0, .int .u8 0, .int .u8 0, .int .u8 0, .int .u8 0, .int .u8 0, .int .u8 0, .int .u8 0, .int .u8 0, .int .u8 0, .int .u8 0, .int .u8 0, .int .u8 0] 22)) [(w.heap.size + 1, bZ), (w.heap.size, (c8 (px) (py)))]) := (((Kn.nil w).al (c8 (px) (py)) 59 rfl).al bZ 22 (by simp))
 have b0 : Hid (Below w.heap.size w ((kalP w (px) (py)).alloc (.cells #[Value.int IntKind.u8 0, .int .u8 0, .int .u8 0, .int .u8 0, .int .u8 0, .int .u8 0, .int .u8 0, .int .u8 0, .int .u8 0, .int .u8 0, .int .u8 0, .int .u8 0, .int .u8 0, .int .u8 0, .int .u8 0, .int .u8 0, .int .u8 0, .int .u8 0, .int .u8 0, .int .u8 0, .int .u8 0, .int .u8 0, .int .u8 0, .int .u8 0, .int .u8 0, .int .u8 0, .int .u8 0, .int .u8 0, .int .u8 0, .int .u8 0, .int .u8 0, .int .u8 0] 22))) := (((Below.refl _ _).alloc (Nat.le_refl _) _).alloc (by simp <;> omega) _)
 have s1 : Hid (Kn (((kalP w (px) (py)).alloc (.cells #[Value.int IntKind.u8 0, .int .u8 0, .int .u8 0, .int .u8 0, .int .u8 0, .int .u8 0, .int .u8 0, .int .u8 0, .int .u8 0, .int .u8 0, .int .u8 0, .int .u8 0, .int .u8 0, .int .u8 0, .int .u8 0, .int .u8 0, .int .u8 0, .int .u8 0, .int .u8 0, .int .u8 0, .int .u8 0, .int .u8 0, .int .u8 0, .int .u8 0, .int .u8 0, .int .u8 0, .int .u8 0, .int .u8 0, .int .u8 0, .int .u8 0, .int .u8 0, .int .u8 0] 22)).alloc (.cells #[Value.int IntKind.u8 0, .int .u8 0, .int .u8 0, .int .u8 0, .int .u8 0, .int .u8 0, .int .u8 0, .int .u8 0, .int .u8 0, .int .u8 0, .int .u8 0, .int .u8 0, .int .u8 0, .int .u8 0, .int .u8 0, .int .u8 0, .int .u8 0, .int .u8 0, .int .u8 0, .int .u8 0, .int .u8 0, .int .u8 0, .int .u8 0, .int .u8 0, .int .u8 0, .int .u8 0, .int .u8 0, .int .u8 0, .int .u8 0, .int .u8 0, .int .u8 0, .int .u8 0] 22)) [(w.heap.size + 1 + 1, bZ), (w.heap.size + 1, bZ), (w.heap.size, (c8 (px) (py)))]) := s0.out.al bZ 22 (by simp)
 have b1 : Hid (Below w.heap.size w (((kalP w (px) (py)).alloc (.cells #[Value.int IntKind.u8 0, .int .u8 0, .int .u8 0, .int .u8 0, .int .u8 0, .int .u8 0, .int .u8 0, .int .u8 0, .int .u8 0, .int .u8 0, .int .u8 0, .int .u8 0, .int .u8 0, .int .u8 0, .int .u8 0, .int .u8 0, .int .u8 0, .int .u8 0, .int .u8 0, .int .u8 0, .int .u8 0, .int .u8 0, .int .u8 0, .int .u8 0, .int .u8 0, .int .u8 0, .int .u8 0, .int .u8 0, .int .u8 0, .int .u8 0, .int .u8 0, .int .u8 0] 22)).alloc (.cells #[Value.int IntKind.u8 0, .int .u8 0, .int .u8 0, .int .u8 0, .int .u8 0, .int .u8 0, .int .u8 0, .int .u8 0, .int .u8 0, .int .u8 0, .int .u8 0, .int .u8 0, .int .u8 0, .int .u8 0, .int .u8 0, .int .u8 0, .int .u8 0, .int .u8 0, .int .u8 0, .int .u8 0, .int .u8 0, .int .u8 0, .int .u8 0, .int .u8 0, .int .u8 0, .int .u8 0, .int .u8 0, .int .u8 0, .int .u8 0, .int .u8 0, .int .u8 0, .int .u8 0] 22))) := b0.out.alloc b0.out.size _
 have z1 := b0.out.size
 clear s0 b0
 have up_0 : (((kalP w (px) (py)).alloc (.cells #[Value.int IntKind.u8 0, .int .u8 0, .int .u8 0, .int .u8 0, .int .u8 0, .int .u8 0, .int .u8 0, .int .u8 0, .int .u8 0, .int .u8 0, .int .u8 0, .int .u8 0, .int .u8 0, .int .u8 0, .int .u8 0, .int .u8 0, .int .u8 0, .int .u8 0, .int .u8 0, .int .u8 0, .int .u8 0, .int .u8 0, .int .u8 0, .int .u8 0, .int .u8 0, .int .u8 0, .int .u8 0, .int .u8 0, .int .u8 0, .int .u8 0, .int .u8 0, .int .u8 0] 22)).alloc (.cells #[Value.int IntKind.u8 0, .int .u8 0, .int .u8 0, .int .u8 0, .int .u8 0, .int .u8 0, .int .u8 0, .int .u8 0, .int .u8 0, .int .u8 0, .int .u8 0, .int .u8 0, .int .u8 0, .int .u8 0, .int .u8 0, .int .u8 0, .int .u8 0, .int .u8 0, .int .u8 0, .int .u8 0, .int .u8 0, .int .u8 0, .int .u8 0, .int .u8 0, .int .u8 0, .int .u8 0, .int .u8 0, .int .u8 0, .int .u8 0, .int .u8 0, .int .u8 0, .int .u8 0] 22)).cell? ⟨w.heap.size, 0, none⟩ = some (.int .u64 (px).a) := Kn.get s1.out 2 0 rfl rfl
 have up_1 : (((kalP w (px) (py)).alloc (.cells #[Value.int IntKind.u8 0, .int .u8 0, .int .u8 0, .int .u8 0, .int .u8 0, .int .u8 0, .int .u8 0, .int .u8 0, .int .u8 0, .int .u8 0, .int .u8 0, .int .u8 0, .int .u8 0, .int .u8 0, .int .u8 0, .int .u8 0, .int .u8 0, .int .u8 0, .int .u8 0, .int .u8 0, .int .u8 0, .int .u8 0, .int .u8 0, .int .u8 0, .int .u8 0, .int .u8 0, .int .u8 0, .int .u8 0, .int .u8 0, .int .u8 0, .int .u8 0, .int .u8 0] 22)).alloc (.cells #[Value.int IntKind.u8 0, .int .u8 0, .int .u8 0, .int .u8 0, .int .u8 0, .int .u8 0, .int .u8 0, .int .u8 0, .int .u8 0, .int .u8 0, .int .u8 0, .int .u8 0, .int .u8 0, .int .u8 0, .int .u8 0, .int .u8 0, .int .u8 0, .int .u8 0, .int .u8 0, .int .u8 0, .int .u8 0, .int .u8 0, .int .u8 0, .int .u8 0, .int .u8 0, .int .u8 0, .int .u8 0, .int .u8 0, .int .u8 0, .int .u8 0, .int .u8 0, .int .u8 0] 22)).cell? ⟨w.heap.size, 1, none⟩ = some (.int .u64 (px).b) := Kn.get s1.out 2 1 rfl rfl
 have up_2 : (((kalP w (px) (py)).alloc (.cells #[Value.int IntKind.u8 0, .int .u8 0, .int .u8 0, .int .u8 0, .int .u8 0, .int .u8 0, .int .u8 0, .int .u8 0, .int .u8 0, .int .u8 0, .int .u8 0, .int .u8 0, .int .u8 0, .int .u8 0, .int .u8 0, .int .u8 0, .int .u8 0, .int .u8 0, .int .u8 0, .int .u8 0, .int .u8 0, .int .u8 0, .int .u8 0, .int .u8 0, .int .u8 0, .int .u8 0, .int .u8 0, .int .u8 0, .int .u8 0, .int .u8 0, .int .u8 0, .int .u8 0] 22)).alloc (.cells #[Value.int IntKind.u8 0, .int .u8 0, .int .u8 0, .int .u8 0, .int .u8 0, .int .u8 0, .int .u8 0, .int .u8 0, .int .u8 0, .int .u8 0, .int .u8 0, .int .u8 0, .int .u8 0, .int .u8 0, .int .u8 0, .int .u8 0, .int .u8 0, .int .u8 0, .int .u8 0, .int .u8 0, .int .u8 0, .int .u8 0, .int .u8 0, .int .u8 0, .int .u8 0, .int .u8 0, .int .u8 0, .int .u8 0, .int .u8 0, .int .u8 0, .int .u8 0, .int .u8 0] 22)).cell? ⟨w.heap.size, 2, none⟩ = some (.int .u64 (px).c) := Kn.get s1.out 2 2 rfl rfl
 have up_3 : (((kalP w (px) (py)).alloc (.cells #[Value.int IntKind.u8 0, .int .u8 0, .int .u8 0, .int .u8 0, .int .u8 0, .int .u8 0, .int .u8 0, .int .u8 0, .int .u8 0, .int .u8 0, .int .u8 0, .int .u8 0, .int .u8 0, .int .u8 0, .int .u8 0, .int .u8 0, .int .u8 0, .int .u8 0, .int .u8 0, .int .u8 0, .int .u8 0, .int .u8 0, .int .u8 0, .int .u8 0, .int .u8 0, .int .u8 0, .int .u8 0, .int .u8 0, .int .u8 0, .int .u8 0, .int .u8 0, .int .u8 0] 22)).alloc (.cells #[Value.int IntKind.u8 0, .int .u8 0, .int .u8 0, .int .u8 0, .int .u8 0, .int .u8 0, .int .u8 0, .int .u8 0, .int .u8 0, .int .u8 0, .int .u8 0, .int .u8 0, .int .u8 0, .int .u8 0, .int .u8 0, .int .u8 0, .int .u8 0, .int .u8 0, .int .u8 0, .int .u8 0, .int .u8 0, .int .u8 0, .int .u8 0, .int .u8 0, .int .u8 0, .int .u8 0, .int .u8 0, .int .u8 0, .int .u8 0, .int .u8 0, .int .u8 0, .int .u8 0] 22)).cell? ⟨w.heap.size, 3, none⟩ = some (.int .u64 (px).d) := Kn.get s1.out 2 3 rfl rfl
 have up_4 : (((kalP w (px) (py)).alloc (.cells #[Value.int IntKind.u8 0, .int .u8 0, .int .u8 0, .int .u8 0, .int .u8 0, .int .u8 0, .int .u8 0, .int .u8 0, .int .u8 0, .int .u8 0, .int .u8 0, .int .u8 0, .int .u8 0, .int .u8 0, .int .u8 0, .int .u8 0, .int .u8 0, .int .u8 0, .int .u8 0, .int .u8 0, .int .u8 0, .int .u8 0, .int .u8 0, .int .u8 0, .int .u8 0, .int .u8 0, .int .u8 0, .int .u8 0, .int .u8 0, .int .u8 0, .int .u8 0, .int .u8 0] 22)).alloc (.cells #[Value.int IntKind.u8 0, .int .u8 0, .int .u8 0, .int .u8 0, .int .u8 0, .int .u8 0, .int .u8 0, .int .u8 0, .int .u8 0, .int .u8 0, .int .u8 0, .int .u8 0, .int .u8 0, .int .u8 0, .int .u8 0, .int .u8 0, .int .u8 0, .int .u8 0, .int .u8 0, .int .u8 0, .int .u8 0, .int .u8 0, .int .u8 0, .int .u8 0, .int .u8 0, .int .u8 0, .int .u8 0, .int .u8 0, .int .u8 0, .int .u8 0, .int .u8 0, .int .u8 0] 22)).cell? ⟨w.heap.size, 4, none⟩ = some (.int .u64 (py).a) := Kn.get s1.out 2 4 rfl rfl
 have up_5 : (((kalP w (px) (py)).alloc (.cells #[Value.int IntKind.u8 0, .int .u8 0, .int .u8 0, .int .u8 0, .int .u8 0, .int .u8 0, .int .u8 0, .int .u8 0, .int .u8 0, .int .u8 0, .int .u8 0, .int .u8 0, .int .u8 0, .int .u8 0, .int .u8 0, .int .u8 0, .int .u8 0, .int .u8 0, .int .u8 0, .int .u8 0, .int .u8 0, .int .u8 0, .int .u8 0, .int .u8 0, .int .u8 0, .int .u8 0, .int .u8 0, .int .u8 0, .int .u8 0, .int .u8 0, .int .u8 0, .int .u8 0] 22)).alloc (.cells #[Value.int IntKind.u8 0, .int .u8 0, .int .u8 0, .int .u8 0, .int .u8 0, .int .u8 0, .int .u8 0, .int .u8 0, .int .u8 0, .int .u8 0, .int .u8 0, .int .u8 0, .int .u8 0, .int .u8 0, .int .u8 0, .int .u8 0, .int .u8 0, .int .u8 0, .int .u8 0, .int .u8 0, .int .u8 0, .int .u8 0, .int .u8 0, .int .u8 0, .int .u8 0, .int .u8 0, .int .u8 0, .int .u8 0, .int .u8 0, .int .u8 0, .int .u8 0, .int .u8 0] 22)).cell? ⟨w.heap.size, 5, none⟩ = some (.int .u64 (py).b) := Kn.get s1.out 2 5 rfl rfl
 have up_6 : (((kalP w (px) (py)).alloc (.cells #[Value.int IntKind.u8 0, .int .u8 0, .int .u8 0, .int .u8 0, .int .u8 0, .int .u8 0, .int .u8 0, .int .u8 0, .int .u8 0, .int .u8 0, .int .u8 0, .int .u8 0, .int .u8 0, .int .u8 0, .int .u8 0, .int .u8 0, .int .u8 0, .int .u8 0, .int .u8 0, .int .u8 0, .int .u8 0, .int .u8 0, .int .u8 0, .int .u8 0, .int .u8 0, .int .u8 0, .int .u8 0, .int .u8 0, .int .u8 0, .int .u8 0, .int .u8 0, .int .u8 0] 22)).alloc (.cells #[Value.int IntKind.u8 0, .int .u8 0, .int .u8 0, .int .u8 0, .int .u8 0, .int .u8 0, .int .u8 0, .int .u8 0, .int .u8 0, .int .u8 0, .int .u8 0, .int .u8 0, .int .u8 0, .int .u8 0, .int .u8 0, .int .u8 0, .int .u8 0, .int .u8 0, .int .u8 0, .int .u8 0, .int .u8 0, .int .u8 0, .int .u8 0, .int .u8 0, .int .u8 0, .int .u8 0, .int .u8 0, .int .u8 0, .int .u8 0, .int .u8 0, .int .u8 0, .int .u8 0] 22)).cell? ⟨w.heap.size, 6, none⟩ = some (.int .u64 (py).c) := Kn.get s1.out 2 6 rfl rfl
 have up_7 : (((kalP w (px) (py)).alloc (.cells #[Value.int IntKind.u8 0, .int .u8 0, .int .u8 0, .int .u8 0, .int .u8 0, .int .u8 0, .int .u8 0, .int .u8 0, .int .u8 0, .int .u8 0, .int .u8 0, .int .u8 0, .int .u8 0, .int .u8 0, .int .u8 0, .int .u8 0, .int .u8 0, .int .u8 0, .int .u8 0, .int .u8 0, .int .u8 0, .int .u8 0, .int .u8 0, .int .u8 0, .int .u8 0, .int .u8 0, .int .u8 0, .int .u8 0, .int .u8 0, .int .u8 0, .int .u8 0, .int .u8 0] 22)).alloc (.cells #[Value.int IntKind.u8 0, .int .u8 0, .int .u8 0, .int .u8 0, .int .u8 0, .int .u8 0, .int .u8 0, .int .u8 0, .int .u8 0, .int .u8 0, .int .u8 0, .int .u8 0, .int .u8 0, .int .u8 0, .int .u8 0, .int .u8 0, .int .u8 0, .int .u8 0, .int .u8 0, .int .u8 0, .int .u8 0, .int .u8 0, .int .u8 0, .int .u8 0, .int .u8 0, .int .u8 0, .int .u8 0, .int .u8 0, .int .u8 0, .int .u8 0, .int .u8 0, .int .u8 0] 22)).cell? ⟨w.heap.size, 7, none⟩ = some (.int .u64 (py).d) := Kn.get s1.out 2 7 rfl rfl
 go_wp2_with (first | simp only [zero_b32])
 clear up_0 up_1 up_2 up_3 up_4 up_5 up_6 up_7
 refine (F1 _).mono ?_
 rintro e w2 ⟨rfl, hb2⟩
 have s2 : Hid (Kn w2 _) := s1.out.up hb2
 have b2 : Hid (Below w.heap.size w w2) := b1.out.trans (hb2.mono b1.out.size)
 have z2 := b2.out.size
 clear hb2 s1 b1
 have s3x : Hid (Kn (w2.alloc (.cells #[Value.int IntKind.i64 0, .int .i64 0, .int .i64 0, .int .i64 0, .int .i64 0, .int .i64 0, .int .i64 0, .int .i64 0, .int .i64 0, .int .i64 0, .int .i64 0, .int .i64 0, .int .i64 0, .int .i64 0, .int .i64 0, .int .i64 0] 61)) [(w2.heap.size, fZ), (w.heap.size + 1 + 1, bZ), (w.heap.size + 1, bZ), (w.heap.size, (c8 (px) (py)))]) := s2.out.al fZ 61 rfl
 have b3x : Hid (Below w.heap.size w (w2.alloc (.cells #[Value.int IntKind.i64 0, .int .i64 0, .int .i64 0, .int .i64 0, .int .i64 0, .int .i64 0, .int .i64 0, .int .i64 0, .int .i64 0, .int .i64 0, .int .i64 0, .int .i64 0, .int .i64 0, .int .i64 0, .int .i64 0, .int .i64 0] 61))) := b2.out.alloc b2.out.size _
 have g3 : w.heap.size ≤ w2.heap.size := b2.out.size
 have TT3 : Hid ((w2.alloc (.cells #[Value.int IntKind.i64 0, .int .i64 0, .int .i64 0, .int .i64 0, .int .i64 0, .int .i64 0, .int .i64 0, .int .i64 0, .int .i64 0, .int .i64 0, .int .i64 0, .int .i64 0, .int .i64 0, .int .i64 0, .int .i64 0, .int .i64 0] 61)).there (w2.heap.size) 0 (fR (y)).length) := Kn.there s3x.out 0 rfl (by rw [(fR_length (y)), fZ_length])
 go_wp2_with (first | simp only [I.zero_fe] | refine I.wp_store_eq rfl 61 _ _ rfl (w2.heap.size) 0 (fR (y)) rfl rfl TT3.out (info_fR (y)) (I.one_dI _) ?_)
 intro w3 hw3
 try simp only [Act.put, List.setIfInBounds_toArray, List.set_cons_succ, List.set_cons_zero]
 have s3 : Hid (Kn w3 [(w2.heap.size, (fR (y))), (w.heap.size + 1 + 1, bZ), (w.heap.size + 1, bZ), (w.heap.size, (c8 (px) (py)))]) := by rw [hw3.out]; exact Kn.put s3x.out (by rw [(fR_length (y)), fZ_length])
 have b3 : Hid (Below w.heap.size w w3) := by rw [hw3.out]; exact I.below_setCells _ _ _ b3x.out g3
 have z3 := b3.out.size
 clear hw3 s3x b3x TT3 s2 b2
 go_wp2_with fail
 have HB : Hid (bZ = bR (y % 256 ^ 0)) := by
  show _ = _
  rw [Nat.pow_zero, Nat.mod_one]
  rfl
 have s3' : Hid (Kn w3 [(w2.heap.size, fR y), (w.heap.size + 1 + 1, bR (y % 256 ^ 0)), (w.heap.size + 1, bZ), (w.heap.size, c8 px py)]) := by rw [← HB.out]; exact s3
 clear s3
 have HY : Hid (y < 2 ^ 255) := hy
 have HN : Hid (N_ = y + 2 ^ 255 * (x % 2)) := hN
 clear HB hy hN
 have gko : w.heap.size ≤ w.heap.size + 1 + 1 := by omega
 generalize w2.heap.size = ky at *
 go_loopw [9] (fun i wr => ∃ j : Nat, j ≤ 32 ∧ i = .int .i64 (j : Int) ∧ Hid (Kn wr [(ky, fR y), (w.heap.size + 1 + 1, bR (y % 256 ^ j)), (w.heap.size + 1, bZ), (w.heap.size, c8 px py)]) ∧ Hid (Below w.heap.size w wr)) (fun i _ => 32 - (intOf i).toNat)
 case atStart => exact ⟨0, by omega, rfl, s3', b3⟩
 case round =>
  clear s3' b3
  obtain ⟨j, hj, rfl, sk, bk⟩ := hrel
  by_cases hlt : j < 32
  ·have i1 : (j : Int) < 32 := by omega
   have i0 : (0 : Int) ≤ (j : Int) := by omega
   obtain ⟨q, hq⟩ : ∃ q, q = j / 2 := ⟨_, rfl⟩
   obtain ⟨r, hr⟩ : ∃ r, r = j % 2 := ⟨_, rfl⟩
   obtain ⟨v, hv⟩ : ∃ v, v = y / 65536 ^ q % 65536 := ⟨_, rfl⟩
   obtain ⟨b, hb⟩ : ∃ b, b = v / 2 ^ (r * 8) := ⟨_, rfl⟩
   obtain ⟨m, hm⟩ : ∃ m, m = y / 256 ^ j % 256 := ⟨_, rfl⟩
   obtain ⟨t, ht⟩ : ∃ t, t = r * 8 := ⟨_, rfl⟩
   have QE : Hid (∀ w, (binOp .quo 3 (.int .i64 (j : Int)) (.int .i64 2)).run Tryz.prog w = .ok (.int .i64 (q : Int)) w) := fun w => by rw [hq]; exact quo_nat j 2 (by decide) (by omega) w
   have RE : Hid (∀ w, (binOp .rem 3 (.int .i64 (j : Int)) (.int .i64 2)).run Tryz.prog w = .ok (.int .i64 (r : Int)) w) := fun w => by rw [hr]; exact rem_nat j 2 (by decide) w
   have ME : Hid (∀ w, (binOp .mul 3 (.int .i64 (r : Int)) (.int .i64 8)).run Tryz.prog w = .ok (.int .i64 (t : Int)) w) := fun w => by rw [ht]; exact mul_nat r 8 (by omega) w
   have SE : Hid (∀ w, (binOp .shr 3 (.int .i64 (v : Int)) (.int .i64 (t : Int))).run Tryz.prog w = .ok (.int .i64 (b : Int)) w) := fun w => by rw [hb, ← ht]; exact shr_nat' v t (by omega) w
   have wb : IntKind.u8.wrap (b : Int) = (m : Int) := conv_u8 b m (by rw [hb, hm, hv, hq, hr]; exact half_byte y j)
   have q1 : (q : Int) < 16 := by omega
   have q0 : (0 : Int) ≤ (q : Int) := by omega
   have cy : wr.cell? ⟨ky, q, none⟩ = some (.int .i64 (v : Int)) := Kn.get sk.out 0 q rfl (by
    rw [fR, List.getElem?_map, hv]
    unfold I.row
    rw [List.getElem?_map, List.getElem?_range (by omega)]
    rfl)
   have co : wr.cell? ⟨w.heap.size + 1 + 1, j, none⟩ = some (.int .u8 ((y % 256 ^ j / 256 ^ j % 256 : Nat) : Int)) := Kn.get sk.out 1 j rfl (bR_get _ _ hlt)
   have zo := Kn.fz sk.out 1 rfl
   have NX : Hid ((bR (y % 256 ^ j)).set j (.int .u8 (m : Int)) = bR (y % 256 ^ (j + 1))) := by
    show _ = _
    rw [hm]
    exact bR_next y j hlt
   generalize y % 256 ^ j / 256 ^ j % 256 = old at *
   clear hq hr hv hb hm ht
   go_wp2_with (first | refine wp_binI rfl (.tmp 13) (.const (.int .i64 2)) rfl rfl rfl QE.out ?_ | refine wp_binI rfl (.tmp 17) (.const (.int .i64 2)) rfl rfl rfl RE.out ?_ | refine wp_binI rfl (.tmp 18) (.const (.int .i64 8)) rfl rfl rfl ME.out ?_ | refine wp_binI rfl (.tmp 16) (.tmp 19) rfl rfl rfl SE.out ?_)
   have s4 : Hid (Kn (wr.setCell ⟨w.heap.size + 1 + 1, j, none⟩ (.int .u8 (m : Int))) [(ky, fR y), (w.heap.size + 1 + 1, bR (y % 256 ^ (j + 1))), (w.heap.size + 1, bZ), (w.heap.size, c8 px py)]) := by
    have := Kn.set (sk.out.front 1 rfl) j (.int .u8 (m : Int)) (by rw [bR_length]; exact hlt)
    rw [NX.out] at this
    exact this.front 1 rfl
   have b4 : Hid (Below w.heap.size w (wr.setCell ⟨w.heap.size + 1 + 1, j, none⟩ (.int .u8 (m : Int)))) := bk.out.setCell (p := ⟨w.heap.size + 1 + 1, j, none⟩) gko _
   go_roundw
   case rel => exact ⟨j + 1, by omega, by go_num, s4, b4⟩
   case measure => simp [intOf]; omega
  ·obtain rfl : j = 32 := by omega
   have e32 : Hid (y % 256 ^ 32 = y) := Nat.mod_eq_of_lt (Nat.lt_of_lt_of_le HY.out (by decide))
   rw [e32.out] at sk
   have s5 : Hid (Kn wr [(ky, fR y), (w.heap.size + 1 + 1, bR y), (w.heap.size + 1, bZ), (w.heap.size, c8 px py)]) := sk
   have b5 : Hid (Below w.heap.size w wr) := bk
   clear sk bk e32
   have up_0 : wr.cell? ⟨w.heap.size, 0, none⟩ = some (.int .u64 (px).a) := Kn.get s5.out 3 0 rfl rfl
   have up_1 : wr.cell? ⟨w.heap.size, 1, none⟩ = some (.int .u64 (px).b) := Kn.get s5.out 3 1 rfl rfl
   have up_2 : wr.cell? ⟨w.heap.size, 2, none⟩ = some (.int .u64 (px).c) := Kn.get s5.out 3 2 rfl rfl
   have up_3 : wr.cell? ⟨w.heap.size, 3, none⟩ = some (.int .u64 (px).d) := Kn.get s5.out 3 3 rfl rfl
   have up_4 : wr.cell? ⟨w.heap.size, 4, none⟩ = some (.int .u64 (py).a) := Kn.get s5.out 3 4 rfl rfl
   have up_5 : wr.cell? ⟨w.heap.size, 5, none⟩ = some (.int .u64 (py).b) := Kn.get s5.out 3 5 rfl rfl
   have up_6 : wr.cell? ⟨w.heap.size, 6, none⟩ = some (.int .u64 (py).c) := Kn.get s5.out 3 6 rfl rfl
   have up_7 : wr.cell? ⟨w.heap.size, 7, none⟩ = some (.int .u64 (py).d) := Kn.get s5.out 3 7 rfl rfl
   go_wp2_with fail
   clear up_0 up_1 up_2 up_3 up_4 up_5 up_6 up_7
   refine (F2 _).mono ?_
   rintro e w6 ⟨rfl, hb6⟩
   have s6 : Hid (Kn w6 _) := s5.out.up hb6
   have b6 : Hid (Below w.heap.size w w6) := b5.out.trans (hb6.mono b5.out.size)
   have z6 := b6.out.size
   clear hb6 s5 b5
   obtain ⟨d, hd⟩ : ∃ d, d = x % 2 := ⟨_, rfl⟩
   have RE : Hid (∀ w, (binOp .rem 3 (.int .i64 ((x % 65536 : Nat) : Int)) (.int .i64 2)).run Tryz.prog w = .ok (.int .i64 (d : Int)) w) := fun w => by rw [hd, ← Nat.mod_mod_of_dvd x (show 2 ∣ 65536 by decide)]; exact rem_nat _ 2 (by decide) w
   have IX : Hid (∀ (W : World) (o : Oper) (a : Act), o.op = .index 61 (.tmp 26) (.const (.int .i64 0)) → a.eval (.tmp 26) = .agg (fR x).toArray → (execOp a.eval o).run Tryz.prog W = .ok (.value (.int .i64 ((x % 65536 : Nat) : Int))) W) := fun W o a ho hx => exec_ix0 _ ho x hx W
   rcases Nat.mod_two_eq_zero_or_one x with h2 | h2
   ·rw [h2] at hd
    subst hd
    have eN : Hid (N_ = y) := by show _ = _; rw [HN.out, h2]; omega
    clear HN
    have s7 : Hid (Kn w6 [(ky, fR y), (w.heap.size + 1 + 1, bR N_), (w.heap.size + 1, bZ), (w.heap.size, c8 px py)]) := by rw [eN.out]; exact s6
    have b7 : Hid (Below w.heap.size w w6) := b6
    clear s6 b6
    have s8x : Hid (Kn w6 [(w.heap.size + 1, bZ), (ky, (fR (y))), (w.heap.size + 1 + 1, (bR (N_))), (w.heap.size, (c8 (px) (py)))]) := s7.out.front 2 rfl
    have b8x : Hid (Below w.heap.size w w6) := b7.out
    have TT8 : Hid (w6.there (w.heap.size + 1) 0 (bR (N_)).length) := Kn.there s8x.out 0 rfl (by rw [(bR_length (N_)), bZ_length])
    go_wp2_with (first | refine wp_ldW rfl 22 _ rfl (w.heap.size + 1 + 1) 0 rfl (bR (N_)) _ (Kn.rng s7.out 1 rfl) Tryz.underlying22 rfl (info_bR (N_)) ?_ | refine wp_runV rfl (IX.out _ _ _ rfl rfl) ?_ | refine wp_binI rfl (.tmp 27) (.const (.int .i64 2)) rfl rfl rfl RE.out ?_ | refine I.wp_store_eq rfl 22 _ _ rfl (w.heap.size + 1) 0 (bR (N_)) rfl rfl TT8.out (info_bR (N_)) (bR_one (N_)) ?_)
    intro w8 hw8
    try simp only [Act.put, List.setIfInBounds_toArray, List.set_cons_succ, List.set_cons_zero]
    have s8 : Hid (Kn w8 [(w.heap.size + 1, (bR (N_))), (ky, (fR (y))), (w.heap.size + 1 + 1, (bR (N_))), (w.heap.size, (c8 (px) (py)))]) := by rw [hw8.out]; exact Kn.put s8x.out (by rw [(bR_length (N_)), bZ_length])
    have b8 : Hid (Below w.heap.size w w8) := by rw [hw8.out]; exact I.below_setCells _ _ _ b8x.out (by omega)
    have z8 := b8.out.size
    clear hw8 s8x b8x TT8 s7 b7
    go_wp2_with fail
    exact bodyPost_ret (v := bV N_) (I.results_cell (b := w.heap.size + 1) rfl rfl (Kn.rng s8.out 0 rfl) Tryz.underlying22 rfl (info_bR (N_))) rfl ⟨rfl, b8.out⟩
   ·rw [h2] at hd
    subst hd
    have tr := top_row HY.out (show 1 < 2 by decide)
    have eN : Hid (N_ = y + 2 ^ 255 * 1) := by show _ = _; rw [HN.out, h2]
    rw [← eN.out] at tr
    obtain ⟨t1, t2, t3⟩ := tr
    clear HN
    have c31 : w6.cell? ⟨w.heap.size + 1 + 1, 31, none⟩ = some (.int .u8 ((y / 256 ^ 31 % 256 : Nat) : Int)) := Kn.get s6.out 1 31 rfl (bR_get _ _ (by decide))
    have z31 := Kn.fz s6.out 1 rfl
    obtain ⟨m, hm⟩ : ∃ m, m = N_ / 256 ^ 31 % 256 := ⟨_, rfl⟩
    have NX : Hid ((bR y).set 31 (.int .u8 (m : Int)) = bR N_) := by rw [hm]; exact t3
    have wm : IntKind.u8.wrap (((y / 256 ^ 31 % 256 : Nat) : Int) + 128) = (m : Int) := by rw [IntKind.wrap_u8, hm, t1]; omega
    generalize y / 256 ^ 31 % 256 = old at *
    clear hm t1 t2 t3
    have X7 := Kn.set (s6.out.front 1 rfl) 31 (.int .u8 (m : Int)) (by rw [bR_length]; decide)
    rw [NX.out] at X7
    have s7 : Hid (Kn (w6.setCell ⟨w.heap.size + 1 + 1, 31, none⟩ (.int .u8 (m : Int))) [(ky, fR y), (w.heap.size + 1 + 1, bR N_), (w.heap.size + 1, bZ), (w.heap.size, c8 px py)]) := X7.front 1 rfl
    have b7 : Hid (Below w.heap.size w (w6.setCell ⟨w.heap.size + 1 + 1, 31, none⟩ (.int .u8 (m : Int)))) := b6.out.setCell (p := ⟨w.heap.size + 1 + 1, 31, none⟩) gko _
    clear X7 s6 b6
    have s8x : Hid (Kn (w6.setCell ⟨w.heap.size + 1 + 1, 31, none⟩ (.int .u8 (m : Int))) [(w.heap.size + 1, bZ), (ky, (fR (y))), (w.heap.size + 1 + 1, (bR (N_))), (w.heap.size, (c8 (px) (py)))]) := s7.out.front 2 rfl
    have b8x : Hid (Below w.heap.size w (w6.setCell ⟨w.heap.size + 1 + 1, 31, none⟩ (.int .u8 (m : Int)))) := b7.out
    have TT8 : Hid ((w6.setCell ⟨w.heap.size + 1 + 1, 31, none⟩ (.int .u8 (m : Int))).there (w.heap.size + 1) 0 (bR (N_)).length) := Kn.there s8x.out 0 rfl (by rw [(bR_length (N_)), bZ_length])
    go_wp2_with (first | refine wp_ldW rfl 22 _ rfl (w.heap.size + 1 + 1) 0 rfl (bR (N_)) _ (Kn.rng s7.out 1 rfl) Tryz.underlying22 rfl (info_bR (N_)) ?_ | refine wp_runV rfl (IX.out _ _ _ rfl rfl) ?_ | refine wp_binI rfl (.tmp 27) (.const (.int .i64 2)) rfl rfl rfl RE.out ?_ | simp only [wm] | refine I.wp_store_eq rfl 22 _ _ rfl (w.heap.size + 1) 0 (bR (N_)) rfl rfl TT8.out (info_bR (N_)) (bR_one (N_)) ?_)
    intro w8 hw8
    try simp only [Act.put, List.setIfInBounds_toArray, List.set_cons_succ, List.set_cons_zero]
    have s8 : Hid (Kn w8 [(w.heap.size + 1, (bR (N_))), (ky, (fR (y))), (w.heap.size + 1 + 1, (bR (N_))), (w.heap.size, (c8 (px) (py)))]) := by rw [hw8.out]; exact Kn.put s8x.out (by rw [(bR_length (N_)), bZ_length])
    have b8 : Hid (Below w.heap.size w w8) := by rw [hw8.out]; exact I.below_setCells _ _ _ b8x.out (by omega)
    have z8 := b8.out.size
    clear hw8 s8x b8x TT8 s7 b7
    go_wp2_with fail
    exact bodyPost_ret (v := bV N_) (I.results_cell (b := w.heap.size + 1) rfl rfl (Kn.rng s8.out 0 rfl) Tryz.underlying22 rfl (info_bR (N_))) rfl ⟨rfl, b8.out⟩
end Go.Proofs.YtfknkfninjjgbaaGreatDoor
