/- AgreeClamp, out of package agree's contracts. -/
import Derived.Test.YtpnfopakkaoibaaQAgLaw
import Derived.Test.YtpnfopakkaoibaaQLenToLenW
namespace Go.Proofs.Ytpnfopakkaoibaa
open Go.RowKit
attribute [local go_sem] World.cell?_alloc_some cell_alloc2 cell_alloc3 cell_alloc4 frozen?_alloc_cells frozen_out
set_option linter.unusedSimpArgs false
/-- A byte of a row of a number that is stored into. -/
theorem row_set {n m i : Nat} (hi : i < 32) (h : ∀ j, j < 32 → j ≠ i → n / 256 ^ j % 256 = m / 256 ^ j % 256) : (bR n).set i (.int .u8 ((m / 256 ^ i % 256 : Nat) : Int)) = bR m := by
  apply List.ext_getElem?
  intro j
  by_cases hj : j < 32
  · by_cases e : i = j
    · subst e
      rw [List.getElem?_set_self (by rw [bR_length]; exact hi), bR_get _ _ hj]
    · rw [List.getElem?_set_ne e, bR_get _ _ hj, bR_get _ _ hj, h j hj (Ne.symm e)]
  · rw [List.getElem?_eq_none (by rw [List.length_set, bR_length]; omega), List.getElem?_eq_none (by rw [bR_length]; omega)]
theorem x7 : ∀ x : Fin 256, bits .xor .u8 ((x.val : Nat) : Int) 7 = ((x.val / 8 * 8 + (7 - x.val % 8) : Nat) : Int) := by decide +kernel
theorem x192 : ∀ x : Fin 256, bits .xor .u8 ((x.val : Nat) : Int) 192 = (((3 - x.val / 64) * 64 + x.val % 64 : Nat) : Int) := by decide +kernel
/-- The lowest three bits turned. -/
def t7 (n : Nat) : Nat := n / 8 * 8 + (7 - n % 8)
/-- The highest two bits turned. -/
def t192 (n : Nat) : Nat := n % 2 ^ 254 + (3 - n / 2 ^ 254 % 4) * 2 ^ 254
theorem pw (j : Nat) : (256 : Nat) ^ (j + 1) = 256 * 256 ^ j := by rw [Nat.pow_succ, Nat.mul_comm]
theorem t7_lt {n : Nat} (h : n < 2 ^ 256) : t7 n < 2 ^ 256 := by
  unfold t7
  rw [Ag.p256_is] at *
  omega
theorem t7_row (n : Nat) : (bR n).set 0 (.int .u8 ((t7 n / 256 ^ 0 % 256 : Nat) : Int)) = bR (t7 n) := by
  refine row_set (by decide) fun j hj h0 => ?_
  obtain ⟨i, rfl⟩ : ∃ i, j = i + 1 := ⟨j - 1, by omega⟩
  rw [pw, ← Nat.div_div_eq_div_mul, ← Nat.div_div_eq_div_mul]
  congr 2
  unfold t7
  omega
theorem t7_byte (n : Nat) : bits .xor .u8 ((n / 256 ^ 0 % 256 : Nat) : Int) 7 = ((t7 n / 256 ^ 0 % 256 : Nat) : Int) := by
  have h := x7 ⟨n / 256 ^ 0 % 256, Nat.mod_lt _ (by decide)⟩
  rw [h]
  congr 1
  unfold t7
  simp only [Nat.pow_zero, Nat.div_one]
  omega
theorem t192_lt {n : Nat} : t192 n < 2 ^ 256 := by
  unfold t192
  rw [Ag.p256_is, Ag.p254_is] at *
  omega
theorem t192_row (n : Nat) : (bR n).set 31 (.int .u8 ((t192 n / 256 ^ 31 % 256 : Nat) : Int)) = bR (t192 n) := by
  refine row_set (by decide) fun j hj h0 => ?_
  have hs : (2 : Nat) ^ 254 = 256 ^ j * (256 * 2 ^ (246 - 8 * j)) := by
    rw [show (256 : Nat) = 2 ^ 8 from rfl, ← Nat.pow_mul, ← Nat.pow_add, ← Nat.pow_add]
    congr 1
    omega
  have key : ∀ a b : Nat, (a + b * 2 ^ 254) / 256 ^ j % 256 = a / 256 ^ j % 256 := fun a b => by
    rw [hs, show b * (256 ^ j * (256 * 2 ^ (246 - 8 * j))) = 256 ^ j * (256 * (2 ^ (246 - 8 * j) * b)) by rw [Nat.mul_comm b, Nat.mul_assoc, Nat.mul_assoc], Nat.add_mul_div_left _ _ (Nat.pow_pos (by decide)), Nat.add_mul_mod_self_left]
  have e : n = n % 2 ^ 254 + n / 2 ^ 254 * 2 ^ 254 := by
    have := Nat.mod_add_div n (2 ^ 254)
    rw [Nat.mul_comm] at this
    omega
  unfold t192
  rw [key]
  conv => lhs; rw [e, key]
theorem t192_byte {n : Nat} (hn : n < 2 ^ 256) : bits .xor .u8 ((n / 256 ^ 31 % 256 : Nat) : Int) 192 = ((t192 n / 256 ^ 31 % 256 : Nat) : Int) := by
  have p31 : (256 : Nat) ^ 31 = 452312848583266388373324160190187140051835877600158453279131187530910662656 := by decide
  have h := x192 ⟨n / 256 ^ 31 % 256, Nat.mod_lt _ (by decide)⟩
  rw [h]
  congr 1
  simp only []
  unfold t192
  rw [p31, Ag.p254_is]
  rw [Ag.p256_is] at hn
  omega
theorem cl_turned (n : Nat) : Ag.cl (t192 (t7 n)) = Ag.cl n := by
  refine Ag.cl_same ?_
  unfold t192 t7
  rw [Ag.p254_is]
  omega
theorem turn_low {n : Nat} (hn : n < 2 ^ 256) : Cv.turn n % 2 ^ 255 = n % 2 ^ 255 := by
  unfold Cv.turn
  rw [Ag.p255_is]
  rw [Ag.p256_is] at hn
  split <;> omega
set_option maxRecDepth 20000 in
set_option maxHeartbeats 2000000 in
theorem agreeClamp_walk (n m o1 o2 m2 b k q : Nat) (er : Int) (c : Nm) (x1 y1 x2 y2 x3 y3 : Nat) (hc : c.a % 8 = 0) (c0 : 0 ≤ c.a)
    (hx1 : Hid (x1 = n / 256 ^ 0 % 256)) (hy1 : Hid (y1 = o1 / 256 ^ 0 % 256)) (hr1 : Hid ((bR n).set 0 (.int .u8 ((o1 / 256 ^ 0 % 256 : Nat) : Int)) = bR o1)) (e1 : bits .xor .u8 (x1 : Int) 7 = (y1 : Int))
    (hx2 : Hid (x2 = o1 / 256 ^ 31 % 256)) (hy2 : Hid (y2 = o2 / 256 ^ 31 % 256)) (hr2 : Hid ((bR o1).set 31 (.int .u8 ((o2 / 256 ^ 31 % 256 : Nat) : Int)) = bR o2)) (e2 : bits .xor .u8 (x2 : Int) 192 = (y2 : Int))
    (hx3 : Hid (x3 = m / 256 ^ 31 % 256)) (hy3 : Hid (y3 = m2 / 256 ^ 31 % 256)) (hr3 : Hid ((bR m).set 31 (.int .u8 ((m2 / 256 ^ 31 % 256 : Nat) : Int)) = bR m2)) (e3 : bits .xor .u8 (x3 : Int) 128 = (y3 : Int))
    (ec : ∀ w, (binOp .eql 28 (N c) (N c)).run Try.prog w = .ok (.bool true) w) (eq : ∀ w, (binOp .eql 22 (bV q) (bV q)).run Try.prog w = .ok (.bool true) w) (ek : ∀ w, (binOp .eql 22 (bV k) (bV k)).run Try.prog w = .ok (.bool true) w)
    (C1 : ∀ w, Calls Try.prog 10 #[.agg (bR (n)).toArray] w fun e w' => e = .returned (N c) ∧ Below w.heap.size w w')
    (C2 : ∀ w, Calls Try.prog 10 #[.agg (bR (o2)).toArray] w fun e w' => e = .returned (N c) ∧ Below w.heap.size w w')
    (C3 : ∀ w, Calls Try.prog 10 #[.agg (bR (b)).toArray] w fun e w' => e = .returned (N c) ∧ Below w.heap.size w w')
    (BY : ∀ w, Calls Try.prog 16 #[N c] w fun e w' => e = .returned (.agg (bR (b)).toArray) ∧ Below w.heap.size w w')
    (LE : ∀ w, Calls Try.prog 20 #[N c] w fun e w' => e = .returned (.int .i64 255) ∧ Below w.heap.size w w')
    (S1 : ∀ w, Calls Try.prog 8 #[.agg (bR (n)).toArray, .agg (bR (m)).toArray] w fun e w' => e = .returned (.tuple #[.agg (bR (k)).toArray, .int .i64 er]) ∧ Below w.heap.size w w')
    (S2 : ∀ w, Calls Try.prog 8 #[.agg (bR (o2)).toArray, .agg (bR (m2)).toArray] w fun e w' => e = .returned (.tuple #[.agg (bR (k)).toArray, .int .i64 er]) ∧ Below w.heap.size w w')
    (P1 : ∀ w, Calls Try.prog 12 #[.agg (bR (n)).toArray] w fun e w' => e = .returned (.agg (bR (q)).toArray) ∧ Below w.heap.size w w')
    (P2 : ∀ w, Calls Try.prog 12 #[.agg (bR (o2)).toArray] w fun e w' => e = .returned (.agg (bR (q)).toArray) ∧ Below w.heap.size w w')
    (w : World) :
    Calls Try.prog 7 #[bV n, bV m] w fun e w' => e = .returned (.bool true) ∧ Below w.heap.size w w' := by
  go_enter Try.func7, Try.ntmps7
  have s0 : Hid (Kn ((w.alloc (.cells (bR (n)).toArray 22)).alloc (.cells (bR (m)).toArray 22)) [(w.heap.size + 1, (bR (m))), (w.heap.size, (bR (n)))]) := (((Kn.nil w).al (bR (n)) 22 rfl).al (bR (m)) 22 (by simp))
  have b0 : Hid (Below w.heap.size w ((w.alloc (.cells (bR (n)).toArray 22)).alloc (.cells (bR (m)).toArray 22))) := (((Below.refl _ _).alloc (Nat.le_refl _) _).alloc (by simp <;> omega) _)
  go_wp2_with (first | refine wp_ldW rfl 22 _ rfl (w.heap.size) 0 rfl (bR (n)) _ (Kn.rng s0.out 1 rfl) Try.underlying22 rfl (info_bR (n)) ?_)
  refine (C1 _).mono ?_
  rintro e w1 ⟨rfl, hb1⟩
  have s1 : Hid (Kn w1 [(w.heap.size + 1, (bR (m))), (w.heap.size, (bR (n)))]) := s0.out.up hb1
  have b1 : Hid (Below w.heap.size w w1) := b0.out.trans (hb1.mono b0.out.size)
  have z1 := b1.out.size
  clear hb1 s0 b0
  have s2 : Hid (Kn (kal4 w1 (c)) [(w1.heap.size, (c4 (c))), (w.heap.size + 1, (bR (m))), (w.heap.size, (bR (n)))]) := s1.out.al (c4 (c)) 28 rfl
  have b2 : Hid (Below w.heap.size w (kal4 w1 (c))) := b1.out.alloc b1.out.size _
  have z2 := b1.out.size
  clear s1 b1
  have s3x : Hid (Kn ((kal4 w1 (c)).alloc (.cells #[Value.int IntKind.u8 0, Value.int IntKind.u8 0, Value.int IntKind.u8 0, Value.int IntKind.u8 0, Value.int IntKind.u8 0, Value.int IntKind.u8 0, Value.int IntKind.u8 0, Value.int IntKind.u8 0, Value.int IntKind.u8 0, Value.int IntKind.u8 0, Value.int IntKind.u8 0, Value.int IntKind.u8 0, Value.int IntKind.u8 0, Value.int IntKind.u8 0, Value.int IntKind.u8 0, Value.int IntKind.u8 0, Value.int IntKind.u8 0, Value.int IntKind.u8 0, Value.int IntKind.u8 0, Value.int IntKind.u8 0, Value.int IntKind.u8 0, Value.int IntKind.u8 0, Value.int IntKind.u8 0, Value.int IntKind.u8 0, Value.int IntKind.u8 0, Value.int IntKind.u8 0, Value.int IntKind.u8 0, Value.int IntKind.u8 0, Value.int IntKind.u8 0, Value.int IntKind.u8 0, Value.int IntKind.u8 0, Value.int IntKind.u8 0] 22)) [(w1.heap.size + 1, bZ), (w1.heap.size, (c4 (c))), (w.heap.size + 1, (bR (m))), (w.heap.size, (bR (n)))]) := s2.out.al bZ 22 (by simp)
  have b3x : Hid (Below w.heap.size w ((kal4 w1 (c)).alloc (.cells #[Value.int IntKind.u8 0, Value.int IntKind.u8 0, Value.int IntKind.u8 0, Value.int IntKind.u8 0, Value.int IntKind.u8 0, Value.int IntKind.u8 0, Value.int IntKind.u8 0, Value.int IntKind.u8 0, Value.int IntKind.u8 0, Value.int IntKind.u8 0, Value.int IntKind.u8 0, Value.int IntKind.u8 0, Value.int IntKind.u8 0, Value.int IntKind.u8 0, Value.int IntKind.u8 0, Value.int IntKind.u8 0, Value.int IntKind.u8 0, Value.int IntKind.u8 0, Value.int IntKind.u8 0, Value.int IntKind.u8 0, Value.int IntKind.u8 0, Value.int IntKind.u8 0, Value.int IntKind.u8 0, Value.int IntKind.u8 0, Value.int IntKind.u8 0, Value.int IntKind.u8 0, Value.int IntKind.u8 0, Value.int IntKind.u8 0, Value.int IntKind.u8 0, Value.int IntKind.u8 0, Value.int IntKind.u8 0, Value.int IntKind.u8 0] 22))) := b2.out.alloc b2.out.size _
  have g3 : w.heap.size ≤ w1.heap.size + 1 := (by omega)
  have TT3 : Hid (((kal4 w1 (c)).alloc (.cells #[Value.int IntKind.u8 0, Value.int IntKind.u8 0, Value.int IntKind.u8 0, Value.int IntKind.u8 0, Value.int IntKind.u8 0, Value.int IntKind.u8 0, Value.int IntKind.u8 0, Value.int IntKind.u8 0, Value.int IntKind.u8 0, Value.int IntKind.u8 0, Value.int IntKind.u8 0, Value.int IntKind.u8 0, Value.int IntKind.u8 0, Value.int IntKind.u8 0, Value.int IntKind.u8 0, Value.int IntKind.u8 0, Value.int IntKind.u8 0, Value.int IntKind.u8 0, Value.int IntKind.u8 0, Value.int IntKind.u8 0, Value.int IntKind.u8 0, Value.int IntKind.u8 0, Value.int IntKind.u8 0, Value.int IntKind.u8 0, Value.int IntKind.u8 0, Value.int IntKind.u8 0, Value.int IntKind.u8 0, Value.int IntKind.u8 0, Value.int IntKind.u8 0, Value.int IntKind.u8 0, Value.int IntKind.u8 0, Value.int IntKind.u8 0] 22)).there (w1.heap.size + 1) 0 (bR (n)).length) := Kn.there s3x.out 0 rfl (by rw [(bR_length (n)), bZ_length])
  go_wp2_with (first | refine wp_ldW rfl 22 _ rfl (w.heap.size) 0 rfl (bR (n)) _ (Kn.rng s2.out 2 rfl) Try.underlying22 rfl (info_bR (n)) ?_ | simp only [zero_b32] | refine I.wp_store_eq rfl 22 _ _ rfl (w1.heap.size + 1) 0 (bR (n)) rfl rfl TT3.out (info_bR (n)) (bR_one (n)) ?_)
  intro w3 hw3
  try simp only [Act.put, List.setIfInBounds_toArray, List.set_cons_succ, List.set_cons_zero]
  have s3 : Hid (Kn w3 [(w1.heap.size + 1, (bR (n))), (w1.heap.size, (c4 (c))), (w.heap.size + 1, (bR (m))), (w.heap.size, (bR (n)))]) := by rw [hw3.out]; exact Kn.put s3x.out (by rw [(bR_length (n)), bZ_length])
  have b3 : Hid (Below w.heap.size w w3) := by rw [hw3.out]; exact I.below_setCells _ _ _ b3x.out g3
  have z3 := b3.out.size
  clear hw3 s3x b3x TT3 s2 b2
  have cb4 : w3.cell? ⟨w1.heap.size + 1, 0, none⟩ = some (.int .u8 (x1 : Int)) := by
    have := Kn.get s3.out 0 0 (v := .int .u8 ((n / 256 ^ 0 % 256 : Nat) : Int)) rfl (bR_get _ _ (by decide))
    rw [hx1.out]
    exact this
  have zb4 := Kn.fz s3.out 0 rfl
  have s4 : Hid (Kn (w3.setCell ⟨w1.heap.size + 1, 0, none⟩ (.int .u8 (y1 : Int))) [(w1.heap.size + 1, (bR (o1))), (w1.heap.size, (c4 (c))), (w.heap.size + 1, (bR (m))), (w.heap.size, (bR (n)))]) := by
    have := Kn.set (L := [(w1.heap.size, (c4 (c))), (w.heap.size + 1, (bR (m))), (w.heap.size, (bR (n)))]) (s3.out.front 0 rfl) 0 (.int .u8 (y1 : Int)) (by rw [bR_length]; decide)
    rw [hy1.out, hr1.out] at this
    rw [hy1.out]
    exact this
  have b4 : Hid (Below w.heap.size w (w3.setCell ⟨w1.heap.size + 1, 0, none⟩ (.int .u8 (y1 : Int)))) := b3.out.setCell (p := ⟨w1.heap.size + 1, 0, none⟩) (by show w.heap.size ≤ w1.heap.size + 1; omega) _
  clear s3 b3
  have cb5 : (w3.setCell ⟨w1.heap.size + 1, 0, none⟩ (.int .u8 (y1 : Int))).cell? ⟨w1.heap.size + 1, 31, none⟩ = some (.int .u8 (x2 : Int)) := by
    have := Kn.get s4.out 0 31 (v := .int .u8 ((o1 / 256 ^ 31 % 256 : Nat) : Int)) rfl (bR_get _ _ (by decide))
    rw [hx2.out]
    exact this
  have zb5 := Kn.fz s4.out 0 rfl
  have s5 : Hid (Kn ((w3.setCell ⟨w1.heap.size + 1, 0, none⟩ (.int .u8 (y1 : Int))).setCell ⟨w1.heap.size + 1, 31, none⟩ (.int .u8 (y2 : Int))) [(w1.heap.size + 1, (bR (o2))), (w1.heap.size, (c4 (c))), (w.heap.size + 1, (bR (m))), (w.heap.size, (bR (n)))]) := by
    have := Kn.set (L := [(w1.heap.size, (c4 (c))), (w.heap.size + 1, (bR (m))), (w.heap.size, (bR (n)))]) (s4.out.front 0 rfl) 31 (.int .u8 (y2 : Int)) (by rw [bR_length]; decide)
    rw [hy2.out, hr2.out] at this
    rw [hy2.out]
    exact this
  have b5 : Hid (Below w.heap.size w ((w3.setCell ⟨w1.heap.size + 1, 0, none⟩ (.int .u8 (y1 : Int))).setCell ⟨w1.heap.size + 1, 31, none⟩ (.int .u8 (y2 : Int)))) := b4.out.setCell (p := ⟨w1.heap.size + 1, 31, none⟩) (by show w.heap.size ≤ w1.heap.size + 1; omega) _
  clear s4 b4
  go_wp2_with (first | refine wp_ldW rfl 22 _ rfl (w.heap.size) 0 rfl (bR (n)) _ (Kn.rng s5.out 3 rfl) Try.underlying22 rfl (info_bR (n)) ?_ | refine wp_ldW rfl 22 _ rfl (w.heap.size + 1) 0 rfl (bR (m)) _ (Kn.rng s5.out 2 rfl) Try.underlying22 rfl (info_bR (m)) ?_)
  clear cb4 zb4 cb5 zb5
  refine (S1 _).mono ?_
  rintro e w6 ⟨rfl, hb6⟩
  have s6 : Hid (Kn w6 [(w1.heap.size + 1, (bR (o2))), (w1.heap.size, (c4 (c))), (w.heap.size + 1, (bR (m))), (w.heap.size, (bR (n)))]) := s5.out.up hb6
  have b6 : Hid (Below w.heap.size w w6) := b5.out.trans (hb6.mono b5.out.size)
  have z6 := b6.out.size
  clear hb6 s5 b5
  have s7x : Hid (Kn (w6.alloc (.cells #[Value.int IntKind.u8 0, Value.int IntKind.u8 0, Value.int IntKind.u8 0, Value.int IntKind.u8 0, Value.int IntKind.u8 0, Value.int IntKind.u8 0, Value.int IntKind.u8 0, Value.int IntKind.u8 0, Value.int IntKind.u8 0, Value.int IntKind.u8 0, Value.int IntKind.u8 0, Value.int IntKind.u8 0, Value.int IntKind.u8 0, Value.int IntKind.u8 0, Value.int IntKind.u8 0, Value.int IntKind.u8 0, Value.int IntKind.u8 0, Value.int IntKind.u8 0, Value.int IntKind.u8 0, Value.int IntKind.u8 0, Value.int IntKind.u8 0, Value.int IntKind.u8 0, Value.int IntKind.u8 0, Value.int IntKind.u8 0, Value.int IntKind.u8 0, Value.int IntKind.u8 0, Value.int IntKind.u8 0, Value.int IntKind.u8 0, Value.int IntKind.u8 0, Value.int IntKind.u8 0, Value.int IntKind.u8 0, Value.int IntKind.u8 0] 22)) [(w6.heap.size, bZ), (w1.heap.size + 1, (bR (o2))), (w1.heap.size, (c4 (c))), (w.heap.size + 1, (bR (m))), (w.heap.size, (bR (n)))]) := s6.out.al bZ 22 rfl
  have b7x : Hid (Below w.heap.size w (w6.alloc (.cells #[Value.int IntKind.u8 0, Value.int IntKind.u8 0, Value.int IntKind.u8 0, Value.int IntKind.u8 0, Value.int IntKind.u8 0, Value.int IntKind.u8 0, Value.int IntKind.u8 0, Value.int IntKind.u8 0, Value.int IntKind.u8 0, Value.int IntKind.u8 0, Value.int IntKind.u8 0, Value.int IntKind.u8 0, Value.int IntKind.u8 0, Value.int IntKind.u8 0, Value.int IntKind.u8 0, Value.int IntKind.u8 0, Value.int IntKind.u8 0, Value.int IntKind.u8 0, Value.int IntKind.u8 0, Value.int IntKind.u8 0, Value.int IntKind.u8 0, Value.int IntKind.u8 0, Value.int IntKind.u8 0, Value.int IntKind.u8 0, Value.int IntKind.u8 0, Value.int IntKind.u8 0, Value.int IntKind.u8 0, Value.int IntKind.u8 0, Value.int IntKind.u8 0, Value.int IntKind.u8 0, Value.int IntKind.u8 0, Value.int IntKind.u8 0] 22))) := b6.out.alloc b6.out.size _
  have g7 : w.heap.size ≤ w6.heap.size := b6.out.size
  have TT7 : Hid ((w6.alloc (.cells #[Value.int IntKind.u8 0, Value.int IntKind.u8 0, Value.int IntKind.u8 0, Value.int IntKind.u8 0, Value.int IntKind.u8 0, Value.int IntKind.u8 0, Value.int IntKind.u8 0, Value.int IntKind.u8 0, Value.int IntKind.u8 0, Value.int IntKind.u8 0, Value.int IntKind.u8 0, Value.int IntKind.u8 0, Value.int IntKind.u8 0, Value.int IntKind.u8 0, Value.int IntKind.u8 0, Value.int IntKind.u8 0, Value.int IntKind.u8 0, Value.int IntKind.u8 0, Value.int IntKind.u8 0, Value.int IntKind.u8 0, Value.int IntKind.u8 0, Value.int IntKind.u8 0, Value.int IntKind.u8 0, Value.int IntKind.u8 0, Value.int IntKind.u8 0, Value.int IntKind.u8 0, Value.int IntKind.u8 0, Value.int IntKind.u8 0, Value.int IntKind.u8 0, Value.int IntKind.u8 0, Value.int IntKind.u8 0, Value.int IntKind.u8 0] 22)).there (w6.heap.size) 0 (bR (k)).length) := Kn.there s7x.out 0 rfl (by rw [(bR_length (k)), bZ_length])
  go_wp2_with (first | simp only [zero_b32] | refine I.wp_store_eq rfl 22 _ _ rfl (w6.heap.size) 0 (bR (k)) rfl rfl TT7.out (info_bR (k)) (bR_one (k)) ?_)
  intro w7 hw7
  try simp only [Act.put, List.setIfInBounds_toArray, List.set_cons_succ, List.set_cons_zero]
  have s7 : Hid (Kn w7 [(w6.heap.size, (bR (k))), (w1.heap.size + 1, (bR (o2))), (w1.heap.size, (c4 (c))), (w.heap.size + 1, (bR (m))), (w.heap.size, (bR (n)))]) := by rw [hw7.out]; exact Kn.put s7x.out (by rw [(bR_length (k)), bZ_length])
  have b7 : Hid (Below w.heap.size w w7) := by rw [hw7.out]; exact I.below_setCells _ _ _ b7x.out g7
  have z7 := b7.out.size
  clear hw7 s7x b7x TT7 s6 b6
  have cb8 : w7.cell? ⟨w.heap.size + 1, 31, none⟩ = some (.int .u8 (x3 : Int)) := by
    have := Kn.get s7.out 3 31 (v := .int .u8 ((m / 256 ^ 31 % 256 : Nat) : Int)) rfl (bR_get _ _ (by decide))
    rw [hx3.out]
    exact this
  have zb8 := Kn.fz s7.out 3 rfl
  have s8 : Hid (Kn (w7.setCell ⟨w.heap.size + 1, 31, none⟩ (.int .u8 (y3 : Int))) [(w.heap.size + 1, (bR (m2))), (w6.heap.size, (bR (k))), (w1.heap.size + 1, (bR (o2))), (w1.heap.size, (c4 (c))), (w.heap.size, (bR (n)))]) := by
    have := Kn.set (L := [(w6.heap.size, (bR (k))), (w1.heap.size + 1, (bR (o2))), (w1.heap.size, (c4 (c))), (w.heap.size, (bR (n)))]) (s7.out.front 3 rfl) 31 (.int .u8 (y3 : Int)) (by rw [bR_length]; decide)
    rw [hy3.out, hr3.out] at this
    rw [hy3.out]
    exact this
  have b8 : Hid (Below w.heap.size w (w7.setCell ⟨w.heap.size + 1, 31, none⟩ (.int .u8 (y3 : Int)))) := b7.out.setCell (p := ⟨w.heap.size + 1, 31, none⟩) (by show w.heap.size ≤ w.heap.size + 1; omega) _
  clear s7 b7
  go_wp2_with (first | refine wp_ldW rfl 22 _ rfl (w1.heap.size + 1) 0 rfl (bR (o2)) _ (Kn.rng s8.out 2 rfl) Try.underlying22 rfl (info_bR (o2)) ?_ | refine wp_ldW rfl 22 _ rfl (w.heap.size + 1) 0 rfl (bR (m2)) _ (Kn.rng s8.out 0 rfl) Try.underlying22 rfl (info_bR (m2)) ?_)
  clear cb8 zb8
  refine (S2 _).mono ?_
  rintro e w9 ⟨rfl, hb9⟩
  have s9 : Hid (Kn w9 [(w.heap.size + 1, (bR (m2))), (w6.heap.size, (bR (k))), (w1.heap.size + 1, (bR (o2))), (w1.heap.size, (c4 (c))), (w.heap.size, (bR (n)))]) := s8.out.up hb9
  have b9 : Hid (Below w.heap.size w w9) := b8.out.trans (hb9.mono b8.out.size)
  have z9 := b9.out.size
  clear hb9 s8 b8
  have s10x : Hid (Kn (w9.alloc (.cells #[Value.int IntKind.u8 0, Value.int IntKind.u8 0, Value.int IntKind.u8 0, Value.int IntKind.u8 0, Value.int IntKind.u8 0, Value.int IntKind.u8 0, Value.int IntKind.u8 0, Value.int IntKind.u8 0, Value.int IntKind.u8 0, Value.int IntKind.u8 0, Value.int IntKind.u8 0, Value.int IntKind.u8 0, Value.int IntKind.u8 0, Value.int IntKind.u8 0, Value.int IntKind.u8 0, Value.int IntKind.u8 0, Value.int IntKind.u8 0, Value.int IntKind.u8 0, Value.int IntKind.u8 0, Value.int IntKind.u8 0, Value.int IntKind.u8 0, Value.int IntKind.u8 0, Value.int IntKind.u8 0, Value.int IntKind.u8 0, Value.int IntKind.u8 0, Value.int IntKind.u8 0, Value.int IntKind.u8 0, Value.int IntKind.u8 0, Value.int IntKind.u8 0, Value.int IntKind.u8 0, Value.int IntKind.u8 0, Value.int IntKind.u8 0] 22)) [(w9.heap.size, bZ), (w.heap.size + 1, (bR (m2))), (w6.heap.size, (bR (k))), (w1.heap.size + 1, (bR (o2))), (w1.heap.size, (c4 (c))), (w.heap.size, (bR (n)))]) := s9.out.al bZ 22 rfl
  have b10x : Hid (Below w.heap.size w (w9.alloc (.cells #[Value.int IntKind.u8 0, Value.int IntKind.u8 0, Value.int IntKind.u8 0, Value.int IntKind.u8 0, Value.int IntKind.u8 0, Value.int IntKind.u8 0, Value.int IntKind.u8 0, Value.int IntKind.u8 0, Value.int IntKind.u8 0, Value.int IntKind.u8 0, Value.int IntKind.u8 0, Value.int IntKind.u8 0, Value.int IntKind.u8 0, Value.int IntKind.u8 0, Value.int IntKind.u8 0, Value.int IntKind.u8 0, Value.int IntKind.u8 0, Value.int IntKind.u8 0, Value.int IntKind.u8 0, Value.int IntKind.u8 0, Value.int IntKind.u8 0, Value.int IntKind.u8 0, Value.int IntKind.u8 0, Value.int IntKind.u8 0, Value.int IntKind.u8 0, Value.int IntKind.u8 0, Value.int IntKind.u8 0, Value.int IntKind.u8 0, Value.int IntKind.u8 0, Value.int IntKind.u8 0, Value.int IntKind.u8 0, Value.int IntKind.u8 0] 22))) := b9.out.alloc b9.out.size _
  have g10 : w.heap.size ≤ w9.heap.size := b9.out.size
  have TT10 : Hid ((w9.alloc (.cells #[Value.int IntKind.u8 0, Value.int IntKind.u8 0, Value.int IntKind.u8 0, Value.int IntKind.u8 0, Value.int IntKind.u8 0, Value.int IntKind.u8 0, Value.int IntKind.u8 0, Value.int IntKind.u8 0, Value.int IntKind.u8 0, Value.int IntKind.u8 0, Value.int IntKind.u8 0, Value.int IntKind.u8 0, Value.int IntKind.u8 0, Value.int IntKind.u8 0, Value.int IntKind.u8 0, Value.int IntKind.u8 0, Value.int IntKind.u8 0, Value.int IntKind.u8 0, Value.int IntKind.u8 0, Value.int IntKind.u8 0, Value.int IntKind.u8 0, Value.int IntKind.u8 0, Value.int IntKind.u8 0, Value.int IntKind.u8 0, Value.int IntKind.u8 0, Value.int IntKind.u8 0, Value.int IntKind.u8 0, Value.int IntKind.u8 0, Value.int IntKind.u8 0, Value.int IntKind.u8 0, Value.int IntKind.u8 0, Value.int IntKind.u8 0] 22)).there (w9.heap.size) 0 (bR (k)).length) := Kn.there s10x.out 0 rfl (by rw [(bR_length (k)), bZ_length])
  go_wp2_with (first | simp only [zero_b32] | refine I.wp_store_eq rfl 22 _ _ rfl (w9.heap.size) 0 (bR (k)) rfl rfl TT10.out (info_bR (k)) (bR_one (k)) ?_)
  intro w10 hw10
  try simp only [Act.put, List.setIfInBounds_toArray, List.set_cons_succ, List.set_cons_zero]
  have s10 : Hid (Kn w10 [(w9.heap.size, (bR (k))), (w.heap.size + 1, (bR (m2))), (w6.heap.size, (bR (k))), (w1.heap.size + 1, (bR (o2))), (w1.heap.size, (c4 (c))), (w.heap.size, (bR (n)))]) := by rw [hw10.out]; exact Kn.put s10x.out (by rw [(bR_length (k)), bZ_length])
  have b10 : Hid (Below w.heap.size w w10) := by rw [hw10.out]; exact I.below_setCells _ _ _ b10x.out g10
  have z10 := b10.out.size
  clear hw10 s10x b10x TT10 s9 b9
  go_wp2_with fail
  refine wp_region_up (by kernel_rfl) (by kernel_rfl) (fun U hU f hf hcl => ?_)
  have uv_0 := fun nx => (Kn.get (s10.out.up (hf nx).out) 4 0 rfl rfl : (f nx).cell? ⟨w1.heap.size, 0, none⟩ = some (.int .u64 (c).a))
  have uv_1 := fun nx => (Kn.get (s10.out.up (hf nx).out) 4 1 rfl rfl : (f nx).cell? ⟨w1.heap.size, 1, none⟩ = some (.int .u64 (c).b))
  have uv_2 := fun nx => (Kn.get (s10.out.up (hf nx).out) 4 2 rfl rfl : (f nx).cell? ⟨w1.heap.size, 2, none⟩ = some (.int .u64 (c).c))
  have uv_3 := fun nx => (Kn.get (s10.out.up (hf nx).out) 4 3 rfl rfl : (f nx).cell? ⟨w1.heap.size, 3, none⟩ = some (.int .u64 (c).d))
  have ra_o_0 := fun nx => (Kn.rng (s10.out.up (hf nx).out) 3 rfl : (f nx).rangeAt (w1.heap.size + 1) 0 (bR (o2)))
  have ra_s_0 := fun nx => (Kn.rng (s10.out.up (hf nx).out) 5 rfl : (f nx).rangeAt (w.heap.size) 0 (bR (n)))
  have ra_x_0 := fun nx => (Kn.rng (s10.out.up (hf nx).out) 2 rfl : (f nx).rangeAt (w6.heap.size) 0 (bR (k)))
  have ra_y_0 := fun nx => (Kn.rng (s10.out.up (hf nx).out) 0 rfl : (f nx).rangeAt (w9.heap.size) 0 (bR (k)))
  try simp only [List.append_eq, List.cons_append, List.nil_append]
  repeat (first | (refine I.quiet_load rfl 22 _ rfl (w1.heap.size + 1) 0 rfl (bR (o2)) _ (fun W hW => by obtain ⟨nx, rfl⟩ := hW; exact ra_o_0 nx) Try.underlying22 rfl (info_bR (o2)) ?_; simp only [Act.put, List.setIfInBounds_toArray, List.set_cons_succ, List.set_cons_zero]) | (refine I.quiet_load rfl 22 _ rfl (w.heap.size) 0 rfl (bR (n)) _ (fun W hW => by obtain ⟨nx, rfl⟩ := hW; exact ra_s_0 nx) Try.underlying22 rfl (info_bR (n)) ?_; simp only [Act.put, List.setIfInBounds_toArray, List.set_cons_succ, List.set_cons_zero]) | (refine I.quiet_load rfl 22 _ rfl (w6.heap.size) 0 rfl (bR (k)) _ (fun W hW => by obtain ⟨nx, rfl⟩ := hW; exact ra_x_0 nx) Try.underlying22 rfl (info_bR (k)) ?_; simp only [Act.put, List.setIfInBounds_toArray, List.set_cons_succ, List.set_cons_zero]) | (refine I.quiet_load rfl 22 _ rfl (w9.heap.size) 0 rfl (bR (k)) _ (fun W hW => by obtain ⟨nx, rfl⟩ := hW; exact ra_y_0 nx) Try.underlying22 rfl (info_bR (k)) ?_; simp only [Act.put, List.setIfInBounds_toArray, List.set_cons_succ, List.set_cons_zero]) | go_big_quiet_step (first | (go_at_call 20; exact (LE _).mono fun e w'' ⟨he, hb⟩ => ⟨he, hcl.out _ _ hb⟩) | (go_at_call 16; exact (BY _).mono fun e w'' ⟨he, hb⟩ => ⟨he, hcl.out _ _ hb⟩) | (go_at_call_of 10 [Value.agg (bR (b)).toArray]; exact (C3 _).mono fun e w'' ⟨he, hb⟩ => ⟨he, hcl.out _ _ hb⟩) | (go_at_call_of 10 [Value.agg (bR (o2)).toArray]; exact (C2 _).mono fun e w'' ⟨he, hb⟩ => ⟨he, hcl.out _ _ hb⟩) | (go_at_call_of 12 [Value.agg (bR (o2)).toArray]; exact (P2 _).mono fun e w'' ⟨he, hb⟩ => ⟨he, hcl.out _ _ hb⟩) | (go_at_call_of 12 [Value.agg (bR (n)).toArray]; exact (P1 _).mono fun e w'' ⟨he, hb⟩ => ⟨he, hcl.out _ _ hb⟩)))
  refine wpQuiet_nil ?_
  intro nx
  have hb11 := (hf nx).out
  clear hf hcl uv_0 uv_1 uv_2 uv_3
  generalize f nx = w11 at hb11 ⊢
  have s11 : Hid (Kn w11 [(w9.heap.size, (bR (k))), (w.heap.size + 1, (bR (m2))), (w6.heap.size, (bR (k))), (w1.heap.size + 1, (bR (o2))), (w1.heap.size, (c4 (c))), (w.heap.size, (bR (n)))]) := s10.out.up hb11
  have b11 : Hid (Below w.heap.size w w11) := b10.out.trans (hb11.mono b10.out.size)
  have z11 := b11.out.size
  clear hb11 s10 b10
  go_wp2_with fail
  go_ret
  exact ⟨rfl, b11.out⟩
theorem nm_low {k : Nat} : (nm k).a = ((k % 18446744073709551616 : Nat) : Int) := by
  show ((k : Int) % 18446744073709551616) = _
  omega
theorem len_cl (n : Nat) : lenN (nm (Ag.cl n)).val.toNat = 255 := by
  have h1 := Nm.nat_cast (nm_ok (Ag.cl n))
  rw [nm_nat (Ag.cl_lt256 n)] at h1
  rw [← h1, Int.toNat_natCast]
  refine lenN_eq fun k => ⟨fun h => Nat.lt_of_lt_of_le (Ag.cl_lt n) (Nat.pow_le_pow_right (by decide) h), fun h => ?_⟩
  refine Nat.le_of_not_lt fun hk => ?_
  have := Nat.pow_le_pow_right (n := 2) (by decide) (show k ≤ 254 by omega)
  have := Ag.cl_ge n
  omega
theorem agreeClamp_of (n m : Nat) (hn : n < 2 ^ 256) (hm : m < 2 ^ 256) (w : World) :
    Calls Try.prog 7 #[bV n, bV m] w fun e w' => e = .returned (.bool true) ∧ Below w.heap.size w w' := by
  have l1 := t7_lt hn
  have l2 : t192 (t7 n) < 2 ^ 256 := t192_lt
  have l3 := turn_lt hm
  have C2 := clamp_fun _ l2
  rw [cl_turned] at C2
  have C3 := clamp_fun _ (Ag.cl_lt256 n)
  rw [Ag.cl_cl] at C3
  have P2 := public_fun _ l2
  rw [show Ag.pub (t192 (t7 n)) = Ag.pub n by unfold Ag.pub; rw [cl_turned]] at P2
  have S2 := shared_fun _ _ l2 l3
  rw [show Ag.sh (t192 (t7 n)) (Cv.turn m) = Ag.sh n m by unfold Ag.sh; rw [cl_turned, turn_low hm]] at S2
  have LE := len_fun (nm (Ag.cl n)) (nm_ok _)
  rw [len_cl] at LE
  have hc : (nm (Ag.cl n)).a % 8 = 0 := by
    have := Ag.cl_mod n
    rw [nm_low]
    omega
  exact agreeClamp_walk n m _ _ _ _ _ _ _ (nm (Ag.cl n)) _ _ _ _ _ _ hc (nm_ok (Ag.cl n)).a.1 rfl rfl (t7_row n) (t7_byte n) rfl rfl (t192_row (t7 n)) (t192_byte l1) rfl rfl (turn_row hm) (turn_byte hm)
    (fun w => by rw [eqN, Nm.beq_self]) (eqB_k (Ag.lt_256 (Ag.pub_lt n))) (eqB_k (Ag.lt_256 (Ag.sh_lt n m))) (clamp_fun n hn) C2 C3 (bytes_n _ (Ag.cl_lt256 n)) LE (shared_fun n m hn hm) S2 (public_fun n hn) P2 w
end Go.Proofs.Ytpnfopakkaoibaa
