import Derived.Test.YtfanndkhajokcaaDoorRows
import Derived.Test.YtfanndkhajokcaaDoorNum
import Derived.WalkKit
import Derived.WalkSpells
import Derived.WalkLawsBesides
import Derived.LoopN
import Derived.Test.YtfanndkhajokcaaDoorDrawCB
import Derived.Test.YtfanndkhajokcaaDoorGrp37
import Derived.Test.YtfanndkhajokcaaDoorGrp38
import Derived.Test.YtfanndkhajokcaaDoorGrp39
import Derived.Test.YtfanndkhajokcaaDoorGrp30
/- The contract of limb.Cmp: which of two numbers of four words is greater. -/
namespace Go.Proofs.YtfanndkhajokcaaDoor
open Go.RowKit

/-- -1, 0 or 1. -/
def cmpV (x y : Nm) : Int := if x.val < y.val then -1 else if y.val < x.val then 1 else 0
theorem cmp_lt {x y : Nm} (hx : x.ok) (hy : y.ok) (h : x.d < y.d ∨ x.d = y.d ∧ (x.c < y.c ∨ x.c = y.c ∧ (x.b < y.b ∨ x.b = y.b ∧ x.a < y.a))) : cmpV x y = -1 := by
  obtain ⟨⟨_, _⟩, ⟨_, _⟩, ⟨_, _⟩, ⟨_, _⟩⟩ := hx
  obtain ⟨⟨_, _⟩, ⟨_, _⟩, ⟨_, _⟩, ⟨_, _⟩⟩ := hy
  unfold cmpV
  rw [if_pos]
  unfold Nm.val
  omega
theorem cmp_gt {x y : Nm} (hx : x.ok) (hy : y.ok) (h : y.d < x.d ∨ x.d = y.d ∧ (y.c < x.c ∨ x.c = y.c ∧ (y.b < x.b ∨ x.b = y.b ∧ y.a < x.a))) : cmpV x y = 1 := by
  obtain ⟨⟨_, _⟩, ⟨_, _⟩, ⟨_, _⟩, ⟨_, _⟩⟩ := hx
  obtain ⟨⟨_, _⟩, ⟨_, _⟩, ⟨_, _⟩, ⟨_, _⟩⟩ := hy
  unfold cmpV
  have hv : y.val < x.val := by unfold Nm.val; omega
  rw [if_neg (by omega), if_pos hv]
theorem cmp_eq {x y : Nm} (h : x.d = y.d ∧ x.c = y.c ∧ x.b = y.b ∧ x.a = y.a) : cmpV x y = 0 := by
  unfold cmpV
  have hv : x.val = y.val := by unfold Nm.val; omega
  rw [if_neg (by omega), if_neg (by omega)]
theorem ret_i {k : IntKind} {a b : Int} (h : a = b) : Ending.returned (.int k a) = .returned (.int k b) := by rw [h]

set_option maxHeartbeats 2000000 in
theorem cmp_fun (x y : Nm) (hx : x.ok) (hy : y.ok) (w : World) :
    Calls Tryd.prog 20 #[N x, N y] w fun e w' => e = .returned (.int .i64 (cmpV x y)) ∧ Below w.heap.size w w' := by
  go_enter Tryd.func20, Tryd.ntmps20
  go_wp2
  refine wp_loop_rounds 5 ?_
  rw [rounds_succ]
  go_wp2
  by_cases ld : x.d < y.d
  · go_region
    go_wp2
    go_ret
    refine ⟨ret_i (cmp_lt hx hy (by omega)).symm, ?_⟩
    repeat (first | exact Below.refl _ _ | refine Below.drew ?_ | refine Below.alloc ?_ (by simp <;> omega) _)
  go_region
  go_wp2
  by_cases gd : y.d < x.d
  · go_region
    go_wp2
    go_ret
    refine ⟨ret_i (cmp_gt hx hy (by omega)).symm, ?_⟩
    repeat (first | exact Below.refl _ _ | refine Below.drew ?_ | refine Below.alloc ?_ (by simp <;> omega) _)
  go_region
  go_wp2
  rw [rounds_succ]
  go_wp2
  by_cases lc : x.c < y.c
  · go_region
    go_wp2
    go_ret
    refine ⟨ret_i (cmp_lt hx hy (by omega)).symm, ?_⟩
    repeat (first | exact Below.refl _ _ | refine Below.drew ?_ | refine Below.alloc ?_ (by simp <;> omega) _)
  go_region
  go_wp2
  by_cases gc : y.c < x.c
  · go_region
    go_wp2
    go_ret
    refine ⟨ret_i (cmp_gt hx hy (by omega)).symm, ?_⟩
    repeat (first | exact Below.refl _ _ | refine Below.drew ?_ | refine Below.alloc ?_ (by simp <;> omega) _)
  go_region
  go_wp2
  rw [rounds_succ]
  go_wp2
  by_cases lb : x.b < y.b
  · go_region
    go_wp2
    go_ret
    refine ⟨ret_i (cmp_lt hx hy (by omega)).symm, ?_⟩
    repeat (first | exact Below.refl _ _ | refine Below.drew ?_ | refine Below.alloc ?_ (by simp <;> omega) _)
  go_region
  go_wp2
  by_cases gb : y.b < x.b
  · go_region
    go_wp2
    go_ret
    refine ⟨ret_i (cmp_gt hx hy (by omega)).symm, ?_⟩
    repeat (first | exact Below.refl _ _ | refine Below.drew ?_ | refine Below.alloc ?_ (by simp <;> omega) _)
  go_region
  go_wp2
  rw [rounds_succ]
  go_wp2
  by_cases la : x.a < y.a
  · go_region
    go_wp2
    go_ret
    refine ⟨ret_i (cmp_lt hx hy (by omega)).symm, ?_⟩
    repeat (first | exact Below.refl _ _ | refine Below.drew ?_ | refine Below.alloc ?_ (by simp <;> omega) _)
  go_region
  go_wp2
  by_cases ga : y.a < x.a
  · go_region
    go_wp2
    go_ret
    refine ⟨ret_i (cmp_gt hx hy (by omega)).symm, ?_⟩
    repeat (first | exact Below.refl _ _ | refine Below.drew ?_ | refine Below.alloc ?_ (by simp <;> omega) _)
  go_region
  go_wp2
  rw [rounds_succ]
  go_wp2
  go_ret
  refine ⟨ret_i (cmp_eq (by omega)).symm, ?_⟩
  repeat (first | exact Below.refl _ _ | refine Below.drew ?_ | refine Below.alloc ?_ (by simp <;> omega) _)
end Go.Proofs.YtfanndkhajokcaaDoor

/- Numbers out of bytes, cut to so many bits: what limb says of them, by numbers. -/
namespace Go.Proofs.YtfanndkhajokcaaDoor
open Go.RowKit
set_option linter.unusedSimpArgs false
theorem acc_sum (bs : List Nat) (hl : bs.length = 32) : ∀ k, k ≤ 32 → acc (bs.map Int.ofNat) k 0 + 18446744073709551616 * (acc (bs.map Int.ofNat) k 1 + 18446744073709551616 * (acc (bs.map Int.ofNat) k 2 + 18446744073709551616 * acc (bs.map Int.ofNat) k 3)) + ((256 ^ k * leN (bs.drop k) : Nat) : Int) = ((leN bs : Nat) : Int)
  | 0, _ => by simp [acc]
  | k + 1, hk => by
    have ih := acc_sum bs hl k (by omega)
    rw [← ih, leN_drop (show k < bs.length by omega)]
    have hg : (bs.map Int.ofNat).getD k 0 = ((bs.getD k 0 : Nat) : Int) := by
      rw [List.getD_eq_getElem?_getD, List.getD_eq_getElem?_getD, List.getElem?_map]
      cases bs[k]? <;> rfl
    simp only [acc, hg]
    generalize bs.getD k 0 = b
    generalize leN (bs.drop (k + 1)) = r
    have hp : (256 : Nat) ^ k = 2 ^ (k % 8 * 8) * 18446744073709551616 ^ (k / 8) := by
      rw [show (256 : Nat) = 2 ^ 8 from rfl, show (18446744073709551616 : Nat) = 2 ^ 64 from rfl, ← Nat.pow_mul, ← Nat.pow_mul, ← Nat.pow_add]
      congr 1
      omega
    have hq : ((2 ^ (k % 8 * 8) : Int)) = ((2 ^ (k % 8 * 8) : Nat) : Int) := by simp
    rw [hq, Nat.pow_succ]
    have e1 : ∀ q : Nat, ((q * (r * 256 + b) : Nat) : Int) = ((q * 256 * r : Nat) : Int) + (q : Int) * (b : Int) := fun q => by
      rw [show q * (r * 256 + b) = q * 256 * r + q * b by rw [Nat.mul_add, Nat.mul_comm r 256, Nat.mul_assoc], Int.natCast_add, Int.natCast_mul q b]
    rw [e1]
    generalize ((256 ^ k * 256 * r : Nat) : Int) = R
    have e2 : ∀ j u : Nat, ((u * 18446744073709551616 ^ j : Nat) : Int) * (b : Int) = ((18446744073709551616 ^ j : Nat) : Int) * ((b : Int) * (u : Int)) := fun j u => by
      rw [Int.natCast_mul, Int.mul_comm (u : Int), Int.mul_assoc, Int.mul_comm (u : Int)]
    rw [hp, e2]
    generalize (b : Int) * ((2 ^ (k % 8 * 8) : Nat) : Int) = z
    generalize acc (bs.map Int.ofNat) k 0 = A0
    generalize acc (bs.map Int.ofNat) k 1 = A1
    generalize acc (bs.map Int.ofNat) k 2 = A2
    generalize acc (bs.map Int.ofNat) k 3 = A3
    have hd : k / 8 = 0 ∨ k / 8 = 1 ∨ k / 8 = 2 ∨ k / 8 = 3 := by omega
    rcases hd with h | h | h | h <;> rw [h] <;> simp (config := { decide := true }) only [Nat.reducePow, ↓reduceIte] <;> omega
theorem of_num (bs : List Nat) (hl : bs.length = 32) (h : ∀ x ∈ bs, x < 256) (w : World) :
    Calls Tryd.prog 18 #[.agg (bs.map b8).toArray] w fun e w' => e = .returned (N (Nm.of ((leN bs : Nat) : Int))) ∧ Below w.heap.size w w' := by
  have hx : ∀ x ∈ bs.map Int.ofNat, 0 ≤ x ∧ x < 256 := by
    intro x hx
    obtain ⟨y, hy, rfl⟩ := List.mem_map.1 hx
    have := h y hy
    exact ⟨Int.natCast_nonneg y, by simpa using Int.ofNat_lt.2 this⟩
  have A := acc_inv _ hx 32
  have e : (⟨acc (bs.map Int.ofNat) 32 0, acc (bs.map Int.ofNat) 32 1, acc (bs.map Int.ofNat) 32 2, acc (bs.map Int.ofNat) 32 3⟩ : Nm) = Nm.of ((leN bs : Nat) : Int) := by
    refine Nm.eq_of ⟨⟨(A 0).1, (A 0).2.2.2 (by decide)⟩, ⟨(A 1).1, (A 1).2.2.2 (by decide)⟩, ⟨(A 2).1, (A 2).2.2.2 (by decide)⟩, ⟨(A 3).1, (A 3).2.2.2 (by decide)⟩⟩ ?_
    have := acc_sum bs hl 32 (by omega)
    rw [List.drop_of_length_le (by omega)] at this
    simpa [leN, Nm.val] using this
  have := of_fun (bs.map Int.ofNat) (by rw [List.length_map]; exact hl) hx w
  rw [e] at this
  have eB : Bs (bs.map Int.ofNat) = .agg (bs.map b8).toArray := by simp [Bs, b8, Function.comp_def]
  rw [eB] at this
  exact this
theorem M_nat : M = ((2 ^ 256 : Nat) : Int) := by decide
theorem of_nat_val {X : Nat} (h : X < 2 ^ 256) : (Nm.of ((X : Nat) : Int)).val = (X : Int) := Nm.of_val (Int.natCast_nonneg _) (by rw [M_nat]; exact Int.ofNat_lt.2 h)
theorem two_split {k : Nat} (hk : k ≤ 256) : 2 ^ 256 = 2 ^ k * 2 ^ (256 - k) := by
  rw [← Nat.pow_add]
  congr 1
  omega
theorem shift_up (X k : Nat) (hX : X < 2 ^ 256) (h0 : 0 < k) (hk : k ≤ 256) (w : World) :
    Calls Tryd.prog 19 #[N (Nm.of ((X : Nat) : Int)), .int .i64 (256 - (k : Int))] w fun e w' => e = .returned (N (Nm.of ((X % 2 ^ k * 2 ^ (256 - k) : Nat) : Int))) ∧ Below w.heap.size w w' := by
  have h := shift_pos (Nm.of ((X : Nat) : Int)) (Nm.of_ok _) (256 - k) (by omega) w
  rw [of_nat_val hX, M_nat, show (X : Int) * 2 ^ (256 - k) % ((2 ^ 256 : Nat) : Int) = ((X % 2 ^ k * 2 ^ (256 - k) : Nat) : Int) by
    rw [show (X : Int) * 2 ^ (256 - k) = ((X * 2 ^ (256 - k) : Nat) : Int) by simp, ← Int.natCast_emod, two_split hk, Nat.mul_mod_mul_right], show ((256 - k : Nat) : Int) = 256 - (k : Int) by omega] at h
  exact h
theorem shift_dn (X k : Nat) (h0 : 0 < k) (hk : k ≤ 256) (w : World) :
    Calls Tryd.prog 19 #[N (Nm.of ((X % 2 ^ k * 2 ^ (256 - k) : Nat) : Int)), .int .i64 ((k : Int) - 256)] w fun e w' => e = .returned (N (Nm.of ((X % 2 ^ k : Nat) : Int))) ∧ Below w.heap.size w w' := by
  have hm := Nat.mod_lt X (Nat.two_pow_pos k)
  have hlt : X % 2 ^ k * 2 ^ (256 - k) < 2 ^ 256 := by
    rw [two_split hk]
    exact Nat.mul_lt_mul_of_pos_right hm (Nat.two_pow_pos _)
  rcases Nat.lt_or_ge k 256 with h | h
  · have g := shift_neg (Nm.of ((X % 2 ^ k * 2 ^ (256 - k) : Nat) : Int)) (Nm.of_ok _) (256 - k) (by omega) (by omega) w
    rw [of_nat_val hlt, show ((X % 2 ^ k * 2 ^ (256 - k) : Nat) : Int) / 2 ^ (256 - k) = ((X % 2 ^ k : Nat) : Int) by
      rw [show (2 : Int) ^ (256 - k) = ((2 ^ (256 - k) : Nat) : Int) by simp, ← Int.natCast_ediv, Nat.mul_div_cancel _ (Nat.two_pow_pos _)], show -((256 - k : Nat) : Int) = (k : Int) - 256 by omega] at g
    exact g
  · obtain rfl : k = 256 := by omega
    have e1 : X % 2 ^ 256 * 2 ^ (256 - 256) = X % 2 ^ 256 := by simp
    rw [e1] at hlt ⊢
    have g := shift_pos (Nm.of ((X % 2 ^ 256 : Nat) : Int)) (Nm.of_ok _) 0 (by decide) w
    rw [of_nat_val hlt, M_nat, show ((X % 2 ^ 256 : Nat) : Int) * 2 ^ 0 % ((2 ^ 256 : Nat) : Int) = ((X % 2 ^ 256 : Nat) : Int) by
      rw [Int.pow_zero, Int.mul_one, ← Int.natCast_emod, Nat.mod_mod]] at g
    exact g
theorem cmp_num (X M' : Nat) (x : Nm) (hx : x.ok) (hM : x.nat = M') (hX : X < 2 ^ 256) (w : World) :
    Calls Tryd.prog 20 #[N (Nm.of ((X : Nat) : Int)), N x] w fun e w' => e = .returned (.int .i64 (cmpN X M')) ∧ Below w.heap.size w w' := by
  have h := cmp_fun (Nm.of ((X : Nat) : Int)) x (Nm.of_ok _) hx w
  have e : cmpV (Nm.of ((X : Nat) : Int)) x = cmpN X M' := by
    unfold cmpV cmpN
    rw [of_nat_val hX, ← Nm.nat_cast hx, hM]
    simp only [Int.ofNat_lt]
  rw [e] at h
  exact h
theorem sub_one (x : Nm) (hx : x.ok) (M' : Nat) (hM : x.nat = M') (h0 : 0 < M') (w : World) :
    Calls Tryd.prog 16 #[N x, N ⟨1, 0, 0, 0⟩] w fun e w' => (∃ c, e = .returned (.tuple #[N (Nm.of ((M' - 1 : Nat) : Int)), .int .u64 c])) ∧ Below w.heap.size w w' := by
  have h := sub_fun x ⟨1, 0, 0, 0⟩ hx (by constructor <;> simp [Word]) w
  have hlt := Nm.nat_lt hx
  rw [hM] at hlt
  have e : subS x ⟨1, 0, 0, 0⟩ = Nm.of ((M' - 1 : Nat) : Int) := by
    unfold subS
    rw [← Nm.nat_cast hx, hM, show (⟨1, 0, 0, 0⟩ : Nm).val = 1 from rfl, show (M' : Int) - 1 = ((M' - 1 : Nat) : Int) by omega, Int.emod_eq_of_lt (Int.natCast_nonneg _) (by rw [M_nat]; exact Int.ofNat_lt.2 (by omega))]
  rw [e] at h
  exact h.mono fun e w' ⟨he, hb⟩ => ⟨⟨_, he⟩, hb⟩
theorem len_bl {M' : Nat} (h0 : 0 < M') : BL M' (lenN (M' - 1)) := by
  refine ⟨?_, fun j hj => ?_⟩
  · have := (lenN_le (n := M' - 1) (k := lenN (M' - 1))).1 (Nat.le_refl _)
    omega
  · have h : ¬ (M' - 1 < 2 ^ j) := fun h => by
      have := lenN_le.2 h
      omega
    omega
theorem len_num (x : Nm) (hx : x.ok) (M' n : Nat) (hM : x.nat = M') (h0 : 0 < M') (hn : BL M' n) (w : World) :
    Calls Tryd.prog 17 #[N (Nm.of ((M' - 1 : Nat) : Int))] w fun e w' => e = .returned (.int .i64 (n : Int)) ∧ Below w.heap.size w w' := by
  have hlt := Nm.nat_lt hx
  rw [hM] at hlt
  have h := len_fun (Nm.of ((M' - 1 : Nat) : Int)) (Nm.of_ok _) w
  rw [of_nat_val (by omega), Int.toNat_natCast] at h
  have e : lenN (M' - 1) = n := hn.only (len_bl h0).2 (by have := (len_bl h0).1; omega)
  rw [e] at h
  exact h
/-- A number read in a walk, also behind a guard. -/
theorem wp_ldN {ops : Array Oper} {rest : List Oper} {o : Oper} {a : Act} {Q : Exit → Act → World → Prop} {w : World} (hgd : Region.wanted o (yielded ops a.tmps) = true) (x : Operand) (ho : o.op = .load 28 x) (k : Nat) (hx : a.eval x = .pointer (some ⟨k, 0, none⟩))
    (n : Nm) (hr : Blk w k (nC n)) (h : wpList Tryd.prog ops Q rest (a.put o.dst (N n)) w) : wpList Tryd.prog ops Q (o :: rest) a w := by
  refine wpList_wanted hgd fun K hK => ?_
  exact wp_load_mid 28 x ho k 0 hx _ _ hr.all u_num rfl (info_num.trans (congrArg some (by simp [nC]))) (hK _ _ h)
/-- Two numbers held against each other. -/
theorem wp_eqN {ops : Array Oper} {rest : List Oper} {o : Oper} {a : Act} {Q : Exit → Act → World → Prop} {w : World} (hgd : Region.wanted o (yielded ops a.tmps) = true) (x y : Operand) (u : TypeId)
    (ho : o.op = .binOp .eql 28 x y u) (n m : Nm) (hx : a.eval x = N n) (hy : a.eval y = N m) (b : Bool) (hb : Nm.beq n m = b) (h : wpList Tryd.prog ops Q rest (a.put o.dst (.bool b)) w) : wpList Tryd.prog ops Q (o :: rest) a w := by
  subst hb
  refine wpList_wanted hgd fun K hK => ?_
  have e := eqN n m w
  unfold Oper.wp
  simp [execOp, ho, hx, hy, e, eqGuard, Result.andThen]
  exact hK _ _ h
/-- A number stored in a walk. -/
theorem wp_stN {ops : Array Oper} {rest : List Oper} {o : Oper} {a : Act} {Q : Exit → Act → World → Prop} {w : World} (hgd : o.guard = none) (x y : Operand) (ho : o.op = .store 28 x y) (k : Nat) (hx : a.eval x = .pointer (some ⟨k, 0, none⟩))
    (n : Nm) (hy : a.eval y = N n) (ht : w.there k 0 4) (h : ∀ w2, Hid (w2 = w.setCells k 0 (nC n)) → wpList Tryd.prog ops Q rest (a.put o.dst undef) w2) : wpList Tryd.prog ops Q (o :: rest) a w :=
  wp_store_eq hgd 28 x y ho k 0 (nC n) hx hy ht info_num (one_nC n) h
/-- A number stored over another. -/
theorem Blk.num {w : World} {k : Nat} {m : Nm} (h : Blk w k (nC m)) (n : Nm) : Blk (w.setCells k 0 (nC n)) k (nC n) := by
  have h' : Blk w k ([] ++ (nC m ++ [])) := by simpa using h
  have := h'.store (o := 0) (b' := nC n) rfl rfl
  simpa using this
theorem Blk.fr {w a : World} {k g : Nat} {vs : List Value} (h : Blk w k vs) (hf : Fr w g a) (hk : k ≠ g) : Blk a k vs := by
  have e : a.heap[k]? = w.heap[k]? := hf.block k h.lt (by simpa using hk)
  refine ⟨Nat.lt_of_lt_of_le h.lt hf.size, fun j v hv => ?_, fun j => ?_⟩
  · rw [← h.cell j v hv]
    simp [World.cell?, e]
  · rw [← h.fz j]
    simp [World.frozen?, e]
/-- What Below answers, told by one number of tries. -/
theorem SrcB.told {Src : World → Nat → (Nat → Prop) → List Nat → Nat → Prop} (B : SrcB Src) {seed : List Nat} {F : Nat → Prop} {k p : Nat} (x : Nm) (hx : x.ok) (M n : Nat) (hM : x.nat = M) (h0 : 0 < M) (hn : BL M n) (w : World) (hs : Src w k F seed p) (hK : KTab w) (hk : 0 < k) :
    ∃ X ec TT, TT ≤ 100 ∧ ((ec = 0 ∧ ∃ t, TT = t + 1 ∧ X = Nm.of ((tryS seed p n t : Nat) : Int) ∧ tryS seed p n t < M ∧ ∀ j, j < t → ¬ tryS seed p n j < M) ∨ (ec = 6 ∧ X = ⟨0, 0, 0, 0⟩ ∧ TT = 100 ∧ ∀ j, j < 100 → ¬ tryS seed p n j < M)) ∧
      Calls Tryd.prog 9 #[ptr k, N x] w fun e w' => e = .returned (.tuple #[N X, .int .i64 ec]) ∧ Src w' k F seed ((p + 32 * TT) % 18446744073709551616) ∧ Fr w k w' := by
  have h := B.below x hx M n hM h0 hn w hs hK hk
  cases hb : belS seed p n M with
  | none =>
    rw [hb] at h
    refine ⟨⟨0, 0, 0, 0⟩, 6, 100, by omega, .inr ⟨rfl, rfl, rfl, fun j hj => ?_⟩, h⟩
    have := (List.find?_eq_none.1 hb) j (List.mem_range.2 hj)
    simpa using this
  | some t =>
    rw [hb] at h
    have g := hb
    rw [belS, List.find?_range_eq_some] at g
    obtain ⟨g1, g2, g3⟩ := g
    refine ⟨_, 0, t + 1, Nat.succ_le_of_lt (by simpa using g2), .inl ⟨rfl, t, rfl, rfl, by simpa using g1, fun j hj => by simpa using g3 j hj⟩, h⟩
end Go.Proofs.YtfanndkhajokcaaDoor
