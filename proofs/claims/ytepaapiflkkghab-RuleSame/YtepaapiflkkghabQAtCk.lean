/- Package attr, as it landed: what a kind asks of a value. -/
import Derived.Test.YtepaapiflkkghabQAtL
import Derived.Test.YtepaapiflkkghabQUpToUpA
import Derived.BigQuiet
namespace Go.Proofs.Ytepaapiflkkghab
open Go.RowKit
attribute [local go_sem] World.cell?_alloc_some cell_alloc2 cell_alloc3 cell_alloc4 frozen?_alloc_cells frozen_out
set_option linter.unusedSimpArgs false
/-- A function that asks for one byte. -/
abbrev oneV (a b : Nat) : Value := .func (.func 46) #[] #[.pointer (some ⟨a, 0, none⟩), .pointer (some ⟨b, 0, none⟩)]
/-- A function that asks for so many bytes at most. -/
abbrev mostV (a : Nat) : Value := .func (.func 47) #[] #[.pointer (some ⟨a, 0, none⟩)]
theorem eql_fit0 (w : World) : (binOp .eql 56 .nilFunc .nilFunc).run Try.prog w = .ok (.bool true) w := by kernel_rfl
theorem eql_fit1 (p q : Nat) (w : World) : (binOp .eql 56 (oneV p q) .nilFunc).run Try.prog w = .ok (.bool false) w := by kernel_rfl
theorem eql_fit2 (p : Nat) (w : World) : (binOp .eql 56 (mostV p) .nilFunc).run Try.prog w = .ok (.bool false) w := by kernel_rfl
set_option maxHeartbeats 1000000 in
theorem oneByte_fun (lo hi : Nat) (w : World) : Calls Try.prog 35 #[.int .u8 (lo : Int), .int .u8 (hi : Int)] w fun e w' => e = .returned (oneV w.heap.size (w.heap.size + 1)) ∧ Kn w' [(w.heap.size + 1, [.int .u8 (hi : Int)]), (w.heap.size, [.int .u8 (lo : Int)])] ∧ Below w.heap.size w w' := by
  have s1 : Hid (Kn ((w.alloc (.cells #[.int .u8 (lo : Int)] 5)).alloc (.cells #[.int .u8 (hi : Int)] 5)) [(w.heap.size + 1, [.int .u8 (hi : Int)]), (w.heap.size, [.int .u8 (lo : Int)])]) := ((Kn.nil w).al [.int .u8 (lo : Int)] 5 rfl).al [.int .u8 (hi : Int)] 5 (by simp)
  have b1 : Hid (Below w.heap.size w ((w.alloc (.cells #[.int .u8 (lo : Int)] 5)).alloc (.cells #[.int .u8 (hi : Int)] 5))) := ((Below.refl _ _).alloc (Nat.le_refl _) _).alloc (by simp) _
  go_enter Try.func35, Try.ntmps35
  go_wp2_with fail
  go_ret
  exact ⟨rfl, s1.out, b1.out⟩
set_option maxHeartbeats 1000000 in
theorem atMost_fun (n : Nat) (w : World) : Calls Try.prog 36 #[.int .i64 (n : Int)] w fun e w' => e = .returned (mostV w.heap.size) ∧ Kn w' [(w.heap.size, [.int .i64 (n : Int)])] ∧ Below w.heap.size w w' := by
  have s1 : Hid (Kn (w.alloc (.cells #[.int .i64 (n : Int)] 3)) [(w.heap.size, [.int .i64 (n : Int)])]) := (Kn.nil w).al [.int .i64 (n : Int)] 3 rfl
  have b1 : Hid (Below w.heap.size w (w.alloc (.cells #[.int .i64 (n : Int)] 3))) := (Below.refl _ _).alloc (Nat.le_refl _) _
  go_enter Try.func36, Try.ntmps36
  go_wp2_with fail
  go_ret
  exact ⟨rfl, s1.out, b1.out⟩
set_option maxHeartbeats 1000000 in
theorem most_fun (n m c : Nat) (a : Option Addr) (p : Nat) (w : World) (hk : Hid (Kn w [(p, [.int .i64 (n : Int)])])) : Calls Try.prog 47 #[.slice a m c, .pointer (some ⟨p, 0, none⟩)] w fun e w' => e = .returned (.bool (decide (m ≤ n))) ∧ Below w.heap.size w w' := by
  have u0 := Kn.get hk.out 0 0 rfl rfl
  have e0 : decide ((m : Int) ≤ (n : Int)) = decide (m ≤ n) := by simp
  go_enter Try.func47, Try.ntmps47
  go_wp2_with fail
  go_ret
  first | exact ⟨rfl, Below.refl _ _⟩ | (rw [e0]; exact ⟨rfl, Below.refl _ _⟩)
set_option maxHeartbeats 2000000 in
theorem one_fun (lo hi : Nat) (xs : List Nat) (v : Value) (p q : Nat) (w : World) (hk : Hid (Kn w [(q, [.int .u8 (hi : Int)]), (p, [.int .u8 (lo : Int)])])) (hv : Hid (By w v xs)) : Calls Try.prog 46 #[v, .pointer (some ⟨p, 0, none⟩), .pointer (some ⟨q, 0, none⟩)] w fun e w' => e = .returned (.bool (decide (xs.length = 1 ∧ lo ≤ xs.getD 0 0 ∧ xs.getD 0 0 ≤ hi))) ∧ Below w.heap.size w w' := by
  have u0 := Kn.get hk.out 0 0 rfl rfl
  have u1 := Kn.get hk.out 1 0 rfl rfl
  obtain ⟨a, c, rfl, -, -, h3⟩ := id hv.out
  by_cases h1 : xs.length = 1
  · obtain ⟨b, o, rfl, h4⟩ := h3 (by omega)
    have u2 : w.cell? ⟨b, o, none⟩ = some (.int .u8 ((xs.getD 0 0 : Nat) : Int)) := h4 0 (by omega)
    generalize xs.getD 0 0 = x at *
    rw [h1]
    clear h3 h4 hk hv
    by_cases g1 : lo ≤ x
    · have g1' : (lo : Int) ≤ (x : Int) := by omega
      by_cases g2 : x ≤ hi
      · have g2' : (x : Int) ≤ (hi : Int) := by omega
        have e1 : decide (1 = 1 ∧ lo ≤ x ∧ x ≤ hi) = true := decide_eq_true ⟨rfl, g1, g2⟩
        rw [e1]
        clear e1 g1 g2 h1
        go_enter Try.func46, Try.ntmps46
        go_wp2_with fail
        go_quiet (fail)
        go_wp2_with fail
        go_ret
        exact ⟨rfl, below_drewN (Below.refl _ _)⟩
      · have g2' : decide (x ≤ hi) = false := decide_eq_false (by omega)
        have e1 : decide (1 = 1 ∧ lo ≤ x ∧ x ≤ hi) = false := decide_eq_false fun h => g2 h.2.2
        rw [e1]
        clear e1 g1 g2 h1
        go_enter Try.func46, Try.ntmps46
        go_wp2_with fail
        go_quiet (fail)
        go_wp2_with fail
        go_ret
        exact ⟨rfl, below_drewN (Below.refl _ _)⟩
    · have g1' : decide (lo ≤ x) = false := decide_eq_false (by omega)
      have e1 : decide (1 = 1 ∧ lo ≤ x ∧ x ≤ hi) = false := decide_eq_false fun h => g1 h.2.1
      rw [e1]
      clear e1 g1 h1
      go_enter Try.func46, Try.ntmps46
      go_wp2_with fail
      go_quiet (fail)
      go_wp2_with fail
      go_ret
      exact ⟨rfl, below_drewN (Below.refl _ _)⟩
  · have n1 : ((xs.length : Int) == 1) = false := beq_eq_false_iff_ne.2 (by omega)
    have e1 : decide (xs.length = 1 ∧ lo ≤ xs.getD 0 0 ∧ xs.getD 0 0 ≤ hi) = false := decide_eq_false fun h => h1 h.1
    rw [e1]
    clear e1 h1 h3 hk hv
    go_enter Try.func46, Try.ntmps46
    go_wp2_with fail
    go_quiet (fail)
    go_wp2_with fail
    go_ret
    exact ⟨rfl, below_drewN (Below.refl _ _)⟩
/-- A function that tells whether a value is one of that kind's. -/
def FitV (w : World) (k : Int) (f : Value) : Prop :=
  (∃ p q lo hi : Nat, f = oneV p q ∧ Kn w [(q, [.int .u8 (hi : Int)]), (p, [.int .u8 (lo : Int)])] ∧ ∀ v, fitA k v = decide (v.length = 1 ∧ lo ≤ v.getD 0 0 ∧ v.getD 0 0 ≤ hi)) ∨
  (∃ p n : Nat, f = mostV p ∧ Kn w [(p, [.int .i64 (n : Int)])] ∧ ∀ v, fitA k v = decide (v.length ≤ n))
theorem fit_one {k : Int} (h : k = 1) (v : List Nat) : fitA k v = decide (v.length = 1 ∧ 1 ≤ v.getD 0 0 ∧ v.getD 0 0 ≤ 4) := by
  unfold fitA
  rw [if_neg (by omega), if_neg (by omega)]
  by_cases g : v.length = 1
  · rw [if_pos g, if_pos h]
    exact decide_eq_decide.2 ⟨fun h => ⟨g, h⟩, fun h => h.2⟩
  · rw [if_neg g]
    exact (decide_eq_false fun h => g h.1).symm
theorem fit_flag {k : Int} (h1 : ¬ k = 1) (h2 : ¬ (k = 2 ∨ k = 3)) (h4 : ¬ k = 4) (v : List Nat) : fitA k v = decide (v.length = 1 ∧ 0 ≤ v.getD 0 0 ∧ v.getD 0 0 ≤ 1) := by
  unfold fitA
  rw [if_neg h2, if_neg h4]
  by_cases g : v.length = 1
  · rw [if_pos g, if_neg h1]
    exact decide_eq_decide.2 ⟨fun h => ⟨g, Nat.zero_le _, h⟩, fun h => h.2.2⟩
  · rw [if_neg g]
    exact (decide_eq_false fun h => g h.1).symm
set_option maxHeartbeats 1000000 in
theorem asked_bad (k : Int) (h : k < 1 ∨ 18 < k) (w : World) : Calls Try.prog 26 #[.int .i64 k] w fun e w' => e = .returned .nilFunc ∧ Below w.heap.size w w' := by
  by_cases h1 : k < 1
  · clear h
    go_enter Try.func26, Try.ntmps26
    go_wp2_with fail
    go_ret
    exact ⟨rfl, Below.refl _ _⟩
  · have h2 : k > 18 := by omega
    clear h
    go_enter Try.func26, Try.ntmps26
    go_wp2_with fail
    go_ret
    exact ⟨rfl, Below.refl _ _⟩
set_option maxHeartbeats 2000000 in
theorem asked_fun (k : Int) (h1 : ¬ k < 1) (h2 : ¬ k > 18) (w : World) : Calls Try.prog 26 #[.int .i64 k] w fun e w' => (∃ f, e = .returned f ∧ FitV w' k f) ∧ Below w.heap.size w w' := by
  have O1 := fun lo hi => oneByte_fun lo hi w
  have M1 := fun n => atMost_fun n w
  by_cases k1 : k = 1
  · have q1 : (k == 1) = true := beq_iff_eq.2 k1
    have HF : Hid _ := fit_one k1
    have O2 := O1 1 4
    clear k1 O1 M1
    go_enter Try.func26, Try.ntmps26
    go_wp2_with fail
    refine O2.mono ?_
    rintro e w1 ⟨rfl, hk, hb⟩
    have HK : Hid _ := hk
    have HB : Hid _ := hb
    clear hk hb O2
    go_wp2_with fail
    go_ret
    exact ⟨⟨_, rfl, .inl ⟨_, _, _, _, rfl, HK.out, HF.out⟩⟩, HB.out⟩
  have q1 : (k == 1) = false := beq_eq_false_iff_ne.2 k1
  by_cases k2 : k = 2 ∨ k = 3
  · have q2 : (k == 2) = true ∨ ((k == 2) = false ∧ (k == 3) = true) := by
      rcases k2 with k | k
      · exact .inl (beq_iff_eq.2 k)
      · exact .inr ⟨beq_eq_false_iff_ne.2 (by omega), beq_iff_eq.2 k⟩
    have HF : Hid (∀ v : List Nat, fitA k v = decide (v.length ≤ 32)) := fun v => by unfold fitA; rw [if_pos k2]
    have M2 := M1 32
    clear k1 k2 O1 M1
    rcases q2 with q2 | ⟨q2, q3⟩
    · go_enter Try.func26, Try.ntmps26
      go_wp2_with fail
      refine M2.mono ?_
      rintro e w1 ⟨rfl, hk, hb⟩
      have HK : Hid _ := hk
      have HB : Hid _ := hb
      clear hk hb M2
      go_wp2_with fail
      go_ret
      exact ⟨⟨_, rfl, .inr ⟨_, _, rfl, HK.out, HF.out⟩⟩, HB.out⟩
    · go_enter Try.func26, Try.ntmps26
      go_wp2_with fail
      refine M2.mono ?_
      rintro e w1 ⟨rfl, hk, hb⟩
      have HK : Hid _ := hk
      have HB : Hid _ := hb
      clear hk hb M2
      go_wp2_with fail
      go_ret
      exact ⟨⟨_, rfl, .inr ⟨_, _, rfl, HK.out, HF.out⟩⟩, HB.out⟩
  have q2 : (k == 2) = false := beq_eq_false_iff_ne.2 (by omega)
  have q3 : (k == 3) = false := beq_eq_false_iff_ne.2 (by omega)
  by_cases k4 : k = 4
  · have q4 : (k == 4) = true := beq_iff_eq.2 k4
    have HF : Hid (∀ v : List Nat, fitA k v = decide (v.length ≤ 64)) := fun v => by unfold fitA; rw [if_neg k2, if_pos k4]
    have M2 := M1 64
    clear k1 k2 k4 O1 M1
    go_enter Try.func26, Try.ntmps26
    go_wp2_with fail
    refine M2.mono ?_
    rintro e w1 ⟨rfl, hk, hb⟩
    have HK : Hid _ := hk
    have HB : Hid _ := hb
    clear hk hb M2
    go_wp2_with fail
    go_ret
    exact ⟨⟨_, rfl, .inr ⟨_, _, rfl, HK.out, HF.out⟩⟩, HB.out⟩
  · have q4 : (k == 4) = false := beq_eq_false_iff_ne.2 k4
    have HF : Hid _ := fit_flag k1 k2 k4
    have O2 := O1 0 1
    clear k1 k2 k4 O1 M1
    go_enter Try.func26, Try.ntmps26
    go_wp2_with fail
    refine O2.mono ?_
    rintro e w1 ⟨rfl, hk, hb⟩
    have HK : Hid _ := hk
    have HB : Hid _ := hb
    clear hk hb O2
    go_wp2_with fail
    go_ret
    exact ⟨⟨_, rfl, .inl ⟨_, _, _, _, rfl, HK.out, HF.out⟩⟩, HB.out⟩
end Go.Proofs.Ytepaapiflkkghab
