/- What package field must keep: its calls' contracts, each as one premise. -/
import Derived.Test.YtmajielbbajdhaaNmN
import Derived.Test.YtmajielbbajdhaaFMath
import Derived.Test.YtmajielbbajdhaaKn
import Derived.Test.YtmajielbbajdhaaEq
namespace Go.Proofs.Ytmajielbbajdhaa
open Go.RowKit
set_option linter.unusedSimpArgs false
/-- field.P. -/
def FPC : Prop := ∀ w, Calls Try.prog 12 #[] w fun e w' => e = .returned (N (nm F.p)) ∧ Below w.heap.size w w'
def FLowC : Prop := ∀ x : Nm, x.ok → ∀ w, Calls Try.prog 15 #[N x] w fun e w' => e = .returned (N (nm (x.nat % F.p))) ∧ Below w.heap.size w w'
def FAddC : Prop := ∀ x y : Nm, x.ok → y.ok → ∀ w, Calls Try.prog 17 #[N x, N y] w fun e w' => e = .returned (N (nm (F.add x.nat y.nat))) ∧ Below w.heap.size w w'
def FSubC : Prop := ∀ x y : Nm, x.ok → y.ok → ∀ w, Calls Try.prog 19 #[N x, N y] w fun e w' => e = .returned (N (nm (F.sub x.nat y.nat))) ∧ Below w.heap.size w w'
def FMulC : Prop := ∀ x y : Nm, x.ok → y.ok → ∀ w, Calls Try.prog 21 #[N x, N y] w fun e w' => e = .returned (N (nm (F.mul x.nat y.nat))) ∧ Below w.heap.size w w'
def FInvC : Prop := ∀ x : Nm, x.ok → ∀ w, Calls Try.prog 23 #[N x] w fun e w' => e = .returned (N (nm (F.inv x.nat))) ∧ Below w.heap.size w w'
def FSqrtC : Prop := ∀ x : Nm, x.ok → ∀ w, Calls Try.prog 10 #[N x] w fun e w' => e = .returned (.tuple #[N (nm (F.root x.nat)), .bool (F.ok x.nat)]) ∧ Below w.heap.size w w'
theorem f_nat {n : Nat} (h : n < F.p) : (nm n).nat = n := nm_nat (Nat.lt_trans h F.p_lt)
theorem f_zero {n : Nat} (h : n < F.p) : nm n = ⟨0, 0, 0, 0⟩ ↔ n = 0 := by
  constructor
  · intro e
    have := f_nat h
    rw [e] at this
    exact this.symm
  · rintro rfl
    rfl
theorem f_inj {m n : Nat} (hm : m < F.p) (hn : n < F.p) : nm m = nm n ↔ m = n := by
  constructor
  · intro e
    have := f_nat hm
    rw [e, f_nat hn] at this
    exact this.symm
  · rintro rfl
    rfl
theorem fz_ok : (⟨0, 0, 0, 0⟩ : Nm).ok := by constructor <;> (constructor <;> decide)
theorem fo_ok : (⟨1, 0, 0, 0⟩ : Nm).ok := by constructor <;> (constructor <;> decide)
theorem fw_ok : (⟨2, 0, 0, 0⟩ : Nm).ok := by constructor <;> (constructor <;> decide)
set_option maxRecDepth 20000 in
set_option maxHeartbeats 1000000 in
theorem fields_fun (FA : FAddC) (w : World) : Calls Try.prog 26 #[] w fun e w' => e = .returned (.bool true) ∧ Below w.heap.size w w' := by
  have A := FA ⟨1, 0, 0, 0⟩ ⟨2, 0, 0, 0⟩ fo_ok fw_ok
  have e3 : nm (F.add (⟨1, 0, 0, 0⟩ : Nm).nat (⟨2, 0, 0, 0⟩ : Nm).nat) = ⟨3, 0, 0, 0⟩ := by kernel_rfl
  rw [e3] at A
  have e1 := eqN ⟨3, 0, 0, 0⟩ ⟨3, 0, 0, 0⟩
  rw [Nm.beq_self] at e1
  clear e3 FA
  go_enter Try.func26, Try.ntmps26
  go_wp2_with fail
  refine Calls.mono (A _) ?_
  rintro e w2 ⟨rfl, hb⟩
  go_wp2_with fail
  go_ret
  exact ⟨rfl, hb⟩
end Go.Proofs.Ytmajielbbajdhaa
