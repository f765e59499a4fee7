/- What package field must keep: its calls' contracts, each as one premise. -/
import Derived.Test.YtjdamgfichlgpaaGrp11
import Derived.Test.YtjdamgfichlgpaaGrp2
import Derived.Test.YtjdamgfichlgpaaGrp1
import Derived.Test.YtjdamgfichlgpaaGrp8
namespace Go.Proofs.Ytjdamgfichlgpaa
open Go.RowKit
set_option linter.unusedSimpArgs false
/-- field.P. -/
def FPC : Prop := ∀ w, Calls Try.prog 26 #[] w fun e w' => e = .returned (N (nm F.p)) ∧ Below w.heap.size w w'
def FLowC : Prop := ∀ x : Nm, x.ok → ∀ w, Calls Try.prog 25 #[N x] w fun e w' => e = .returned (N (nm (x.nat % F.p))) ∧ Below w.heap.size w w'
def FAddC : Prop := ∀ x y : Nm, x.ok → y.ok → ∀ w, Calls Try.prog 34 #[N x, N y] w fun e w' => e = .returned (N (nm (F.add x.nat y.nat))) ∧ Below w.heap.size w w'
def FSubC : Prop := ∀ x y : Nm, x.ok → y.ok → ∀ w, Calls Try.prog 27 #[N x, N y] w fun e w' => e = .returned (N (nm (F.sub x.nat y.nat))) ∧ Below w.heap.size w w'
def FMulC : Prop := ∀ x y : Nm, x.ok → y.ok → ∀ w, Calls Try.prog 33 #[N x, N y] w fun e w' => e = .returned (N (nm (F.mul x.nat y.nat))) ∧ Below w.heap.size w w'
def FInvC : Prop := ∀ x : Nm, x.ok → ∀ w, Calls Try.prog 35 #[N x] w fun e w' => e = .returned (N (nm (F.inv x.nat))) ∧ Below w.heap.size w w'
theorem f_nat {n : Nat} (h : n < F.p) : (nm n).nat = n := nm_nat (Nat.lt_trans h F.p_lt)
theorem f_zero {n : Nat} (h : n < F.p) : nm n = ⟨0, 0, 0, 0⟩ ↔ n = 0 := by
  constructor
  · intro e
    have := f_nat h
    rw [e] at this
    exact this.symm
  · rintro rfl
    rfl
theorem f_inj {m n : Nat} (hm : m < F.p) (hn : n < F.p) : nm m = nm n ↔ m = n := by
  constructor
  · intro e
    have := f_nat hm
    rw [e, f_nat hn] at this
    exact this.symm
  · rintro rfl
    rfl
theorem fz_ok : (⟨0, 0, 0, 0⟩ : Nm).ok := by constructor <;> (constructor <;> decide)
theorem fo_ok : (⟨1, 0, 0, 0⟩ : Nm).ok := by constructor <;> (constructor <;> decide)
theorem fw_ok : (⟨2, 0, 0, 0⟩ : Nm).ok := by constructor <;> (constructor <;> decide)
end Go.Proofs.Ytjdamgfichlgpaa
