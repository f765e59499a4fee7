/- What package field must keep: its calls' contracts, each as one premise. -/
import Derived.Test.YtfknkfninjjgbaaDoorQMulWToAdN
import Derived.Test.YtfknkfninjjgbaaDoorQFMathToIB
import Derived.Test.YtfknkfninjjgbaaDoorQStoreToKn
import Derived.Test.YtfknkfninjjgbaaDoorQUpV3ToOfB
namespace Go.Proofs.YtfknkfninjjgbaaDoor
open Go.RowKit
set_option linter.unusedSimpArgs false
def FLowC : Prop := ∀ x : Nm, x.ok → ∀ w, Calls Tryd.prog 58 #[N x] w fun e w' => e = .returned (N (nm (x.nat % F.p))) ∧ Below w.heap.size w w'
def FAddC : Prop := ∀ x y : Nm, x.ok → y.ok → ∀ w, Calls Tryd.prog 65 #[N x, N y] w fun e w' => e = .returned (N (nm (F.add x.nat y.nat))) ∧ Below w.heap.size w w'
def FSubC : Prop := ∀ x y : Nm, x.ok → y.ok → ∀ w, Calls Tryd.prog 60 #[N x, N y] w fun e w' => e = .returned (N (nm (F.sub x.nat y.nat))) ∧ Below w.heap.size w w'
def FMulC : Prop := ∀ x y : Nm, x.ok → y.ok → ∀ w, Calls Tryd.prog 64 #[N x, N y] w fun e w' => e = .returned (N (nm (F.mul x.nat y.nat))) ∧ Below w.heap.size w w'
def FInvC : Prop := ∀ x : Nm, x.ok → ∀ w, Calls Tryd.prog 76 #[N x] w fun e w' => e = .returned (N (nm (F.inv x.nat))) ∧ Below w.heap.size w w'
def FSqrtC : Prop := ∀ x : Nm, x.ok → ∀ w, Calls Tryd.prog 75 #[N x] w fun e w' => e = .returned (.tuple #[N (nm (F.root x.nat)), .bool (F.ok x.nat)]) ∧ Below w.heap.size w w'
theorem f_nat {n : Nat} (h : n < F.p) : (nm n).nat = n := nm_nat (Nat.lt_trans h F.p_lt)
theorem f_inj {m n : Nat} (hm : m < F.p) (hn : n < F.p) : nm m = nm n ↔ m = n := by
  constructor
  · intro e
    have := f_nat hm
    rw [e, f_nat hn] at this
    exact this.symm
  · rintro rfl
    rfl
theorem fz_ok : (⟨0, 0, 0, 0⟩ : Nm).ok := by constructor <;> (constructor <;> decide)
end Go.Proofs.YtfknkfninjjgbaaDoor
