/- What package scalar must keep: its calls' contracts, by numbers modulo the order. -/
import Derived.Test.YtjcnfffmciahiaaNmN
import Derived.Test.YtjcnfffmciahiaaOrdN
namespace Go.Proofs.Ytjcnfffmciahiaa
open Go.RowKit
set_option linter.unusedSimpArgs false
theorem ord_lt : Cv.ord < 2 ^ 256 := by decide
theorem ord_pos : 0 < Cv.ord := by decide
def SLC : Prop := ∀ w, Calls Try.prog 10 #[] w fun e w' => e = .returned (N (nm Cv.ord)) ∧ Below w.heap.size w w'
def SLowC : Prop := ∀ x : Nm, x.ok → ∀ w, Calls Try.prog 12 #[N x] w fun e w' => e = .returned (N (nm (x.nat % Cv.ord))) ∧ Below w.heap.size w w'
def SAddC : Prop := ∀ x y : Nm, x.ok → y.ok → ∀ w, Calls Try.prog 15 #[N x, N y] w fun e w' => e = .returned (N (nm ((x.nat + y.nat) % Cv.ord))) ∧ Below w.heap.size w w'
def SMulC : Prop := ∀ x y : Nm, x.ok → y.ok → ∀ w, Calls Try.prog 16 #[N x, N y] w fun e w' => e = .returned (N (nm (x.nat * y.nat % Cv.ord))) ∧ Below w.heap.size w w'
def SNegC : Prop := ∀ x : Nm, x.ok → ∀ w, Calls Try.prog 17 #[N x] w fun e w' => e = .returned (N (nm ((Cv.ord - x.nat % Cv.ord) % Cv.ord))) ∧ Below w.heap.size w w'
theorem s_nat (n : Nat) : (nm (n % Cv.ord)).nat = n % Cv.ord := nm_nat (Nat.lt_trans (Nat.mod_lt _ ord_pos) ord_lt)
def SInvC : Prop := ∀ x : Nm, x.ok → ∀ w, Calls Try.prog 18 #[N x] w fun e w' => e = .returned (N (nm (x.nat ^ (Cv.ord - 2) % Cv.ord))) ∧ Below w.heap.size w w'
end Go.Proofs.Ytjcnfffmciahiaa
