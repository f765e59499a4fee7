/- As UpM, where some operations are not wanted (their guard does not hold): these leave undef. Over any program. -/
import Derived.Test.YtohliojdmmbcdabQUpM
namespace Go.Proofs.Ytohliojdmmbcdab
open Go.RowKit
section
variable {P : Program}
def StepAtG (P : Program) (l : List Oper) (Φ : List MP) (A : (Nat → Value) → Act) (a : Act) (w0 : World) (i : Nat) (o : Oper) : Prop :=
  ∀ vals w, Hid (Below w0.heap.size w0 w) → Hid (∀ j, waitsOn l j i = true → vals j = ownV l a j) → (∀ e ∈ o.after, Region.binds .any e = true → (Φ.getD e.on MP.any).p (vals e.on) w) → (Region.wanted o (yielded l.toArray (A vals).tmps) = true ∧ YieldsP P o (A vals) w (Φ.getD i MP.any).p) ∨ (Region.wanted o (yielded l.toArray (A vals).tmps) = false ∧ (Φ.getD i MP.any).p undef w)
def StepsAllG (P : Program) (l : List Oper) (Φ : List MP) (A : (Nat → Value) → Act) (a : Act) (w0 : World) : Nat → List Oper → Prop
  | _, [] => True
  | i, o :: r => StepAtG P l Φ A a w0 i o ∧ StepsAllG P l Φ A a w0 (i + 1) r
theorem StepsAllG.at {l : List Oper} {Φ : List MP} {A : (Nat → Value) → Act} {a : Act} {w0 : World} : ∀ (k : Nat) (r : List Oper), StepsAllG P l Φ A a w0 k r → ∀ i o, r[i]? = some o → StepAtG P l Φ A a w0 (k + i) o
  | _, [], _, _, _, h => by simp at h
  | k, o :: r, h, 0, o', ho => by simp at ho; subst ho; exact h.1
  | k, o :: r, h, i + 1, o', ho => by
    have := StepsAllG.at (k + 1) r h.2 i o' (by simpa using ho)
    rw [show k + 1 + i = k + (i + 1) by omega] at this
    exact this
end
end Go.Proofs.Ytohliojdmmbcdab
