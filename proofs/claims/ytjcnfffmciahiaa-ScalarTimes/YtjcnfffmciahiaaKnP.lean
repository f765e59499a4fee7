/- What is known of blocks that hold points; package curve's contracts, each as one premise; the verifier's small calls. -/
import Derived.Test.YtjcnfffmciahiaaEqP
import Derived.Test.YtjcnfffmciahiaaKn
import Derived.Test.YtjcnfffmciahiaaGrp12
import Derived.Test.YtjcnfffmciahiaaAl
import Derived.Test.YtjcnfffmciahiaaCOrd
namespace Go.Proofs.Ytjcnfffmciahiaa
open Go.RowKit
attribute [local go_sem] World.cell?_alloc_some cell_alloc2 cell_alloc3 cell_alloc4 frozen?_alloc_cells frozen_out
set_option linter.unusedSimpArgs false
abbrev kalP (w : World) (l h : Nm) : World := w.alloc (.cells #[.int .u64 l.a, .int .u64 l.b, .int .u64 l.c, .int .u64 l.d, .int .u64 h.a, .int .u64 h.b, .int .u64 h.c, .int .u64 h.d] 26)
abbrev kzP (w : World) : World := w.alloc (.cells #[.int .u64 0, .int .u64 0, .int .u64 0, .int .u64 0, .int .u64 0, .int .u64 0, .int .u64 0, .int .u64 0] 26)
/-- A point as Go has it. -/
abbrev pv (P : Cv.Pt) : Value := Wv (nm P.1) (nm P.2)
/-- curve.On. -/
def COnC : Prop := (∀ P : Cv.Pt, Cv.On P → ∀ w, Calls Try.prog 13 #[pv P] w fun e w' => e = .returned (.bool true) ∧ Below w.heap.size w w') ∧ (∀ x y : Nm, x.ok → y.ok → ¬ Cv.On (x.nat, y.nat) → ∀ w, Calls Try.prog 13 #[Wv x y] w fun e w' => e = .returned (.bool false) ∧ Below w.heap.size w w')
def CZeroC : Prop := ∀ w, Calls Try.prog 11 #[] w fun e w' => e = .returned (pv Cv.zero) ∧ Below w.heap.size w w'
def CBaseC : Prop := ∀ w, Calls Try.prog 8 #[] w fun e w' => e = .returned (pv Cv.base) ∧ Below w.heap.size w w'
def CAddC : Prop := ∀ P Q : Cv.Pt, Cv.On P → Cv.On Q → ∀ w, Calls Try.prog 40 #[pv P, pv Q] w fun e w' => e = .returned (.tuple #[pv (Cv.add P Q), .int .i64 0]) ∧ Below w.heap.size w w'
def CTimesC : Prop := ∀ (n : Nm) (P : Cv.Pt), n.ok → Cv.On P → ∀ w, Calls Try.prog 25 #[N n, pv P] w fun e w' => e = .returned (.tuple #[pv (Cv.times n.nat P), .int .i64 0]) ∧ Below w.heap.size w w'
end Go.Proofs.Ytjcnfffmciahiaa
