/- Small operations among those of a drawn region, their operands told by their values: the frame is not looked at. -/
import Derived.Test.YtohliojdmmbcdabQYc
import Derived.Deep.MidRow
namespace Go.Proofs.Ytohliojdmmbcdab
open Go.RowKit
set_option linter.unusedSimpArgs false
theorem yields_run {o : Oper} {a : Act} {w : World} {v : Value} (e : (execOp a.eval o).run Try.prog w = .ok (.value v) w) : YieldsP Try.prog o a w (MP.eq v).p := by
  unfold YieldsP
  rw [e]
  exact ⟨rfl, Below.refl _ _⟩
theorem yields_ldR {o : Oper} {a : Act} {w : World} (ty : TypeId) (x : Operand) (ho : o.op = .load ty x) (b f : Nat) (hx : a.eval x = .pointer (some ⟨b, f, none⟩)) (cs : List Value) (d : TypeDesc) (hc : w.rangeAt b f cs) (hu : Try.prog.underlying ty = some d) (hd : d.isRow = true) (hi : (Try.prog.info? ty).map (·.size) = some cs.length) : YieldsP Try.prog o a w (MP.eq (.agg cs.toArray)).p :=
  yields_run (by
    unfold execOp
    simp only [ho, hx, Instr.loadAt, Instr.sureAddr, Sem.run_bind, Sem.run_pure, Result.andThen_ok, run_loadVar_mid w b f ty cs d hc hu hd hi])
end Go.Proofs.Ytohliojdmmbcdab
