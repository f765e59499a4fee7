/- A variable that is made among the operations of a drawn region. -/
import Derived.Test.YtjcnfffmciahiaaRows
import Derived.Test.YtjcnfffmciahiaaKn
import Derived.Test.YtjcnfffmciahiaaUpM
namespace Go.Proofs.Ytjcnfffmciahiaa
open Go.RowKit
set_option linter.unusedSimpArgs false
/-- A block that has been made, from B on. -/
def MP.made (B : Nat) (vs : List Value) : MP := ⟨fun v w => ∃ g, v = .pointer (some ⟨g, 0, none⟩) ∧ B ≤ g ∧ KBlk w g vs, fun ⟨g, e, h, hb⟩ hk => ⟨g, e, h, hb.up hk⟩⟩
theorem KBlk.made (w : World) (vs : List Value) (t : TypeId) : KBlk (w.alloc (.cells vs.toArray t)) w.heap.size vs := KBlk.of (t := t) (by show (w.heap.push _)[w.heap.size]? = _; simp)
theorem yields_mk {o : Oper} {a : Act} {w : World} {B : Nat} {T : TypeId} {zs : List Value} (ho : o.op = .alloc T) (hz : ∀ w, (zeroValue T).run Try.prog w = .ok (.agg zs.toArray) w) (hB : B ≤ w.heap.size) : YieldsP Try.prog o a w (MP.made B zs).p := by
  have e : (execOp a.eval o).run Try.prog w = .ok (.value (.pointer (some ⟨w.heap.size, 0, none⟩))) (w.alloc (.cells zs.toArray T)) := by
    unfold execOp
    simp [ho, go_sem, hz]
  unfold YieldsP
  rw [e]
  exact ⟨⟨_, rfl, hB, KBlk.made w zs _⟩, (Below.refl _ _).alloc (Nat.le_refl _) _⟩
end Go.Proofs.Ytjcnfffmciahiaa
