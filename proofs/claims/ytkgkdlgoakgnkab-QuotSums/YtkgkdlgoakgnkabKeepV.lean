/- sealringkeep.plus, told by what numbers of eight words stand for. -/
import Derived.Test.YtkgkdlgoakgnkabMulV
import Derived.Test.YtkgkdlgoakgnkabPlus
namespace Go.Proofs.Ytkgkdlgoakgnkab
open Go.RowKit

/-- sealringkeep.plus, where the sum fits. -/
theorem plus_V (l h l' h' : Nm) (ol : l.ok) (oh : h.ok) (ol' : l'.ok) (oh' : h'.ok) (fit : V l h + V l' h' < 2 ^ 512) (w : World) :
    Calls Try.prog 6 #[Wv l h, Wv l' h'] w fun e w' => e = .returned (Wv (WL (V l h + V l' h')) (WH (V l h + V l' h'))) ∧ Below w.heap.size w w' := by
  have := plus_fun l h l' h' ol oh ol' oh' w
  have o1 : (addS l l').ok := Nm.of_ok _
  have o2 : (addS (addS h h') ⟨addC l l', 0, 0, 0⟩).ok := Nm.of_ok _
  have e : V (addS l l') (addS (addS h h') ⟨addC l l', 0, 0, 0⟩) = V l h + V l' h' := by
    have a0 := Nm.val_nonneg ol; have a1 := Nm.val_lt ol; have b0 := Nm.val_nonneg oh; have b1 := Nm.val_lt oh
    have c0 := Nm.val_nonneg ol'; have c1 := Nm.val_lt ol'; have d0 := Nm.val_nonneg oh'; have d1 := Nm.val_lt oh'
    have e1 := V_cast ol oh; have e2 := V_cast ol' oh'; have e3 := V_cast o1 o2
    have f1 : (addS l l').val = (l.val + l'.val) % M := Nm.of_val (Int.emod_nonneg _ (by decide)) (Int.emod_lt_of_pos _ M_pos)
    have f2 : (addS h h').val = (h.val + h'.val) % M := Nm.of_val (Int.emod_nonneg _ (by decide)) (Int.emod_lt_of_pos _ M_pos)
    have f3 : (⟨addC l l', 0, 0, 0⟩ : Nm).val = (l.val + l'.val) / M := by simp [Nm.val, addC]
    have f4 : (addS (addS h h') ⟨addC l l', 0, 0, 0⟩).val = ((h.val + h'.val) % M + (l.val + l'.val) / M) % M := by
      rw [← f2, ← f3]
      exact Nm.of_val (Int.emod_nonneg _ (by decide)) (Int.emod_lt_of_pos _ M_pos)
    rw [f1, f4] at e3
    rw [pow512] at fit
    unfold M at *
    omega
  obtain ⟨p, q⟩ := V_halves o1 o2
  rw [e] at p q
  rw [p, q] at this
  exact this
end Go.Proofs.Ytkgkdlgoakgnkab
