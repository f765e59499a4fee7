/- Texts that were joined: Arr, HOpen. -/
import Derived.ProofKit
import Derived.OpenShut
import Derived.Test.YtdcpicbkemmakabDoorQBKToHB
import Derived.Deep.SlicePairs
import Derived.Carry
/- An array of integers among the arguments: its value and its datum out of its reading, and its reading again in whatever world. Over any program. -/
namespace Go.Proofs.YtdcpicbkemmakabDoor
open Go.ChangeShapes Go.WideShapes Go.ChangeAt Go.RowKit
section
variable {P : Program} {H : Type} {enc : TypeId × Value → H} {w : World} {base : Nat} {spare : Nat → Bool} {held : Bool}

theorem take_one {α : Type} {l : List α} {i : Nat} {v : α} (h : (l.drop i).take 1 = [v]) : l[i]? = some v := by
  have := congrArg (fun m => m[0]?) h
  simpa using this

theorem trod_arr {t e : TypeId} {n fuel : Nat} {k : IntKind} {cs : List Value} {x : DataW H × List MemPlace} (ht : P.underlying t = some (.array n e)) (hu : P.underlying e = some (.int k)) (hce : P.cellsOf e = 1) (hct : P.cellsOf t = n)
    (h : DataW.trod enc P w base spare held fuel t cs = some x) :
    ∃ xs : List Int, xs.length = n ∧ cs = xs.map (Value.int k) ∧ x = (.agg (xs.map fun i => .lit (.int k i)), []) ∧ ∀ i ∈ xs, (Lit.int k i).wf = true := by
  obtain ⟨ys, m, _, hx, hl, hn, hall⟩ := DataW.trod_array ht h
  have each : ∀ i, ∃ z : Int, i < n → cs[i]? = some (.int k z) ∧ ys[i]? = some (.lit (.int k z), []) ∧ (Lit.int k z).wf = true := by
    intro i
    by_cases hi : i < n
    · have hy : ys[i]? = some ys[i] := by rw [List.getElem?_eq_getElem]
      have ht' := hall i hi
      rw [hce, Nat.mul_one, hy] at ht'
      obtain ⟨z, hc, he, hw⟩ := DataW.trod_int hu ht'
      exact ⟨z, fun _ => ⟨take_one hc, by rw [hy, he], hw⟩⟩
    · exact ⟨0, fun h => absurd h hi⟩
  obtain ⟨Z, hZ⟩ := Classical.skolem.1 each
  refine ⟨(List.range n).map Z, by simp, ?_, ?_, ?_⟩
  · apply List.ext_getElem?
    intro i
    by_cases hi : i < n
    · rw [(hZ i hi).1]; simp [hi]
    · rw [List.getElem?_eq_none (by omega), List.getElem?_eq_none (by simp; omega)]
  · have e1 : ys = ((List.range n).map fun i => (DataW.lit (Lit.int k (Z i)), ([] : List MemPlace))) := by
      apply List.ext_getElem?
      intro i
      by_cases hi : i < n
      · rw [(hZ i hi).2.1]; simp [hi]
      · rw [List.getElem?_eq_none (by omega), List.getElem?_eq_none (by simp; omega)]
    rw [hx, e1]
    simp [List.flatMap, Function.comp_def]
  · intro i hi
    simp at hi
    obtain ⟨j, hj, rfl⟩ := hi
    exact (hZ j hj).2.2

end

/-- What is read of a uint64. -/
theorem word_of_wf {x : Int} (h : (Lit.int .u64 x).wf = true) : 0 ≤ x ∧ x < 18446744073709551616 := by
  simp [Lit.wf, IntKind.min, IntKind.max, IntKind.signed, IntKind.bits] at h
  exact ⟨by omega, by omega⟩
theorem int_of_wf {x : Int} (h : (Lit.int .i64 x).wf = true) : -9223372036854775808 ≤ x ∧ x ≤ 9223372036854775807 := by
  simp [Lit.wf, IntKind.min, IntKind.max, IntKind.signed, IntKind.bits] at h
  exact ⟨by omega, by omega⟩
theorem list4 (l : List Int) (h : l.length = 4) : ∃ a b c d, l = [a, b, c, d] := by
  match l, h with
  | [a, b, c, d], _ => exact ⟨a, b, c, d, rfl⟩
end Go.Proofs.YtdcpicbkemmakabDoor

/- A slice of bytes among the arguments: what it holds, out of its reading; small closed facts that a row's proof asks for. -/
namespace Go.Proofs.YtdcpicbkemmakabDoor
open Go.ChangeShapes Go.WideShapes Go.ChangeAt Go.RowKit Go.Deep
theorem Tryd.own : ownKnob Tryd.prog.godebug = none := by kernel_rfl
section
variable {H : Type} {enc : TypeId × Value → H} {w : World} {base : Nat} {spare : Nat → Bool} {held : Bool}
end
theorem Tryd.laidOut : laidOutB Tryd.prog = true := by kernel_rfl
end Go.Proofs.YtdcpicbkemmakabDoor
