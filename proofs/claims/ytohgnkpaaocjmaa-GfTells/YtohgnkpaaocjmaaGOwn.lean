/- Small closed facts that the rows of laws of bytes ask for; bytes and rows of bytes as whole numbers. -/
import Derived.Test.YtohgnkpaaocjmaaGfMixL
import Derived.Test.YtohgnkpaaocjmaaArr
namespace Go.Proofs.Ytohgnkpaaocjmaa
open Go.RowKit
theorem Try.own : ownKnob Try.prog.godebug = none := by kernel_rfl
theorem gcells_a4 : Try.prog.cellsOf 23 = 4 := by kernel_rfl
theorem nat_of {x : Int} (h : 0 ≤ x) : ∃ n : Nat, x = (n : Int) := Int.eq_ofNat_of_zero_le h
theorem nats_of : ∀ (xs : List Int), (∀ z ∈ xs, 0 ≤ z ∧ z < 256) → ∃ l : List Nat, xs.map (Value.int .u8) = l.map b8 ∧ l.length = xs.length ∧ ∀ x ∈ l, x < 256
  | [], _ => ⟨[], rfl, rfl, by simp⟩
  | z :: xs, h => by
    obtain ⟨l, e, hl, low⟩ := nats_of xs (fun y hy => h y (by simp [hy]))
    obtain ⟨h0, h1⟩ := h z (by simp)
    obtain ⟨n, rfl⟩ := nat_of h0
    refine ⟨n :: l, by simp [e], by simp [hl], ?_⟩
    intro x hx
    rcases List.mem_cons.1 hx with rfl | hx
    · omega
    · exact low x hx
end Go.Proofs.Ytohgnkpaaocjmaa
