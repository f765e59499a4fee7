/- Small closed facts that the rows of laws of blocks ask for. -/
import Derived.Test.YtmfbdacalenfdaaAesBackL
import Derived.Test.YtmfbdacalenfdaaHOpen
import Derived.Test.YtmfbdacalenfdaaArr
namespace Go.Proofs.Ytmfbdacalenfdaa
open Go.RowKit
open Go.ChangeShapes Go.WideShapes Go.ChangeAt
set_option linter.unusedSimpArgs false
theorem Try.bytesU8 : Try.prog.bytesOf 5 = 1 := by kernel_rfl
theorem len_of_trod {H : Type} {enc : TypeId × Value → H} {w : World} {base : Nat} {spare : Nat → Bool} {held : Bool} {fuel n c : Nat} {a : Option Addr} {x : DataW H × List MemPlace} (h : DataW.trod enc Try.prog w base spare held fuel 22 [.slice a n c] = some x) : (x.1 = .nil ∧ n = 0) ∨ ∃ es sp, x.1 = .slice es sp ∧ es.length = n := by
  rcases open_ints Try.uBytes Try.uU8 Try.cellsU8 h with ⟨hcs, hx⟩ | ⟨a', len, cap, zs, hcs, _, hl, hm, hz, hx, hcell, hwz⟩
  · left
    simp only [List.cons.injEq, Value.slice.injEq, and_true] at hcs
    exact ⟨by rw [hx], hcs.2.1⟩
  · right
    simp only [List.cons.injEq, Value.slice.injEq, and_true] at hcs
    obtain ⟨_, rfl, rfl⟩ := hcs
    refine ⟨_, _, by rw [hx], ?_⟩
    simp only [lits, List.length_map, List.length_take, hz]
    split <;> omega
theorem cells_a16 : Try.prog.cellsOf 23 = 16 := by kernel_rfl
theorem an_of {x : Int} (h : 0 ≤ x) : ∃ n : Nat, x = (n : Int) := Int.eq_ofNat_of_zero_le h
theorem ans_of : ∀ (xs : List Int), (∀ z ∈ xs, 0 ≤ z ∧ z < 256) → ∃ l : List Nat, xs.map (Value.int .u8) = l.map b8 ∧ l.length = xs.length ∧ ∀ x ∈ l, x < 256
  | [], _ => ⟨[], rfl, rfl, by simp⟩
  | z :: xs, h => by
    obtain ⟨l, e, hl, low⟩ := ans_of xs (fun y hy => h y (by simp [hy]))
    obtain ⟨h0, h1⟩ := h z (by simp)
    obtain ⟨n, rfl⟩ := an_of h0
    refine ⟨n :: l, by simp [e], by simp [hl], ?_⟩
    intro x hx
    rcases List.mem_cons.1 hx with rfl | hx
    · omega
    · exact low x hx
end Go.Proofs.Ytmfbdacalenfdaa
