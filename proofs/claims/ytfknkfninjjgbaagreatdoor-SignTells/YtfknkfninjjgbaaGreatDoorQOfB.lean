/- limb.Of and limb.Bytes of one number, told by that number. -/
import Derived.Test.YtfknkfninjjgbaaGreatDoorQOctToCrvB
import Derived.Test.YtfknkfninjjgbaaGreatDoorQShlToCvPk
namespace Go.Proofs.YtfknkfninjjgbaaGreatDoor
open Go.RowKit
set_option linter.unusedSimpArgs false
def octAt (xs : List Int) (j : Nat) : Oct := ⟨xs.getD (8 * j) 0, xs.getD (8 * j + 1) 0, xs.getD (8 * j + 2) 0, xs.getD (8 * j + 3) 0, xs.getD (8 * j + 4) 0, xs.getD (8 * j + 5) 0, xs.getD (8 * j + 6) 0, xs.getD (8 * j + 7) 0⟩
theorem acc_oct (xs : List Int) : acc xs 32 0 = (octAt xs 0).val ∧ acc xs 32 1 = (octAt xs 1).val ∧ acc xs 32 2 = (octAt xs 2).val ∧ acc xs 32 3 = (octAt xs 3).val := by
 refine ⟨?_, ?_, ?_, ?_⟩ <;> (simp [acc, octAt, Oct.val]; omega)
theorem octAt_bytes (x : Nm) : octAt (bytesOf x) 0 = Oct.of x.a ∧ octAt (bytesOf x) 1 = Oct.of x.b ∧ octAt (bytesOf x) 2 = Oct.of x.c ∧ octAt (bytesOf x) 3 = Oct.of x.d := by
 refine ⟨?_, ?_, ?_, ?_⟩ <;> simp [octAt, bytesOf, byteAt, Nm.get, Oct.of]
theorem ofB_bytes {x : Nm} (hx : x.ok) : (⟨acc (bytesOf x) 32 0, acc (bytesOf x) 32 1, acc (bytesOf x) 32 2, acc (bytesOf x) 32 3⟩ : Nm) = x := by
 obtain ⟨h0, h1, h2, h3⟩ := acc_oct (bytesOf x)
 obtain ⟨g0, g1, g2, g3⟩ := octAt_bytes x
 rw [h0, h1, h2, h3, g0, g1, g2, g3, Oct.of_val hx.a, Oct.of_val hx.b, Oct.of_val hx.c, Oct.of_val hx.d]
theorem bytes_ok {x : Nm} : ∀ b ∈ bytesOf x, 0 ≤ b ∧ b < 256 := by
 intro b hb
 obtain ⟨j, _, rfl⟩ := List.mem_map.1 hb
 unfold byteAt
 omega
theorem of_n (n : Nat) (hn : n < 2 ^ 256) (w : World) : Calls Tryz.prog 76 #[bV n] w fun e w' => e = .returned (N (nm n)) ∧ Below w.heap.size w w' := by
 have := of_fun (bytesOf (nm n)) (bytesOf_length _) bytes_ok w
 rw [ofB_bytes (nm_ok n), show Bs (bytesOf (nm n)) = bV n by show Value.agg _ = _; rw [bytes_nm _ (nm_ok _), nm_nat hn]] at this
 exact this
end Go.Proofs.YtfknkfninjjgbaaGreatDoor
