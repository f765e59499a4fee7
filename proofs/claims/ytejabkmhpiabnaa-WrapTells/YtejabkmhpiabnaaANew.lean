/- The contract of sealringref.NewCipher, whatever the key. -/
import Derived.Test.YtejabkmhpiabnaaANew4
import Derived.Test.YtejabkmhpiabnaaANew6
import Derived.Test.YtejabkmhpiabnaaANew8
import Derived.Test.YtejabkmhpiabnaaGrp8
namespace Go.Proofs.Ytejabkmhpiabnaa
open Go.RowKit
set_option linter.unusedSimpArgs false
theorem rnew_fun (key : List Nat) (h : KeyB key) (w : World) : Calls Try.prog 8 #[.string (sOf key)] w fun e w' => (∃ kc, e = .returned (.tuple #[.pointer (some ⟨kc, 0, none⟩), .int .i64 0]) ∧ Cph w' kc (A.keyW key)) ∧ Below w.heap.size w w' := by
  rcases h.len with e | e | e
  · exact rnew4_fun key ⟨e, h.low⟩ w
  · exact rnew6_fun key ⟨e, h.low⟩ w
  · exact rnew8_fun key ⟨e, h.low⟩ w
set_option maxRecDepth 20000 in
set_option maxHeartbeats 400000 in
theorem rnew_bad (key : List Nat) (h : ¬ KeyN key.length) (w : World) : Calls Try.prog 8 #[.string (sOf key)] w fun e w' => e = .returned (.tuple #[.pointer none, .int .i64 1]) ∧ Below w.heap.size w w' := by
  have n1 : ¬ ((sOf key).size : Int) = 16 := fun e => h (.inl (by rw [sOf_size] at e; omega))
  have n2 : ¬ ((sOf key).size : Int) = 24 := fun e => h (.inr (.inl (by rw [sOf_size] at e; omega)))
  have n3 : ¬ ((sOf key).size : Int) = 32 := fun e => h (.inr (.inr (by rw [sOf_size] at e; omega)))
  generalize sOf key = T at *
  have m1 : ((T.size : Int) == 16) = false := by simpa using n1
  have m2 : ((T.size : Int) == 24) = false := by simpa using n2
  have m3 : ((T.size : Int) == 32) = false := by simpa using n3
  have b1 : ((T.size : Int) != 16) = true := by simp [bne, m1]
  have b2 : ((T.size : Int) != 24) = true := by simp [bne, m2]
  have b3 : ((T.size : Int) != 32) = true := by simp [bne, m3]
  go_enter Try.func8, Try.ntmps8
  go_wp2_with fail
  go_ret2
  exact ⟨rfl, Below.refl _ _⟩
end Go.Proofs.Ytejabkmhpiabnaa
