/- The contracts of bytes.Equal, bytes.HasPrefix, and of sealringkeep.sameItems at items that are the same. -/
import Derived.Test.YtepaapiflkkghabQDerWToAtA
import Derived.Test.YtepaapiflkkghabQUpM
namespace Go.Proofs.Ytepaapiflkkghab
open Go.RowKit
attribute [local go_sem] YieldsP execOp
attribute [local simp] MP.eq_p
set_option linter.unusedSimpArgs false
set_option maxHeartbeats 1000000 in
theorem equal_fun (u v : Value) (xs ys : List Nat) (hx : ∀ x ∈ xs, x < 256) (hy : ∀ y ∈ ys, y < 256) (w : World) (hu : By w u xs) (hv : By w v ys) :
    Calls Try.prog 25 #[u, v] w fun e w' => e = .returned (.bool (decide (xs = ys))) ∧ Below w.heap.size w w' := by
  have HU : Hid (By w u xs) := hu
  have HV : Hid (By w v ys) := hv
  have HE : Hid _ := sOf_beq hx hy
  clear hu hv hx hy
  go_enter Try.func25, Try.ntmps25
  go_wp2_with (first | (refine wp_conv rfl (.tmp 5) rfl _ xs rfl HU.out ?_) | (refine wp_conv rfl (.tmp 7) rfl _ ys rfl HV.out ?_))
  rw [HE.out]
  go_ret
  exact ⟨rfl, Below.refl _ _⟩
theorem By.take {w : World} {a : Option Addr} {c : Nat} {xs : List Nat} {n : Nat} (h : By w (.slice a xs.length c) xs) (hn : n ≤ xs.length) : By w (.slice a n c) (xs.take n) := by
  obtain ⟨a', c', e, h1, h2, h3⟩ := h
  cases e
  have hl : (xs.take n).length = n := by rw [List.length_take]; omega
  refine ⟨a, c, by rw [hl], by omega, h2, fun hp => ?_⟩
  obtain ⟨b, o, e, hc⟩ := h3 (by omega)
  refine ⟨b, o, e, fun j hj => ?_⟩
  rw [hc j (by omega)]
  congr 2
  simp [List.getD_eq_getElem?_getD, List.getElem?_take, show j < n by omega]
end Go.Proofs.Ytepaapiflkkghab
