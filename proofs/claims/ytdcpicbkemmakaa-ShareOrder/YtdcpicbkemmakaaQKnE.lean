/- Two known blocks are not one; what stays where two blocks change. -/
import Derived.Test.YtdcpicbkemmakaaQStoreToKn
import Derived.Test.YtdcpicbkemmakaaQUpR
namespace Go.Proofs.Ytdcpicbkemmakaa
open Go.RowKit
set_option linter.unusedSimpArgs false
theorem Kn.ne {w : World} {L : List (Nat × List Value)} (h : Kn w L) (i j : Nat) {a b : Nat} {x y : List Value} (hi : L[i]? = some (a, x)) (hj : L[j]? = some (b, y)) (hij : i ≠ j) : a ≠ b := fun e => by
  subst e
  have h1 : (L.map Prod.fst)[i]? = some a := by rw [List.getElem?_map, hi]; rfl
  have h2 : (L.map Prod.fst)[j]? = some a := by rw [List.getElem?_map, hj]; rfl
  exact hij ((List.getElem?_inj (List.getElem?_eq_some_iff.1 h1).1 h.nd).1 (h1.trans h2.symm))
theorem SameBut.rng {w W : World} {k1 k2 k : Nat} {vs : List Value} (h : SameBut w k1 k2 W) (hr : w.rangeAt k 0 vs) (h1 : k ≠ k1) (h2 : k ≠ k2) (hl : k < w.heap.size) : W.rangeAt k 0 vs := fun j v hv => by
  have e := h k hl h1 h2
  have := hr j v hv
  unfold World.cell? at this ⊢
  simp only [e]
  exact this
end Go.Proofs.Ytdcpicbkemmakaa
