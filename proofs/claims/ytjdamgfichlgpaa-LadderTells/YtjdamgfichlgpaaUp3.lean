/- A region that draws its order of evaluation: readings and calls, then operations that wait for all of these, by whatever chain. Over any program. -/
import Derived.Test.YtjdamgfichlgpaaUpA
namespace Go.Proofs.Ytjdamgfichlgpaa
open Go.RowKit
theorem wp_region_then3 {P : Program} {id : Nat} {Q : Exit → Act → World → Prop} {a : Act} {w : World} (m : Nat) {l : List Oper} (hm : P.follows .mixedOrders = true) (hB : Region.lexB .any (l.take m).toArray = true) (hS : allocB .any l.toArray m m = true) (hN : Region.noSelect l.toArray = true)
    (hmn : m ≤ l.length) (hQp : ∀ c a d v w, Q (.panic c) (a.put d v) w → Q (.panic c) a w)
    (h : ∃ aF, (∀ (U : Type) (_ : Nonempty U) (f : U → World), (∀ n, Hid (Below w.heap.size w (f n))) → Hid (∀ n w', Below (f n).heap.size (f n) w' → ∃ m, w' = f m) →
      wpQuiet P (l.take m).toArray (fun w' => ∃ n : U, w' = f n) (fun a' => a' = aF) (l.take m) a) ∧
    (∀ w', Hid (Below w.heap.size w w') → wpList P l.toArray Q (l.drop m) aF w')) :
    (Code.region id l.toArray true).wp P Q a w := by
  obtain ⟨aF, h1, h2⟩ := h
  refine wp_region_allocs m m (fun _ => .cells #[] 0) hm hB hS hN (Nat.le_refl _) hmn hQp (fun i o hi hi2 _ => absurd hi2 (by omega)) h1 (fun D w' hw' hn hr hc => ?_)
  have : D = [] := by
    cases D with
    | nil => rfl
    | cons p D => have := hr p (by simp); omega
  subst this
  exact h2 w' hw'.1
end Go.Proofs.Ytjdamgfichlgpaa
