/- Which numbers lie in which blocks, told as a list. -/
import Derived.Test.YtgdekdmdidahdaaStore
namespace Go.Proofs.Ytgdekdmdidahdaa
open Go.RowKit
/-- A number as an argument lies in a block of its own. -/
abbrev al4 (w : World) (x : Nm) : World := w.alloc (.cells #[.int .u64 x.a, .int .u64 x.b, .int .u64 x.c, .int .u64 x.d] 24)
/-- These numbers lie in these blocks. -/
def Has (w : World) (L : List (Nat × Nm)) : Prop := ∀ p ∈ L, Lies w p.1 p.2
theorem Has.at {w : World} {L : List (Nat × Nm)} {k : Nat} {x : Nm} (h : Has w L) (hm : (k, x) ∈ L) : Lies w k x := h _ hm
theorem Has.up {W w1 : World} {L : List (Nat × Nm)} (h : Has W L) (hb : Below W.heap.size W w1) : Has w1 L := fun p hp => (h p hp).up hb
theorem Has.nil (w : World) : Has w [] := fun _ hp => absurd hp List.not_mem_nil
theorem Has.new {W w1 : World} {L : List (Nat × Nm)} {k : Nat} {x : Nm} {t : TypeId} {a b c d : Value} (h : Has W L) (hb : Below W.heap.size W w1) (hk : W.heap.size ≤ k) (hc : w1.heap[k]? = some (.cells #[a, b, c, d] t)) : Has (st4 w1 k x) ((k, x) :: L) := by
  intro p hp
  rcases List.mem_cons.1 hp with rfl | hp
  · exact Lies.st4_self hc x
  · have := lt_of_cell (h p hp).a
    exact ((h p hp).up hb).st4_ne (by omega)
theorem Has.other {W w1 : World} {L : List (Nat × Nm)} {k : Nat} {l x : Nm} (h : Has W L) (hb : Below W.heap.size W w1) (hk : W.heap.size ≤ k) : Has (st8 w1 k l x) L := by
  intro p hp
  have := lt_of_cell (h p hp).a
  exact ((h p hp).up hb).st8_ne (by omega)
theorem Has.arg {w : World} {L : List (Nat × Nm)} {x : Nm} {k : Nat} (h : Has w L) (hk : k = w.heap.size) : Has (al4 w x) ((k, x) :: L) := by
  subst hk
  intro p hp
  rcases List.mem_cons.1 hp with rfl | hp
  · exact Lies.new w x _
  · exact (h p hp).alloc _
theorem Has.drop {w : World} {L K : List (Nat × Nm)} (h : Has w L) (hs : ∀ p ∈ K, p ∈ L) : Has w K := fun p hp => h p (hs p hp)
theorem size_al4 (w : World) (x : Nm) : (al4 w x).heap.size = w.heap.size + 1 := by simp
theorem below_al4 {B : Nat} {a w : World} {x : Nm} (h : Below B a w) (hk : B ≤ w.heap.size) : Below B a (al4 w x) := h.alloc hk _
end Go.Proofs.Ytgdekdmdidahdaa
