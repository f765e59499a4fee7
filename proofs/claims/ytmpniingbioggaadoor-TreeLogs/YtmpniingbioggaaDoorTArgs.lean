/- Arguments of the laws of trees: digests as lists of bytes; leaves that are short enough. -/
import Derived.Test.YtmpniingbioggaaDoorTRoot
namespace Go.Proofs.YtmpniingbioggaaDoor
open Go.RowKit
theorem vB_ints (xs : List Int) (h : ∀ z ∈ xs, 0 ≤ z ∧ z < 256) : vB (xs.map Int.toNat) = .agg (xs.map (Value.int .u8)).toArray := by
  have : (xs.map Int.toNat).map b8 = xs.map (Value.int .u8) := by
    rw [List.map_map]
    apply List.map_congr_left
    intro z hz
    have := h z hz
    show Value.int .u8 ((z.toNat : Nat) : Int) = _
    congr 1
    omega
  show Value.agg _ = _
  rw [this]
theorem lowL.of {ls : List (List Nat)} (h : ∀ p ∈ ls, (∀ y ∈ p, y < 256) ∧ p.length ≤ 140737488351232) : lowL ls := fun p hp => ⟨(h p hp).1, by have := (h p hp).2; omega⟩
theorem low_ints (xs : List Int) (h : ∀ z ∈ xs, 0 ≤ z ∧ z < 256) : ∀ y ∈ xs.map Int.toNat, y < 256 := fun y hy => by
  obtain ⟨z, hz, rfl⟩ := List.mem_map.1 hy
  have := h z hz
  omega
end Go.Proofs.YtmpniingbioggaaDoor
