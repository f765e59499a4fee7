/- Attributes: what a slice of them holds, out of its reading. -/
import Derived.Test.YtohliojdmmbcdabQBs
import Derived.Test.YtohliojdmmbcdabQHOpen
import Derived.Deep.SlicePairs
import Derived.Carry
namespace Go.Proofs.Ytohliojdmmbcdab
open Go.ChangeShapes Go.WideShapes Go.ChangeAt Go.RowKit Go.Deep
/-- An attribute. -/
structure Ar where
  k : Int
  v : List Nat
def ar0 : Ar := ⟨0, []⟩
def Ar.ok (x : Ar) : Prop := (-9223372036854775808 ≤ x.k ∧ x.k ≤ 9223372036854775807) ∧ lowB x.v
theorem Try.uAttrs : Try.prog.underlying 23 = some (.slice 37) := by kernel_rfl
/-- The slice v holds the attributes l. -/
def Ats (w : World) (v : Value) (l : List Ar) : Prop :=
  ∃ a c, v = .slice a l.length c ∧ l.length ≤ c ∧ (a = none → c = 0) ∧ (0 < l.length → ∃ b o, a = some ⟨b, o, none⟩ ∧ ∀ j x, l[j]? = some x → w.cell? ⟨b, o + j * 2, none⟩ = some (.int .i64 x.k) ∧ ∃ u, w.cell? ⟨b, o + j * 2 + 1, none⟩ = some u ∧ By w u x.v)
theorem Ats.nil (w : World) : Ats w (.slice none 0 0) [] := ⟨none, 0, rfl, Nat.le_refl _, fun _ => rfl, fun h => absurd h (Nat.lt_irrefl _)⟩
theorem Ats.up {W w1 : World} {v : Value} {l : List Ar} {B : Nat} (h : Ats W v l) (hb : Below B W w1) (hB : W.heap.size ≤ B) : Ats w1 v l := by
  obtain ⟨a, c, e, h1, h2, h3⟩ := h
  refine ⟨a, c, e, h1, h2, fun hp => ?_⟩
  obtain ⟨b, o, e2, hc⟩ := h3 hp
  refine ⟨b, o, e2, fun j x hx => ?_⟩
  obtain ⟨t1, u, t2, t3⟩ := hc j x hx
  exact ⟨(hb.cell (p := ⟨b, _, none⟩) (Nat.lt_of_lt_of_le (lt_of_cellB t1) hB)).trans t1, u, (hb.cell (p := ⟨b, _, none⟩) (Nat.lt_of_lt_of_le (lt_of_cellB t2) hB)).trans t2, t3.up hb hB⟩
theorem ats_parts {w : World} {v : Value} {l : List Ar} (h : Ats w v l) : ∃ a c, v = .slice a l.length c := by
  obtain ⟨a, c, e, -⟩ := h
  exact ⟨a, c, e⟩
/-- Its elements' cells, in every later world. -/
theorem Ats.rows {w : World} {a : Option Addr} {n c : Nat} {l : List Ar} (h : Ats w (.slice a n c) l) (hn : 0 < n) : ∃ b o, a = some ⟨b, o, none⟩ ∧ ∀ W, Below w.heap.size w W → ∀ i x, l[i]? = some x → W.cell? ⟨b, o + i * 2, none⟩ = some (.int .i64 x.k) ∧ ∃ u, W.cell? ⟨b, o + i * 2 + 1, none⟩ = some u ∧ By W u x.v := by
  obtain ⟨a', c', e, -, -, h2⟩ := id h
  cases e
  obtain ⟨b, o, rfl, -⟩ := h2 hn
  refine ⟨b, o, rfl, fun W hW => ?_⟩
  obtain ⟨a', c', e, -, -, h2⟩ := h.up hW (Nat.le_refl _)
  cases e
  obtain ⟨b', o', e, h3⟩ := h2 hn
  cases e
  exact h3
section
variable {H : Type} {enc : TypeId × Value → H} {w : World} {base : Nat} {spare : Nat → Bool} {held : Bool}
end
end Go.Proofs.Ytohliojdmmbcdab
