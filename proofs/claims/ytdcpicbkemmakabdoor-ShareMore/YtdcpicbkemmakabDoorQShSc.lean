/- What package share must keep of Split; whether it is there. -/
import Derived.Test.YtdcpicbkemmakabDoorQShLToShPs
import Derived.Test.YtdcpicbkemmakabDoorQUpA
namespace Go.Proofs.YtdcpicbkemmakabDoor
open Go.RowKit
attribute [local go_sem] World.cell?_alloc_some cell_alloc2 cell_alloc3 cell_alloc4 frozen?_alloc_cells frozen_out
set_option linter.unusedSimpArgs false
/-- Rows of the same shares are the same. -/
theorem Shs.rows {w : World} {a : Option Addr} {n c : Nat} {l : List Shr} (h : Shs w (.slice a n c) l) (hn : 0 < n) : ∃ b o, a = some ⟨b, o, none⟩ ∧ ∀ W, Below w.heap.size w W → ∀ i s, l[i]? = some s → W.rangeAt b (o + i * 5) (shC s) := by
  obtain ⟨a', c', e, -, h2⟩ := id h
  cases e
  obtain ⟨b, o, rfl, -⟩ := h2 hn
  refine ⟨b, o, rfl, fun W hW => ?_⟩
  obtain ⟨a', c', e, -, h2⟩ := h.up hW
  cases e
  obtain ⟨b', o', e, h3⟩ := h2 hn
  cases e
  exact h3
/-- What package share must keep of Split. -/
def SplitC : Prop := ∀ (x : Nm), x.ok → ∀ (k n : Int), (-9223372036854775808 ≤ k ∧ k ≤ 9223372036854775807) → (-9223372036854775808 ≤ n ∧ n ≤ 9223372036854775807) → ∀ seed : List Nat, (∀ y ∈ seed, y < 256) → seed.length ≤ 500000000000000 → ∀ v w, By w v seed → KTab w → Calls Tryd.prog 7 #[N x, .int .i64 k, .int .i64 n, v] w fun e w' => (∃ v', e = .returned (.tuple #[v', .int .i64 ((splE x.nat k n seed : Nat) : Int)]) ∧ Shs w' v' (splL x.nat k n seed)) ∧ Below w.heap.size w w'
theorem splE_five : splE (⟨5, 0, 0, 0⟩ : Nm).nat 1 1 [] = 0 := by
  have e : (⟨5, 0, 0, 0⟩ : Nm).nat = 5 := by decide
  have h : ¬ Cv.ord ≤ 5 := by decide
  rw [e]
  unfold splE
  rw [if_neg (by omega)]
  rfl
theorem splL_len {S : Nat} {k n : Int} {seed : List Nat} (h : splE S k n seed = 0) : (splL S k n seed).length = n.toNat := by
  unfold splL
  rw [if_pos h, List.length_map, List.length_range]
theorem alive_walk (L : List Shr) (hl : L.length = 1) (w : World) (S2 : Hid (Calls Tryd.prog 7 #[N ⟨5, 0, 0, 0⟩, .int .i64 1, .int .i64 1, .slice none 0 0] w fun e w' => (∃ v', e = .returned (.tuple #[v', .int .i64 0]) ∧ Shs w' v' L) ∧ Below w.heap.size w w')) :
    Calls Tryd.prog 4 #[] w fun e w' => e = .returned (.bool true) ∧ Below w.heap.size w w' := by
  go_enter Tryd.func4, Tryd.ntmps4
  go_wp2_with fail
  refine (S2.out).mono ?_
  rintro e w1 ⟨⟨v1, rfl, h1⟩, hb1⟩
  obtain ⟨a1, c1, e1⟩ := shs_parts h1
  rw [hl] at e1
  have B1 : Hid (Below w.heap.size w w1) := hb1
  clear h1 hb1 S2
  subst e1
  go_wp2_with fail
  go_ret
  exact ⟨rfl, B1.out⟩
theorem shares_alive (SP : SplitC) (w : World) (hK : KTab w) : Calls Tryd.prog 4 #[] w fun e w' => e = .returned (.bool true) ∧ Below w.heap.size w w' := by
  have S1 := SP ⟨5, 0, 0, 0⟩ (by refine ⟨?_, ?_, ?_, ?_⟩ <;> exact ⟨by decide, by decide⟩) 1 1 (by decide) (by decide) [] (by simp) (by simp) (.slice none 0 0) w (By.nil w) hK
  rw [splE_five] at S1
  exact alive_walk _ (splL_len splE_five) w S1
end Go.Proofs.YtdcpicbkemmakabDoor
