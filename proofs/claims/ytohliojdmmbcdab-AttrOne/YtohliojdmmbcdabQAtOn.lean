/- AttrOne, out of what package attr must keep. -/
import Derived.Test.YtohliojdmmbcdabQAtK
namespace Go.Proofs.Ytohliojdmmbcdab
open Go.RowKit
set_option linter.unusedSimpArgs false
theorem unp_err (b : List Nat) (h : (unpA b).1 ≠ 0) : (unpA b).2 = [] := by
  unfold unpA at *
  split
  · rfl
  · rw [if_neg ‹_›] at h
    cases hr : readS 200 b with
    | inl n => rfl
    | inr l =>
      rw [hr] at h
      simp only at h ⊢
      unfold unL at *
      split
      · rw [if_pos ‹_›] at h
        split
        · rw [if_pos ‹_›] at h
          exact absurd rfl h
        · rfl
      · rfl
set_option maxHeartbeats 1000000 in
theorem attrOne_of (PC : AtPackC) (UC : AtUnpC) (v : Value) (b : List Nat) (low : lowB b) (w : World) (h : By w v b) :
    Calls Try.prog 3 #[v] w fun e w' => e = .returned (.bool true) ∧ Below w.heap.size w w' := by
  have H : Hid (By w v b) := h
  have U1 := UC v b w low h
  clear h UC
  by_cases hf : (unpA b).1 = 0
  · obtain ⟨e1, e2, e3⟩ := pack_unp low hf
    rw [hf] at U1
    have P1 : ∀ u W, Ats W u (unpA b).2 → Calls Try.prog 5 #[u] W fun e w' => (∃ u, e = .returned (.tuple #[u, .int .i64 0]) ∧ By w' u b) ∧ Below W.heap.size W w' := fun u W h => by
      have := PC u _ W e3 h
      rw [e1, if_pos rfl, e2] at this
      exact this
    have EQ : ∀ u W, By W v b → By W u b → Calls Try.prog 6 #[v, u] W fun e w' => e = .returned (.bool true) ∧ Below W.heap.size W w' := fun u W h1 h2 => by
      have := equal_fun v u b b low low W h1 h2
      simpa using this
    generalize (unpA b).2 = l at *
    clear e1 e2 e3 hf PC low
    go_enter Try.func3, Try.ntmps3
    go_wp2_with fail
    refine U1.mono ?_
    rintro e w1 ⟨⟨u, rfl, hu⟩, hb⟩
    have b1 : Hid (Below w.heap.size w w1) := hb
    have H1 : Hid (By w1 v b) := H.out.up hb (Nat.le_refl _)
    have L1 : Hid (Ats w1 u l) := hu
    clear hb hu H U1
    go_wp2_with fail
    refine (P1 u w1 L1.out).mono ?_
    rintro e w2 ⟨⟨r, rfl, hr⟩, hb⟩
    have b2 : Hid (Below w.heap.size w w2) := b1.out.trans (hb.mono b1.out.size)
    have H2 : Hid (By w2 v b) := H1.out.up hb (Nat.le_refl _)
    have R2 : Hid (By w2 r b) := hr
    clear hb hr H1 b1 P1 L1
    go_wp2_with fail
    refine (EQ r w2 H2.out R2.out).mono ?_
    rintro e w3 ⟨rfl, hb⟩
    have b3 : Hid (Below w.heap.size w w3) := b2.out.trans (hb.mono b2.out.size)
    clear hb b2 H2 R2
    go_wp2_with fail
    go_ret
    exact ⟨rfl, b3.out⟩
  · rw [unp_err b hf] at U1
    generalize (unpA b).1 = f at *
    have f1 : ((f : Int) != 0) = true := bne_iff_ne.2 (by omega)
    clear hf PC low H
    go_enter Try.func3, Try.ntmps3
    go_wp2_with fail
    refine U1.mono ?_
    rintro e w1 ⟨⟨u, rfl, hu⟩, hb⟩
    have b1 : Hid (Below w.heap.size w w1) := hb
    obtain ⟨ua, uc, rfl⟩ := ats_parts hu
    clear hb hu U1
    go_wp2_with fail
    go_ret
    exact ⟨rfl, b1.out⟩
end Go.Proofs.Ytohliojdmmbcdab
