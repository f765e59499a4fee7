/- What the laws lean on of package attr; sealringkeep.sameAttrs at lists that are one. -/
import Derived.Test.YtohliojdmmbcdabQAtO
import Derived.Test.YtohliojdmmbcdabQSame
import Derived.Test.YtohliojdmmbcdabQDerRead
namespace Go.Proofs.Ytohliojdmmbcdab
open Go.RowKit
attribute [local go_sem] World.cell?_alloc_some cell_alloc2 cell_alloc3 cell_alloc4 frozen?_alloc_cells frozen_out
attribute [local go_sem] YieldsP execOp
attribute [local simp] MP.eq_p
set_option linter.unusedSimpArgs false
def lowA (l : List Ar) : Prop := ∀ x ∈ l, x.ok
def itA (x : Ar) : It := ⟨x.k.toNat, x.v⟩
def arI (x : It) : Ar := ⟨(x.tag : Int), x.body⟩
def packA (l : List Ar) : List Nat := texts ((risA l).map itA)
def riseB (l : List Ar) : Bool := decide ((l.map Ar.k).Pairwise (· < ·))
def unL (l : List Ar) : Nat × List Ar := if fltA l = 0 then (if riseB l = true then (0, l) else (1, [])) else (fltA l, [])
def unpA (b : List Nat) : Nat × List Ar := if 65536 < b.length then (2, []) else match readS 200 b with
  | .inl n => (n, [])
  | .inr l => unL (l.map arI)
def AtCheckC : Prop := ∀ (v : Value) (l : List Ar) (w : World), lowA l → Ats w v l → Calls Try.prog 8 #[v] w fun e w' => e = .returned (.int .i64 ((fltA l : Nat) : Int)) ∧ Below w.heap.size w w'
def AtNormC : Prop := ∀ (v : Value) (l : List Ar) (w : World), lowA l → Ats w v l → Calls Try.prog 11 #[v] w fun e w' => (∃ u, e = .returned (.tuple #[u, .int .i64 ((fltA l : Nat) : Int)]) ∧ Ats w' u (if fltA l = 0 then risA l else [])) ∧ Below w.heap.size w w'
def AtPackC : Prop := ∀ (v : Value) (l : List Ar) (w : World), lowA l → Ats w v l → Calls Try.prog 5 #[v] w fun e w' => (∃ u, e = .returned (.tuple #[u, .int .i64 ((fltA l : Nat) : Int)]) ∧ By w' u (if fltA l = 0 then packA l else [])) ∧ Below w.heap.size w w'
def AtUnpC : Prop := ∀ (v : Value) (b : List Nat) (w : World), lowB b → By w v b → Calls Try.prog 4 #[v] w fun e w' => (∃ u, e = .returned (.tuple #[u, .int .i64 (((unpA b).1 : Nat) : Int)]) ∧ Ats w' u (unpA b).2) ∧ Below w.heap.size w w'
theorem fit_len {k : Int} {v : List Nat} (h : fitA k v = true) : v.length ≤ 64 := by
  unfold fitA at h
  split at h
  · have := of_decide_eq_true h
    omega
  · split at h
    · exact of_decide_eq_true h
    · split at h
      · omega
      · cases h
theorem readS_pos : ∀ (r : Nat) (b : List Nat), (∀ x ∈ b, x < 256) → readS r b ≠ .inl 0
  | r, [], _, h => by cases r <;> (rw [readS] at h; cases h)
  | 0, x :: b, _, h => by rw [readS] at h; cases h
  | r + 1, x :: b, low, h => by
    rw [readS] at h
    cases hf : firstS (x :: b) with
    | inl n =>
      rw [hf] at h
      obtain rfl : n = 0 := Sum.inl.inj h
      have := firstS_inl low hf
      omega
    | inr q =>
      obtain ⟨y, n⟩ := q
      rw [hf] at h
      simp only at h
      cases hr : readS r ((x :: b).drop n) with
      | inl m =>
        rw [hr] at h
        obtain rfl : m = 0 := Sum.inl.inj h
        exact readS_pos r _ (fun z hz => low z (List.mem_of_mem_drop hz)) hr
      | inr l => rw [hr] at h; cases h
/-- What is unpacked is packed to just that. -/
theorem pack_unp {b : List Nat} (low : lowB b) (h : (unpA b).1 = 0) : fltA (unpA b).2 = 0 ∧ packA (unpA b).2 = b ∧ lowA (unpA b).2 := by
  unfold unpA at *
  split at h
  · cases h
  · rw [if_neg ‹_›]
    cases hr : readS 200 b with
    | inl n =>
      rw [hr] at h
      have h : n = 0 := h
      subst h
      exact absurd hr (readS_pos 200 b low)
    | inr l =>
      rw [hr] at h
      simp only at h ⊢
      have h1 := readS_one 200 b l low hr
      unfold unL at *
      split at h
      · rw [if_pos ‹_›]
        split at h
        · rw [if_pos ‹_›]
          have hg := (fltA_zero _).1 ‹fltA (l.map arI) = 0›
          have hp : (l.map arI).Pairwise fun a b => a.k < b.k := by
            have := of_decide_eq_true (p := ((l.map arI).map Ar.k).Pairwise (· < ·)) ‹riseB (l.map arI) = true›
            rwa [List.pairwise_map] at this
          refine ⟨‹_›, ?_, fun x hx => ?_⟩
          · unfold packA
            rw [risA_rising hg.2 hp, List.map_map, show l.map (itA ∘ arI) = l from ?_]
            · exact h1.1
            · conv => rhs; rw [← List.map_id l]
              exact List.map_congr_left fun x _ => rfl
          · obtain ⟨y, hy, rfl⟩ := List.mem_map.1 hx
            have := h1.2.2 y hy
            refine ⟨?_, this.2.2⟩
            show -9223372036854775808 ≤ (y.tag : Int) ∧ (y.tag : Int) ≤ 9223372036854775807
            omega
        · cases h
      · exact absurd h ‹_›
end Go.Proofs.Ytohliojdmmbcdab
