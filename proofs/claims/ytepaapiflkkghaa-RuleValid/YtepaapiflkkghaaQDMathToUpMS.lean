/- Texts that were joined: DMath, Dig, DigO, UpMS. -/
import Derived.Test.YtepaapiflkkghaaRows
import Derived.Test.YtepaapiflkkghaaQNumToKn
import Derived.WalkKit
import Derived.WalkSpells
import Derived.WalkLawsBesides
import Derived.LoopN
import Derived.OwnWalk
import Derived.Laws.AppendOwn
import Derived.Laws.OwnMore
import Derived.Below
import Derived.Test.YtepaapiflkkghaaQUpMToUpMG
/- Rows of digits of 16 bits, and the numbers that they are. -/
namespace Go.Proofs.Ytepaapiflkkghaa.P
/-- The number of a row of digits, the least first. -/
def dv : List Nat → Nat
  | [] => 0
  | x :: xs => x + 65536 * dv xs
/-- All are digits. -/
def Dg (xs : List Nat) : Prop := ∀ x ∈ xs, x < 65536
/-- A number's digits, none of them 0 at the end. -/
def dg (n : Nat) : List Nat := if n = 0 then [] else n % 65536 :: dg (n / 65536) termination_by n decreasing_by omega
theorem dg_zero : dg 0 = [] := by rw [dg]; simp
theorem dg_pos {n : Nat} (h : n ≠ 0) : dg n = n % 65536 :: dg (n / 65536) := by rw [dg, if_neg h]
theorem Dg.tail {x : Nat} {xs : List Nat} (h : Dg (x :: xs)) : Dg xs := fun y hy => h y (List.mem_cons_of_mem _ hy)
theorem Dg.head {x : Nat} {xs : List Nat} (h : Dg (x :: xs)) : x < 65536 := h x List.mem_cons_self
/-- What has no 0 at the end is its number's digits. -/
theorem eq_dg : ∀ xs, Dg xs → (xs = [] ∨ xs.getD (xs.length - 1) 0 ≠ 0) → xs = dg (dv xs)
  | [], _, _ => by rw [dv, dg_zero]
  | [x], h, hl => by
    have hx : x ≠ 0 := by simpa using hl
    have := h.head
    rw [dv, dv, Nat.mul_zero, Nat.add_zero, dg_pos hx, Nat.mod_eq_of_lt this, show x / 65536 = 0 by omega, dg_zero]
  | x :: y :: xs, h, hl => by
    have ih := eq_dg (y :: xs) h.tail (.inr (by simpa using hl))
    have hx := h.head
    have hp : dv (y :: xs) ≠ 0 := by
      intro e
      rw [e, dg_zero] at ih
      cases ih
    rw [dv, dg_pos (by omega), show (x + 65536 * dv (y :: xs)) % 65536 = x by omega, show (x + 65536 * dv (y :: xs)) / 65536 = dv (y :: xs) by omega, ← ih]
/-- What is struck at the end is nothing. -/
theorem dv_take {xs : List Nat} {k : Nat} (h : ∀ j, k ≤ j → xs.getD j 0 = 0) : dv (xs.take k) = dv xs := by
  induction xs generalizing k with
  | nil => simp
  | cons x xs ih =>
    cases k with
    | zero =>
      have e := ih (k := 0) (fun j _ => by have := h (j + 1) (by omega); simpa using this)
      have h0 := h 0 (by omega)
      simp at h0 e
      rw [h0]
      simp only [dv] at e ⊢
      simp [dv, ← e]
    | succ k =>
      rw [List.take_succ_cons, dv, dv, ih (fun j hj => by have := h (j + 1) (by omega); simpa using this)]
theorem Dg.take {xs : List Nat} (h : Dg xs) (k : Nat) : Dg (xs.take k) := fun x hx => h x (List.mem_of_mem_take hx)
theorem Dg.append {xs ys : List Nat} (h : Dg xs) (h' : Dg ys) : Dg (xs ++ ys) := fun x hx => (List.mem_append.1 hx).elim (h x) (h' x)
theorem Dg.one {x : Nat} (h : x < 65536) : Dg [x] := fun y hy => by rw [List.mem_singleton.1 hy]; exact h
theorem Dg.set {xs : List Nat} (h : Dg xs) {i v : Nat} (hv : v < 65536) : Dg (xs.set i v) := fun x hx => by
  rcases List.mem_or_eq_of_mem_set hx with h1 | h1
  · exact h x h1
  · rw [h1]; exact hv
end Go.Proofs.Ytepaapiflkkghaa.P

/- Slices of digits by the row of their elements; the contracts of sealringref.digit and trim. -/
namespace Go.Proofs.Ytepaapiflkkghaa
open Go.RowKit
/-- The slice v holds the numbers xs: they lie one behind the other in a block. -/
def Sl (w : World) (v : Value) (xs : List Nat) : Prop :=
  (v = .slice none 0 0 ∧ xs = []) ∨ ∃ b o c, v = .slice (some ⟨b, o, none⟩) xs.length c ∧ xs.length ≤ c ∧ ∀ j, j < xs.length → w.cell? ⟨b, o + j, none⟩ = some (.int .i64 ((xs.getD j 0 : Nat) : Int))
theorem Sl.up {W w1 : World} {v : Value} {xs : List Nat} (h : Sl W v xs) (hb : Below W.heap.size W w1) : Sl w1 v xs := by
  rcases h with h | ⟨b, o, c, e, hl, hc⟩
  · exact .inl h
  · exact .inr ⟨b, o, c, e, hl, fun j hj => (hb.cell (p := ⟨b, o + j, none⟩) (lt_of_cell (hc j hj))).trans (hc j hj)⟩
/-- How many are left when the noughts at the end are struck. -/
def Trims (xs : List Nat) (k : Nat) : Prop := k ≤ xs.length ∧ (∀ j, k ≤ j → xs.getD j 0 = 0) ∧ (k = 0 ∨ xs.getD (k - 1) 0 ≠ 0)
theorem Trims.eq {xs : List Nat} {k : Nat} (h : Trims xs k) (hd : P.Dg xs) : xs.take k = P.dg (P.dv xs) := by
  rw [← P.dv_take h.2.1]
  refine P.eq_dg _ (hd.take k) ?_
  rcases h.2.2 with e | e
  · exact .inl (by rw [e, List.take_zero])
  · by_cases hk : k = 0
    · exact .inl (by rw [hk, List.take_zero])
    · refine .inr ?_
      rw [List.length_take, Nat.min_eq_left h.1]
      rw [List.getD_eq_getElem?_getD, List.getElem?_take, if_pos (by omega), ← List.getD_eq_getElem?_getD]
      exact e
/-- The slice lies in a block from B on (or is nil). -/
def blkGe (B : Nat) : Value → Prop
  | .slice (some a) _ _ => B ≤ a.block
  | _ => True
theorem blkGe.mono {A B : Nat} {v : Value} (h : blkGe B v) (hab : A ≤ B) : blkGe A v := by
  cases v with
  | slice a _ _ =>
    cases a with
    | none => exact trivial
    | some a => exact Nat.le_trans hab h
  | _ => exact trivial
theorem Sl.set_ne {w : World} {v : Value} {xs : List Nat} {g j : Nat} {y : Value} (h : Sl w v xs) (hg : blkGe (g + 1) v) : Sl (w.setCell ⟨g, j, none⟩ y) v xs := by
  rcases h with h | ⟨b, o, c, rfl, hl, hc⟩
  · exact .inl h
  · have hb : g + 1 ≤ b := hg
    refine .inr ⟨b, o, c, rfl, hl, fun i hi => ?_⟩
    rw [cell_set_ne (by omega)]
    exact hc i hi
end Go.Proofs.Ytepaapiflkkghaa

/- Slices of digits that a call itself makes: owned rows, and what append does to one. -/
namespace Go.Proofs.Ytepaapiflkkghaa
open Go.RowKit
abbrev iv (x : Nat) : Value := .int .i64 ((x : Nat) : Int)
/-- The slice v is a row that the call made (its block from B on), and holds xs. -/
def Ow (w : World) (B : Nat) (v : Value) (xs : List Nat) : Prop := w.ownsRow B 3 1 v xs.length (xs.map iv)
theorem Ow.nil (w : World) (B : Nat) : Ow w B (.slice none 0 0) [] := World.ownsRow_nil _ _ _ _
theorem Ow.up {W w1 : World} {B : Nat} {v : Value} {xs : List Nat} (h : Ow W B v xs) (hb : Below W.heap.size W w1) : Ow w1 B v xs := by
  refine ⟨h.1, ?_⟩
  rcases h.2 with h' | ⟨g, cap, cur, e, hB, hg, rest⟩
  · exact .inl h'
  · exact .inr ⟨g, cap, cur, e, hB, (hb.block g (Array.getElem?_eq_some_iff.1 hg).1).trans hg, rest⟩
theorem Ow.ge {w : World} {B : Nat} {v : Value} {xs : List Nat} (h : Ow w B v xs) : blkGe B v := by
  rcases h.2 with ⟨e, _⟩ | ⟨g, cap, cur, e, hB, _⟩
  · rw [e]; exact trivial
  · rw [e]; exact hB
theorem Ow.size {w : World} {B g n c : Nat} {xs : List Nat} (h : Ow w B (.slice (some ⟨g, 0, none⟩) n c) xs) : g < w.heap.size := (h.lt g rfl).2
end Go.Proofs.Ytepaapiflkkghaa

/- The properties of slices of digits, for UpM's law. -/
namespace Go.Proofs.Ytepaapiflkkghaa
open Go.RowKit
end Go.Proofs.Ytepaapiflkkghaa
