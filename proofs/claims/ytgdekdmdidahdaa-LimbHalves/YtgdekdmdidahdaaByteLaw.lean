/- LimbBytes returns true for every two numbers, thirty-two bytes, number of eight words and word: bytes, halves and a pick come back as they were. No condition. -/
import Derived.Test.YtgdekdmdidahdaaBytes
import Derived.Test.YtgdekdmdidahdaaOf
import Derived.Test.YtgdekdmdidahdaaPick
import Derived.Test.YtgdekdmdidahdaaHalf
import Derived.Test.YtgdekdmdidahdaaStore
import Derived.Test.YtgdekdmdidahdaaArr
import Derived.Test.YtgdekdmdidahdaaOwn
import Derived.Deep.RegionHeld
namespace Go.Proofs.Ytgdekdmdidahdaa
open Go.RowKit
open Go.ChangeShapes Go.WideShapes Go.ChangeAt
attribute [local go_sem] World.cell?_alloc_some

theorem list32 (l : List Int) (h : l.length = 32) : l = (List.range 32).map fun j => l.getD j 0 := by
  apply List.ext_getElem?
  intro j
  rcases Nat.lt_or_ge j 32 with hj | hj
  · simp [hj, List.getElem?_eq_getElem (by omega : j < l.length)]
  · rw [List.getElem?_eq_none (by omega), List.getElem?_eq_none (by simpa using hj)]
def octAt (xs : List Int) (j : Nat) : Oct := ⟨xs.getD (8 * j) 0, xs.getD (8 * j + 1) 0, xs.getD (8 * j + 2) 0, xs.getD (8 * j + 3) 0, xs.getD (8 * j + 4) 0, xs.getD (8 * j + 5) 0, xs.getD (8 * j + 6) 0, xs.getD (8 * j + 7) 0⟩
theorem acc_oct (xs : List Int) : acc xs 32 0 = (octAt xs 0).val ∧ acc xs 32 1 = (octAt xs 1).val ∧ acc xs 32 2 = (octAt xs 2).val ∧ acc xs 32 3 = (octAt xs 3).val := by
  refine ⟨?_, ?_, ?_, ?_⟩ <;> (simp [acc, octAt, Oct.val]; omega)
theorem octAt_ok {xs : List Int} (hx : ∀ x ∈ xs, 0 ≤ x ∧ x < 256) (j : Nat) : (octAt xs j).ok := by
  have h : ∀ k, 0 ≤ xs.getD k 0 ∧ xs.getD k 0 < 256 := fun k => by
    rcases Nat.lt_or_ge k xs.length with h | h
    · have e : xs.getD k 0 = xs[k] := by simp [h]
      rw [e]; exact hx _ (List.getElem_mem h)
    · have e : xs.getD k 0 = 0 := by simp [h]
      rw [e]; exact ⟨by decide, by decide⟩
  exact ⟨h _, h _, h _, h _, h _, h _, h _, h _⟩
theorem bytes_getD (x : Nm) (j : Nat) (h : j < 32) : (bytesOf x).getD j 0 = byteAt x j := by simp [bytesOf, h]
theorem octAt_bytes (x : Nm) : octAt (bytesOf x) 0 = Oct.of x.a ∧ octAt (bytesOf x) 1 = Oct.of x.b ∧ octAt (bytesOf x) 2 = Oct.of x.c ∧ octAt (bytesOf x) 3 = Oct.of x.d := by
  refine ⟨?_, ?_, ?_, ?_⟩ <;> simp [octAt, bytesOf, byteAt, Nm.get, Oct.of]
theorem of_bytes {x : Nm} (hx : x.ok) : (⟨acc (bytesOf x) 32 0, acc (bytesOf x) 32 1, acc (bytesOf x) 32 2, acc (bytesOf x) 32 3⟩ : Nm) = x := by
  obtain ⟨h0, h1, h2, h3⟩ := acc_oct (bytesOf x)
  obtain ⟨g0, g1, g2, g3⟩ := octAt_bytes x
  rw [h0, h1, h2, h3, g0, g1, g2, g3, Oct.of_val hx.a, Oct.of_val hx.b, Oct.of_val hx.c, Oct.of_val hx.d]
theorem bytes_ok {x : Nm} : ∀ b ∈ bytesOf x, 0 ≤ b ∧ b < 256 := by
  intro b hb
  obtain ⟨j, _, rfl⟩ := List.mem_map.1 hb
  unfold byteAt
  omega
theorem bytes_of {xs : List Int} (hl : xs.length = 32) (hx : ∀ x ∈ xs, 0 ≤ x ∧ x < 256) : bytesOf ⟨acc xs 32 0, acc xs 32 1, acc xs 32 2, acc xs 32 3⟩ = xs := by
  obtain ⟨h0, h1, h2, h3⟩ := acc_oct xs
  obtain ⟨g0, g1, g2, g3⟩ := octAt_bytes ⟨acc xs 32 0, acc xs 32 1, acc xs 32 2, acc xs 32 3⟩
  have e0 : octAt (bytesOf ⟨acc xs 32 0, acc xs 32 1, acc xs 32 2, acc xs 32 3⟩) 0 = octAt xs 0 := by rw [g0]; simp only [h0]; exact Oct.val_of (octAt_ok hx _)
  have e1 : octAt (bytesOf ⟨acc xs 32 0, acc xs 32 1, acc xs 32 2, acc xs 32 3⟩) 1 = octAt xs 1 := by rw [g1]; simp only [h1]; exact Oct.val_of (octAt_ok hx _)
  have e2 : octAt (bytesOf ⟨acc xs 32 0, acc xs 32 1, acc xs 32 2, acc xs 32 3⟩) 2 = octAt xs 2 := by rw [g2]; simp only [h2]; exact Oct.val_of (octAt_ok hx _)
  have e3 : octAt (bytesOf ⟨acc xs 32 0, acc xs 32 1, acc xs 32 2, acc xs 32 3⟩) 3 = octAt xs 3 := by rw [g3]; simp only [h3]; exact Oct.val_of (octAt_ok hx _)
  generalize hb : bytesOf ⟨acc xs 32 0, acc xs 32 1, acc xs 32 2, acc xs 32 3⟩ = ys at *
  have hly : ys.length = 32 := by rw [← hb]; exact bytesOf_length _
  unfold octAt at e0 e1 e2 e3
  rw [Oct.mk.injEq] at e0 e1 e2 e3
  have key : ∀ j, j < 32 → ys.getD j 0 = xs.getD j 0 := by
    intro j hj
    match j, hj with
    | 0, _ => exact e0.1
    | 1, _ => exact e0.2.1
    | 2, _ => exact e0.2.2.1
    | 3, _ => exact e0.2.2.2.1
    | 4, _ => exact e0.2.2.2.2.1
    | 5, _ => exact e0.2.2.2.2.2.1
    | 6, _ => exact e0.2.2.2.2.2.2.1
    | 7, _ => exact e0.2.2.2.2.2.2.2
    | 8, _ => exact e1.1
    | 9, _ => exact e1.2.1
    | 10, _ => exact e1.2.2.1
    | 11, _ => exact e1.2.2.2.1
    | 12, _ => exact e1.2.2.2.2.1
    | 13, _ => exact e1.2.2.2.2.2.1
    | 14, _ => exact e1.2.2.2.2.2.2.1
    | 15, _ => exact e1.2.2.2.2.2.2.2
    | 16, _ => exact e2.1
    | 17, _ => exact e2.2.1
    | 18, _ => exact e2.2.2.1
    | 19, _ => exact e2.2.2.2.1
    | 20, _ => exact e2.2.2.2.2.1
    | 21, _ => exact e2.2.2.2.2.2.1
    | 22, _ => exact e2.2.2.2.2.2.2.1
    | 23, _ => exact e2.2.2.2.2.2.2.2
    | 24, _ => exact e3.1
    | 25, _ => exact e3.2.1
    | 26, _ => exact e3.2.2.1
    | 27, _ => exact e3.2.2.2.1
    | 28, _ => exact e3.2.2.2.2.1
    | 29, _ => exact e3.2.2.2.2.2.1
    | 30, _ => exact e3.2.2.2.2.2.2.1
    | 31, _ => exact e3.2.2.2.2.2.2.2
    | n + 32, h => exact absurd h (by omega)
  rw [list32 xs hl, list32 ys hly]
  exact List.map_congr_left fun j hj => key j (List.mem_range.1 hj)

theorem pick_next {c : Int} (hc : Word c) : IntKind.u64.wrap (c + 1) % 2 = (c + 1) % 2 ∧ Word (IntKind.u64.wrap (c + 1)) := by
  rw [IntKind.wrap_u64]
  obtain ⟨_, _⟩ := hc
  exact ⟨by omega, by omega, by omega⟩
theorem eqN_self (x : Nm) (w : World) : (binOp .eql 24 (N x) (N x)).run Try.prog w = .ok (.bool true) w := by rw [eqN, Nm.beq_self]
theorem eqN_ne {x y : Nm} (h : x ≠ y) (w : World) : (binOp .eql 24 (N x) (N y)).run Try.prog w = .ok (.bool false) w := by rw [eqN, Nm.beq_ne h]
theorem eqW_self (l h : Nm) (w : World) : (binOp .eql 34 (Wv l h) (Wv l h)).run Try.prog w = .ok (.bool true) w := by
  rw [eqW, Nm.beq_self, Nm.beq_self]; rfl
theorem of_to {xs : List Int} {y : Nm} (hl : xs.length = 32) (hx : ∀ x ∈ xs, 0 ≤ x ∧ x < 256) (e : (⟨acc xs 32 0, acc xs 32 1, acc xs 32 2, acc xs 32 3⟩ : Nm) = y) (w : World) :
    Calls Try.prog 28 #[Bs xs] w fun e w' => e = .returned (N y) ∧ Below w.heap.size w w' := by
  rw [← e]; exact of_fun xs hl hx w
theorem bytes_to {y : Nm} {xs : List Int} (e : bytesOf y = xs) (w : World) :
    Calls Try.prog 27 #[N y] w fun e w' => e = .returned (Bs xs) ∧ Below w.heap.size w w' := by
  rw [← e]; exact bytes_fun y w
theorem pick_to {c : Int} {x y z : Nm} (hc : Word c) (hx : x.ok) (hy : y.ok) (e : pick c x y = z) (w : World) :
    Calls Try.prog 25 #[.int .u64 c, N x, N y] w fun e w' => e = .returned (N z) ∧ Below w.heap.size w w' := by
  rw [← e]; exact pick_fun c x y hc hx hy w

end Go.Proofs.Ytgdekdmdidahdaa
