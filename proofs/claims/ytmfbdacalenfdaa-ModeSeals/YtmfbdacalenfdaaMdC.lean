/- What package mode must keep, over what package aes keeps: its calls' contracts as one premise. -/
import Derived.Test.YtmfbdacalenfdaaGrp8
import Derived.Test.YtmfbdacalenfdaaGrp28
namespace Go.Proofs.Ytmfbdacalenfdaa
open Go.RowKit
set_option linter.unusedSimpArgs false
structure StreamC (Tb : World → Prop) (Ky : World → List Value → List Nat → Prop) : Prop where
  stream : ∀ (key : List Nat) (cs : List Value) (iv : List Nat) (pl : Nat) (p : List Nat) (v : Value), KeyB key → A.ok 16 iv → pl < 18446744073709551616 → (∀ x ∈ p, x < 256) → p.length ≤ 140737488351248 → ∀ w, Tb w → Ky w cs key → By w v p → Calls Try.prog 11 #[.agg cs.toArray, aB iv, .int .u64 (pl : Int), v] w fun e w' => ∃ u, e = .returned u ∧ By w' u (A.streamS (A.keyW key) iv pl p) ∧ Below w.heap.size w w'
structure ModeC (Tb : World → Prop) (Ky : World → List Value → List Nat → Prop) : Prop where
  seals : ∀ (key : List Nat) (cs : List Value) (iv : List Nat) (p : List Nat) (v : Value), KeyB key → A.ok 16 iv → (∀ x ∈ p, x < 256) → p.length ≤ 140737488351232 → ∀ w, Tb w → Ky w cs key → By w v p → Calls Try.prog 15 #[.agg cs.toArray, aB iv, v] w fun e w' => ∃ u, e = .returned u ∧ Ob w' w.heap.size u (A.sealS (A.keyW key) iv p) ∧ Below w.heap.size w w'
  opens : ∀ (key : List Nat) (cs : List Value) (iv : List Nat) (c : List Nat) (v : Value), KeyB key → A.ok 16 iv → (∀ x ∈ c, x < 256) → c.length ≤ 140737488351248 → c.length % 16 = 0 → 0 < c.length → ∀ w, Tb w → Ky w cs key → By w v c → Calls Try.prog 13 #[.agg cs.toArray, aB iv, v] w fun e w' => ∃ u, e = .returned (.tuple #[u, .int .i64 (match A.openS (A.keyW key) iv c with | some _ => 0 | none => 4)]) ∧ By w' u ((A.openS (A.keyW key) iv c).getD []) ∧ Below w.heap.size w w'
  opensBad : ∀ (key : List Nat) (cs : List Value) (iv : List Nat) (c : List Nat) (v : Value), KeyB key → A.ok 16 iv → (∀ x ∈ c, x < 256) → c.length ≤ 140737488351248 → (c = [] ∨ c.length % 16 ≠ 0) → ∀ w, Tb w → Ky w cs key → By w v c → Calls Try.prog 13 #[.agg cs.toArray, aB iv, v] w fun e w' => ∃ u, e = .returned (.tuple #[u, .int .i64 1]) ∧ By w' u [] ∧ Below w.heap.size w w'
def MP.byM (xs : List Nat) : MP := ⟨fun v w => By w v xs, fun h hb => h.up hb (Nat.le_refl _)⟩
/-- The key of a law, made and laid into its variable. -/
theorem sOf_same {xs : List Nat} (h : ∀ x ∈ xs, x < 256) : ((sOf xs).toList == (sOf xs).toList) = true := by
  rw [sOf_beq h h, decide_eq_true rfl]
theorem sealS_ok {ws : List (List Nat)} (hw : A.okW ws) {iv p : List Nat} (hi : A.ok 16 iv) (hp : ∀ x ∈ p, x < 256) : A.ok (16 * (p.length / 16 + 1)) (A.sealS ws iv p) := A.sealB_ok hw _ hi ⟨A.padS_length p, A.padS_low hp⟩
/-- The walk stops ahead of a reading; the world has a name. -/
theorem wp_named {P : Program} {ops : Array Oper} {rest : List Oper} {o : Oper} {a : Act} {Q : Exit → Act → World → Prop} {w : World} (t : TypeId) (x : Operand) (_ : o.op = .load t x) (h : ∀ w', Hid (w' = w) → wpList P ops Q (o :: rest) a w') : wpList P ops Q (o :: rest) a w := h w rfl
end Go.Proofs.Ytmfbdacalenfdaa
