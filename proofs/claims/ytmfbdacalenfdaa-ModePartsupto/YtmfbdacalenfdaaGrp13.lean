/- Texts that were joined: AKey, AesBackL. -/
import Derived.Test.YtmfbdacalenfdaaAMath
import Derived.Test.YtmfbdacalenfdaaQSl
import Derived.Test.YtmfbdacalenfdaaGIdx
/- What package aes must keep: a key's contracts as one premise, over whatever cells a key has; keys in variables. -/
namespace Go.Proofs.Ytmfbdacalenfdaa
open Go.RowKit
set_option linter.unusedSimpArgs false
/-- A key's bytes are so many. -/
def KeyN (n : Nat) : Prop := n = 16 ∨ n = 24 ∨ n = 32
/-- A key of so many bytes. -/
structure KeyB (key : List Nat) : Prop where
  len : KeyN key.length
  low : ∀ x ∈ key, x < 256
theorem KeyB.ok {key : List Nat} (h : KeyB key) : A.ok key.length key := ⟨rfl, h.low⟩
theorem KeyB.ws {key : List Nat} (h : KeyB key) : A.okW (A.keyW key) := A.keyW_ok h.ok
theorem KeyB.mod {key : List Nat} (h : KeyB key) : key.length % 4 = 0 := by rcases h.len with e | e | e <;> rw [e]
theorem KeyB.wl {key : List Nat} (h : KeyB key) : (A.keyW key).length = key.length + 28 := by
  rw [A.keyW_length]
  unfold A.keyN
  rcases h.len with e | e | e <;> rw [e]
theorem KeyB.le {key : List Nat} (h : KeyB key) : key.length ≤ 32 := by rcases h.len with e | e | e <;> omega
/-- Ky: these cells are what Expand made of the key; zk: a key's zero cells; Tb: what is known of tables. -/
structure AesC (Tb : World → Prop) (zk : List Value) (Ky : World → List Value → List Nat → Prop) : Prop where
  tb : ∀ {W w1 : World}, Tb W → Below W.heap.size W w1 → Tb w1
  zero : (Try.prog.info? 28).map (·.zero) = some (some (.agg zk.toArray))
  info : (Try.prog.info? 28).map (·.size) = some zk.length
  row : ∃ d, Try.prog.underlying 28 = some d ∧ d.isRow = true
  up : ∀ {W w1 : World} {cs : List Value} {key : List Nat}, Ky W cs key → Below W.heap.size W w1 → Ky w1 cs key
  size : ∀ {w : World} {cs : List Value} {key : List Nat}, Ky w cs key → cs.length = zk.length
  one : ∀ {w : World} {cs : List Value} {key : List Nat}, Ky w cs key → ∀ v ∈ cs, v.oneCell' = true
  zone : ∀ v ∈ zk, v.oneCell' = true
  expand : ∀ (key : List Nat) (v : Value), KeyB key → ∀ w, Tb w → By w v key → Calls Try.prog 9 #[v] w fun e w' => ∃ cs, e = .returned (.tuple #[.agg cs.toArray, .int .i64 0]) ∧ Ky w' cs key ∧ Below w.heap.size w w'
  bad : ∀ (key : List Nat) (v : Value), (∀ x ∈ key, x < 256) → ¬ KeyN key.length → ∀ w, Tb w → By w v key → Calls Try.prog 9 #[v] w fun e w' => e = .returned (.tuple #[.agg zk.toArray, .int .i64 1]) ∧ Below w.heap.size w w'
  enc : ∀ (key : List Nat) (cs : List Value) (b : List Nat), KeyB key → A.ok 16 b → ∀ w, Tb w → Ky w cs key → Calls Try.prog 20 #[.agg cs.toArray, aB b] w fun e w' => e = .returned (aB (A.encS (A.keyW key) b)) ∧ Below w.heap.size w w'
  dec : ∀ (key : List Nat) (cs : List Value) (b : List Nat), KeyB key → A.ok 16 b → ∀ w, Tb w → Ky w cs key → Calls Try.prog 38 #[.agg cs.toArray, aB b] w fun e w' => e = .returned (aB (A.decS (A.keyW key) b)) ∧ Below w.heap.size w w'
section
variable {Tb : World → Prop} {zk : List Value} {Ky : World → List Value → List Nat → Prop}
theorem AesC.zeroV (C : AesC Tb zk Ky) (w : World) : (zeroValue 28).run Try.prog w = .ok (.agg zk.toArray) w := by
  have := C.zero
  cases h : Try.prog.info? 28 with
  | none => simp [h] at this
  | some d =>
    have hz : d.zero = some (.agg zk.toArray) := by simpa [h] using this
    simp [zeroValue, typeInfo, h, hz]
/-- A variable for a key is made, and one is stored into it. -/
theorem AesC.make (C : AesC Tb zk Ky) {ops : Array Oper} {rest : List Oper} {o o2 : Oper} {a : Act} {Q : Exit → Act → World → Prop} {w : World} (hgd : o.guard = none) (hgd2 : o2.guard = none) (x : Tmp) (y : Operand) (ho : o.op = .alloc 28) (hd : o.dst = some x) (hd2 : o2.dst = none) (ho2 : o2.op = .store 28 (.tmp x) y)
    (cs : List Value) (hl : cs.length = zk.length) (h1 : ∀ v ∈ cs, v.oneCell' = true) (hx : (a.put (some x) (.pointer (some ⟨w.heap.size, 0, none⟩))).eval (.tmp x) = .pointer (some ⟨w.heap.size, 0, none⟩)) (hy : (a.put (some x) (.pointer (some ⟨w.heap.size, 0, none⟩))).eval y = .agg cs.toArray)
    (h : ∀ w2, Blk w2 w.heap.size cs → Below w.heap.size w w2 → wpList Try.prog ops Q rest (a.put (some x) (.pointer (some ⟨w.heap.size, 0, none⟩))) w2) : wpList Try.prog ops Q (o :: o2 :: rest) a w := by
  refine wpList_plain hgd fun K hK => ?_
  have e : (execOp a.eval o).run Try.prog w = .ok (.value (.pointer (some ⟨w.heap.size, 0, none⟩))) (w.alloc (.cells zk.toArray 28)) := by
    unfold execOp
    have hz := C.zeroV w
    simp [ho, hz, Instr.alloc, newVar, Value.cells, go_sem] <;> rfl
  unfold Oper.wp
  rw [e]
  refine hK _ _ ?_
  rw [hd]
  obtain ⟨y0, y1⟩ := al1 w zk.toArray 28
  have y0' : Blk (w.alloc (.cells zk.toArray 28)) w.heap.size zk := by simpa using y0
  refine wp_store_eq hgd2 28 (.tmp x) y ho2 w.heap.size 0 cs hx hy (y0'.there (by omega)) (C.info.trans (congrArg some hl.symm)) h1 ?_
  intro w2 hw2
  rw [hd2]
  refine h w2 ?_ ?_
  · rw [hw2.out]
    exact y0'.put hl
  · rw [hw2.out]
    exact below_setCells _ _ _ y1 (Nat.le_refl _)
/-- A key read out of its variable, in a drawn region. -/
theorem AesC.ld (C : AesC Tb zk Ky) {o : Oper} {a : Act} {w : World} {φ : Value → World → Prop} (x : Operand) (ho : o.op = .load 28 x) (k : Nat) (hx : a.eval x = .pointer (some ⟨k, 0, none⟩)) (cs : List Value) (hl : cs.length = zk.length) (hc : w.rangeAt k 0 cs) (h : φ (.agg cs.toArray) w) : YieldsP Try.prog o a w φ := by
  obtain ⟨d, hu, hr⟩ := C.row
  exact yieldsA_load 28 x ho k 0 hx cs d hc hu hr (C.info.trans (congrArg some hl.symm)) h
end
def MP.qs (ws : List (List Nat)) : MP := ⟨fun v w => Qs w v ws, fun h hb => h.up hb (Nat.le_refl _)⟩
end Go.Proofs.Ytmfbdacalenfdaa

/- AesBack out of the contracts of package aes. -/
namespace Go.Proofs.Ytmfbdacalenfdaa
open Go.RowKit
set_option linter.unusedSimpArgs false
attribute [local go_sem] YieldsP execOp
attribute [local simp] MP.eq_p
theorem bu_a16 : Try.prog.underlying 23 = some (.array 16 5) := by kernel_rfl
theorem binfo_a16 : (Try.prog.info? 23).map (·.size) = some 16 := by kernel_rfl
theorem guard_a16 : Try.prog.eqGuardType Try.prog.depth 23 = false := by kernel_rfl
end Go.Proofs.Ytmfbdacalenfdaa
