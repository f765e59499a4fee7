/- copy of bytes out of a row, and out of a slice, into a range that may be written; an array sliced from a place on. -/
import Derived.Test.YtjcnfffmciahiaaSlA
import Derived.Test.YtjcnfffmciahiaaHCut
import Derived.Test.YtjcnfffmciahiaaGArr
import Derived.Laws.IdiomCopy
namespace Go.Proofs.Ytjcnfffmciahiaa
open Go.RowKit
set_option linter.unusedSimpArgs false
theorem wp_copyR {ops : Array Oper} {rest : List Oper} {o : Oper} {act : Act} {Q : Exit → Act → World → Prop} {w : World} (hgd : o.guard = none) (d s : Operand)
    (ho : o.op = .call { callee := .builtin .copy, args := #[d, s], argTypes := #[44, 44] }) (b f dl dc g q sl sc : Nat) (xs : List Nat) (hd : act.eval d = .slice (some ⟨b, f, none⟩) dl dc) (hs : act.eval s = .slice (some ⟨g, q, none⟩) sl sc) (hn : xs.length = min sl dl) (hr : w.rangeAt g q (xs.map b8))
    (ht : w.there b f xs.length)
    (h : ∀ w2, Hid (w2 = w.setCells b f (xs.map b8)) → wpList Try.prog ops Q rest (act.put o.dst (.int .i64 ((xs.length : Nat) : Int))) w2) : wpList Try.prog ops Q (o :: rest) act w := by
  refine wpList_plain hgd fun K hK => ?_
  have hlen : (xs.map b8).length = min sl dl := by rw [List.length_map]; exact hn
  have hrun := run_copy_cells (P := Try.prog) w 44 44 o.type 5 b f dl dc ⟨g, q, none⟩ sl sc (xs.map b8) Try.uBytes gi_u8 hlen
    (fun j v hj => by rw [Addr.add_lit]; exact hr j v hj)
    (fun j hj => (ht j (by rw [List.length_map] at hj; exact hj)).1) (fun j hj => (ht j (by rw [List.length_map] at hj; exact hj)).2) (one_b8 _)
  rw [List.length_map] at hrun
  unfold Oper.wp
  simp [execOp, ho, resolve, invoke, builtin, hd, hs, hrun, Result.andThen]
  exact hK _ _ (h _ rfl)
theorem By.range {w : World} {a : Option Addr} {n c : Nat} {xs : List Nat} (h : By w (.slice a n c) xs) (hp : 0 < xs.length) : ∃ g q, a = some ⟨g, q, none⟩ ∧ n = xs.length ∧ w.rangeAt g q (xs.map b8) := by
  obtain ⟨a', c', e, h1, h2, h3⟩ := h
  cases e
  obtain ⟨g, q, e, hc⟩ := h3 hp
  refine ⟨g, q, e, rfl, fun j v hj => ?_⟩
  rw [List.getElem?_map] at hj
  rcases Nat.lt_or_ge j xs.length with h | h
  · rw [hc j h]
    simp [List.getD_eq_getElem?_getD, h] at hj ⊢
    exact hj
  · simp [List.getElem?_eq_none h] at hj
/-- The first bytes of a range. -/
theorem range_take {w : World} {g q : Nat} {vs : List Value} (h : w.rangeAt g q vs) (n : Nat) : w.rangeAt g q (vs.take n) := fun j v hj => by
  rw [List.getElem?_take] at hj
  split at hj
  · exact h j v hj
  · cases hj
/-- An array sliced from a place on. -/
theorem slice_from {t e : TypeId} {n : Nat} (ht : Try.prog.underlying t = some (.array n e)) (hz : (Try.prog.info? e).map (·.size) = some 1) (k : IntKind) (i : Nat) (hi : i < n) (b o : Nat) (w : World) :
    (Instr.sliceAt t (.pointer (some ⟨b, o, none⟩)) (some (.int k (i : Int))) none none).run Try.prog w = .ok (.slice (some ⟨b, o + i, none⟩) (n - i) (n - i)) w := by
  have ha : Try.prog.arrayLen t = n := by simp [Program.arrayLen, ht]
  have he : Try.prog.elem t = e := by simp [Program.elem, ht]
  rw [run_sliceAt_array_l w t ⟨b, o, none⟩ (by rw [ha, he]; exact ht) k (i : Int) (by omega) (by rw [ha]; omega), ha, he]
  cases hq : Try.prog.info? e with
  | none => simp [hq] at hz
  | some d =>
    have hs : d.size = 1 := by simpa [hq] using hz
    have hne : ¬ n = i := by omega
    simp [sizeOf, typeInfo, hq, hs, slicedAt, Addr.add_lit, hne]
theorem yields_all {o : Oper} {a : Act} {w : World} {φ : Value → World → Prop} {t e : TypeId} {n : Nat} (ht : Try.prog.underlying t = some (.array n e)) (hz : (Try.prog.info? e).map (·.size) = some 1) (hn : 0 < n) (x : Operand) (ho : o.op = .slice t x none none none) (b f : Nat) (hx : a.eval x = .pointer (some ⟨b, f, none⟩))
    (h : φ (.slice (some ⟨b, f, none⟩) n n) w) : YieldsP Try.prog o a w φ := by
  have e1 := slice_all ht hz hn b f w
  have e : (execOp a.eval o).run Try.prog w = .ok (.value (.slice (some ⟨b, f, none⟩) n n)) w := by
    unfold execOp
    simp [ho, hx, e1]
  unfold YieldsP
  rw [e]
  exact ⟨h, Below.refl _ _⟩
theorem yields_from {o : Oper} {a : Act} {w : World} {φ : Value → World → Prop} {t e : TypeId} {n : Nat} (ht : Try.prog.underlying t = some (.array n e)) (hz : (Try.prog.info? e).map (·.size) = some 1) (x y : Operand) (ho : o.op = .slice t x (some y) none none) (b f i : Nat) (k : IntKind) (hi : i < n) (hx : a.eval x = .pointer (some ⟨b, f, none⟩)) (hy : a.eval y = .int k (i : Int))
    (h : φ (.slice (some ⟨b, f + i, none⟩) (n - i) (n - i)) w) : YieldsP Try.prog o a w φ := by
  have e1 := slice_from ht hz k i hi b f w
  have e : (execOp a.eval o).run Try.prog w = .ok (.value (.slice (some ⟨b, f + i, none⟩) (n - i) (n - i))) w := by
    unfold execOp
    simp [ho, hx, hy, e1]
  unfold YieldsP
  rw [e]
  exact ⟨h, Below.refl _ _⟩
theorem yields_cutB {o : Oper} {act : Act} {w : World} {φ : Value → World → Prop} (x l : Operand)
    (ho : o.op = .slice 44 x (some l) none none) (a : Option Addr) (c n : Nat) (k : IntKind) (xs : List Nat) (hx : act.eval x = .slice a xs.length c) (hl : act.eval l = .int k (n : Int)) (hn : n ≤ xs.length)
    (h : φ (sliced a n xs.length c 1) w) : YieldsP Try.prog o act w φ := by
  have e1 : (Instr.sliceAt 44 (.slice a xs.length c) (some (.int k (n : Int))) none none).run Try.prog w = .ok (sliced a n xs.length c 1) w := by
    rw [run_sliceAt_slice (h := slice_elem), run_slice_l (ht := slice_elem) (h0 := by omega) (h1 := by omega), elem_bytes, size_u8]
    simp
  have e : (execOp act.eval o).run Try.prog w = .ok (.value (sliced a n xs.length c 1)) w := by
    unfold execOp
    simp [ho, hx, hl, e1]
  unfold YieldsP
  rw [e]
  exact ⟨h, Below.refl _ _⟩
end Go.Proofs.Ytjcnfffmciahiaa
