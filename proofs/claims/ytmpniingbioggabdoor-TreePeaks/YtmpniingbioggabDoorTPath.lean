/- The contract of sealringref.Path. -/
import Derived.Test.YtmpniingbioggabDoorTFloor
namespace Go.Proofs.YtmpniingbioggabDoor
open Go.RowKit
set_option linter.unusedSimpArgs false
attribute [local go_sem] YieldsP execOp
attribute [local simp] MP.eq_p
theorem i64_xor1 (i : Nat) (h : i < 4611686018427387904) : bits .xor .i64 (i : Int) 1 = ((i ^^^ 1 : Nat) : Int) := by
  show IntKind.i64.wrap (((BitVec.ofInt 64 (i : Int) ^^^ BitVec.ofInt 64 1).toNat : Nat) : Int) = _
  have e1 : (BitVec.ofInt 64 (i : Int)).toNat = i := by rw [BitVec.toNat_ofInt]; omega
  have e2 : (BitVec.ofInt 64 1).toNat = 1 := rfl
  have hx := T.xor_one i
  rw [BitVec.toNat_xor, e1, e2, IntKind.wrap_i64]
  split at hx <;> omega
def pathS (ls : List (List Nat)) (i : Nat) : List (List Nat) := T.path nodeS (ls.map leafS) i
theorem Ds.cell_at {w : World} {v : Value} {ds : List (List Nat)} (h : Ds w v ds) (hp : 0 < ds.length) : ∃ b o c, v = .slice (some ⟨b, o, none⟩) ds.length c ∧ ∀ j, j < ds.length → w.rangeAt b (o + j * 32) ((ds.getD j []).map b8) := by
  obtain ⟨a, c, e, _, h3⟩ := h
  obtain ⟨b, o, rfl, hr⟩ := h3 hp
  exact ⟨b, o, c, e, hr⟩
theorem get_list {ds : List (List Nat)} {j : Nat} (h : j < ds.length) : (ds[j]?).toList = [ds.getD j []] := by
  rw [List.getD_eq_getElem?_getD, List.getElem?_eq_getElem h]
  rfl
theorem get_none {ds : List (List Nat)} {j : Nat} (h : ¬ j < ds.length) : (ds[j]?).toList = [] := by
  rw [List.getElem?_eq_none (by omega)]
  rfl
end Go.Proofs.YtmpniingbioggabDoor
