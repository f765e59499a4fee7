/- The contracts of sealringref.floor, leaves and Root. -/
import Derived.Test.YtmpniingbioggabDoorTRef
namespace Go.Proofs.YtmpniingbioggabDoor
open Go.RowKit
set_option linter.unusedSimpArgs false
attribute [local go_sem] YieldsP execOp
attribute [local simp] MP.eq_p
abbrev flS (ds : List (List Nat)) : List (List Nat) := T.floorL nodeS ds
def Dlow (ds : List (List Nat)) : Prop := ∀ d ∈ ds, d.length = 32 ∧ ∀ x ∈ d, x < 256
theorem Dlow.ok {ds : List (List Nat)} (h : Dlow ds) : Dok ds := fun d hd => (h d hd).1
theorem Dlow.at {ds : List (List Nat)} (h : Dlow ds) {j : Nat} (hj : j < ds.length) : (ds.getD j []).length = 32 ∧ ∀ x ∈ ds.getD j [], x < 256 := by
  rw [List.getD_eq_getElem?_getD, List.getElem?_eq_getElem hj]
  exact h _ (List.getElem_mem hj)
theorem nodeS_low (a b : List Nat) : (nodeS a b).length = 32 ∧ ∀ x ∈ nodeS a b, x < 256 := ⟨sumS_length _, sumS_low _⟩
theorem leafS_low (p : List Nat) : (leafS p).length = 32 ∧ ∀ x ∈ leafS p, x < 256 := ⟨sumS_length _, sumS_low _⟩
theorem Dlow.floor : ∀ {ds : List (List Nat)}, Dlow ds → Dlow (flS ds)
  | [], h => by simpa [flS, T.floorL] using h
  | [_], h => by simpa [flS, T.floorL] using h
  | a :: b :: ds, h => by
    intro d hd
    rw [flS, T.floorL] at hd
    rcases List.mem_cons.1 hd with rfl | hd
    · exact nodeS_low _ _
    · exact Dlow.floor (fun x hx => h x (by simp [hx])) d hd
theorem take_two {ds : List (List Nat)} {k : Nat} (h : 2 * k + 1 < ds.length) : flS (ds.take (2 * (k + 1))) = flS (ds.take (2 * k)) ++ [nodeS (ds.getD (2 * k) []) (ds.getD (2 * k + 1) [])] := by
  have e : ds.take (2 * (k + 1)) = ds.take (2 * k) ++ [ds.getD (2 * k) [], ds.getD (2 * k + 1) []] := by
    rw [show 2 * (k + 1) = 2 * k + 1 + 1 by omega, List.take_add_one, List.take_add_one, List.append_assoc]
    congr 1
    simp [List.getD_eq_getElem?_getD, h, show 2 * k < ds.length by omega]
  rw [e, flS, T.floorL_append _ _ _ (by rw [List.length_take]; omega)]
  simp [T.floorL]
theorem take_last {ds : List (List Nat)} {k : Nat} (h : 2 * k + 1 = ds.length) : flS (ds.take (2 * (k + 1))) = flS (ds.take (2 * k)) ++ [ds.getD (2 * k) []] := by
  have e : ds.take (2 * (k + 1)) = ds.take (2 * k) ++ [ds.getD (2 * k) []] := by
    rw [show 2 * (k + 1) = 2 * k + 1 + 1 by omega, List.take_of_length_le (by omega)]
    conv => lhs; rw [← List.take_append_drop (2 * k) ds]
    congr 1
    rw [List.drop_eq_getElem_cons (by omega), List.drop_eq_nil_of_le (by omega)]
    simp [List.getD_eq_getElem?_getD, show 2 * k < ds.length by omega]
  rw [e, flS, T.floorL_append _ _ _ (by rw [List.length_take]; omega)]
  simp [T.floorL]
theorem Dlow.leaves (ls : List (List Nat)) : Dlow (ls.map leafS) := by
  intro d hd
  obtain ⟨p, _, rfl⟩ := List.mem_map.1 hd
  exact leafS_low p
def lenS : Value → Nat
  | .slice _ n _ => n
  | _ => 0
def rootS (ls : List (List Nat)) : List Nat := T.top nodeS (sumS []) (ls.map leafS)
theorem rootS_nil : rootS [] = sumS [] := rfl
end Go.Proofs.YtmpniingbioggabDoor
