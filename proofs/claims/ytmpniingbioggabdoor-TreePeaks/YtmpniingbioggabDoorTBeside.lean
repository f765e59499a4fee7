/- The contracts of tree.beside and tree.Path. -/
import Derived.Test.YtmpniingbioggabDoorTRoot
namespace Go.Proofs.YtmpniingbioggabDoor
open Go.RowKit
set_option linter.unusedSimpArgs false
attribute [local go_sem] YieldsP execOp
attribute [local simp] MP.eq_p
theorem Od.mono {w : World} {B B' : Nat} {v : Value} {ds : List (List Nat)} (h : Od w B v ds) (hB : B' ≤ B) : Od w B' v ds := by
  refine ⟨h.1, h.2.1, ?_⟩
  rcases h.2.2 with h' | ⟨g, cap, cur, e, hg, rest⟩
  · exact .inl h'
  · exact .inr ⟨g, cap, cur, e, by omega, rest⟩
def MP.od (B : Nat) (ds : List (List Nat)) : MP := ⟨fun v w => Od w B v ds, fun h hb => h.up hb⟩
theorem pathS_one (p : List Nat) : pathS [p] 0 = [] := rfl
theorem pathS_left {ls : List (List Nat)} {j i : Nat} (h1 : 2 ^ j < ls.length) (h2 : ls.length ≤ 2 ^ (j + 1)) (hi : i < 2 ^ j) : pathS (ls.take (2 ^ j)) i ++ [rootS (ls.drop (2 ^ j))] = pathS ls i := by
  have e2 : 2 ^ (j + 1) = 2 ^ j * 2 := Nat.pow_succ ..
  have lt : ((ls.take (2 ^ j)).map leafS).length = 2 ^ j := by rw [List.length_map, List.length_take]; omega
  have ld : ((ls.drop (2 ^ j)).map leafS).length = ls.length - 2 ^ j := by rw [List.length_map, List.length_drop]
  have := T.path_left nodeS (sumS []) (j := j) (l := (ls.take (2 ^ j)).map leafS) (m := (ls.drop (2 ^ j)).map leafS) (i := i) lt (by omega) (by omega) (by omega)
  rw [← List.map_append, List.take_append_drop, T.path_eq nodeS (by rw [List.length_map]; exact h2) (by rw [List.length_map]; omega), T.path_eq nodeS (by omega) (by omega)] at this
  exact this.symm
theorem pathS_right {ls : List (List Nat)} {j i : Nat} (h1 : 2 ^ j < ls.length) (h2 : ls.length ≤ 2 ^ (j + 1)) (hi : 2 ^ j ≤ i) (hn : i < ls.length) : pathS (ls.drop (2 ^ j)) (i - 2 ^ j) ++ [rootS (ls.take (2 ^ j))] = pathS ls i := by
  have e2 : 2 ^ (j + 1) = 2 ^ j * 2 := Nat.pow_succ ..
  have lt : ((ls.take (2 ^ j)).map leafS).length = 2 ^ j := by rw [List.length_map, List.length_take]; omega
  have ld : ((ls.drop (2 ^ j)).map leafS).length = ls.length - 2 ^ j := by rw [List.length_map, List.length_drop]
  have := T.path_right nodeS (sumS []) (j := j) (l := (ls.take (2 ^ j)).map leafS) (m := (ls.drop (2 ^ j)).map leafS) (i := i - 2 ^ j) lt (by omega) (by omega)
  rw [← List.map_append, List.take_append_drop, lt, show 2 ^ j + (i - 2 ^ j) = i by omega, T.path_eq nodeS (by rw [List.length_map]; exact h2) (by rw [List.length_map]; omega), T.path_eq nodeS (by omega) (by omega)] at this
  exact this.symm
theorem pathS_short {ls : List (List Nat)} {i : Nat} (hi : i < ls.length) (h : ls.length ≤ 1000000) : (pathS ls i).length ≤ 20 :=
  T.path_short nodeS (k := 20) (by rw [List.length_map]; omega) (by rw [List.length_map]; exact hi)
end Go.Proofs.YtmpniingbioggabDoor
