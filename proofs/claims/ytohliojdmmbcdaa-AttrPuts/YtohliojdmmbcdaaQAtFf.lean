/- sealringref.AttrsFault, of whatever list. -/
import Derived.Test.YtohliojdmmbcdaaQAtF
namespace Go.Proofs.Ytohliojdmmbcdaa
open Go.RowKit
set_option linter.unusedSimpArgs false
set_option maxHeartbeats 1000000 in
theorem attrsFault_large (a : Option Addr) (n c : Nat) (h : 24 < n) (w : World) : Calls Try.prog 9 #[.slice a n c] w fun e w' => e = .returned (.int .i64 2) ∧ Below w.heap.size w w' := by
  have h' : (n : Int) > 24 := by omega
  clear h
  go_enter Try.func9, Try.ntmps9
  go_wp2_with fail
  go_ret
  exact ⟨rfl, Below.refl _ _⟩
set_option maxHeartbeats 1000000 in
theorem attrsFault_nil (a : Option Addr) (c : Nat) (w : World) : Calls Try.prog 9 #[.slice a 0 c] w fun e w' => e = .returned (.int .i64 0) ∧ Below w.heap.size w w' := by
  go_enter Try.func9, Try.ntmps9
  go_wp2_with fail
  refine wp_loop_rounds 1 ?_
  rw [rounds_succ]
  go_wp2_with fail
  go_ret
  exact ⟨rfl, Below.refl _ _⟩
/-- AttrsFault as the document has it. -/
theorem attrsFault_fun (v : Value) (l : List Ar) (w : World) (hv : Ats w v l) : Calls Try.prog 9 #[v] w fun e w' => e = .returned (.int .i64 ((fltA l : Nat) : Int)) ∧ Below w.heap.size w w' := by
  obtain ⟨a, c, rfl⟩ := ats_parts hv
  unfold fltA
  by_cases h24 : 24 < l.length
  · rw [if_pos h24]
    exact attrsFault_large a _ c h24 w
  · rw [if_neg h24]
    by_cases h0 : l.length = 0
    · have el := List.length_eq_zero_iff.1 h0
      subst el
      exact attrsFault_nil a c w
    · obtain ⟨b, o, rfl⟩ := hv.addr (by omega)
      exact attrsFault_walk l l.length rfl (by omega) b o c w hv
end Go.Proofs.Ytohliojdmmbcdaa
