/- What the laws lean on of package rule. -/
import Derived.Test.YtepaapiflkkghaaQAtMToRuM
import Derived.Test.YtepaapiflkkghaaQSameToAtK0
namespace Go.Proofs.Ytepaapiflkkghaa
open Go.RowKit
set_option linter.unusedSimpArgs false
theorem uBoolR : Try.prog.underlying 4 = some .bool := by kernel_rfl
def zedA (l : List Ar) : Prop := ∀ x ∈ l, x.v.length ≤ 140737488351232
def RlSeeC : Prop := ∀ (v : Value) (l : List Ar) (k : Int) (w : World), (∀ x ∈ l, x.ok) → l.length ≤ 4611686018427387904 → zedA l → -9223372036854775808 ≤ k → k ≤ 9223372036854775807 → Ats w v l → Calls Try.prog 23 #[v, .int .i64 k] w fun e w' => (∃ u, e = .returned (.tuple #[u, .int .i64 ((seeE l k : Nat) : Int)]) ∧ By w' u (if seeE l k = 0 then (getA l k).getD [] else [])) ∧ Below w.heap.size w w'
def RlMayC : Prop := ∀ (v : Value) (l : List Ar) (k : Int) (w : World), (∀ x ∈ l, x.ok) → l.length ≤ 4611686018427387904 → zedA l → -9223372036854775808 ≤ k → k ≤ 9223372036854775807 → Ats w v l → Calls Try.prog 25 #[v, .int .i64 k] w fun e w' => e = .returned (.int .i64 ((mayE l k : Nat) : Int)) ∧ Below w.heap.size w w'
def trnL (l t : List Ar) (cp : Bool) : List Ar := if trnE l t cp = 0 then ovrA l t else []
def RlChangeC : Prop := ∀ (v u : Value) (l t : List Ar) (w : World), lowA l → lowA t → l.length ≤ 4611686018427387904 → zedA l → t.length ≤ 4611686018427387904 → zedA t → Ats w v l → Ats w u t → Calls Try.prog 20 #[v, u] w fun e w' => (∃ r, e = .returned (.tuple #[r, .int .i64 ((trnE l t false : Nat) : Int)]) ∧ Ats w' r (trnL l t false)) ∧ Below w.heap.size w w'
def RlCopyC : Prop := ∀ (v u : Value) (l t : List Ar) (w : World), lowA l → lowA t → l.length ≤ 4611686018427387904 → zedA l → t.length ≤ 4611686018427387904 → zedA t → Ats w v l → Ats w u t → Calls Try.prog 22 #[v, u] w fun e w' => (∃ r, e = .returned (.tuple #[r, .int .i64 ((trnE l t true : Nat) : Int)]) ∧ Ats w' r (trnL l t true)) ∧ Below w.heap.size w w'
theorem trnL_low {l t : List Ar} {cp : Bool} (lo : lowA l) (lt : lowA t) : lowA (trnL l t cp) := by
  unfold trnL
  split
  · exact ovrA_lowA lo lt
  · exact fun x hx => absurd hx List.not_mem_nil
theorem trnL_len (l t : List Ar) (cp : Bool) : (trnL l t cp).length ≤ 18 := by
  unfold trnL
  split
  · exact risA_len _
  · exact Nat.zero_le _
def madL (t : List Ar) (b : Bool) : List Ar := atsF (madF t b) 19
def RlValidC : Prop := ∀ (v : Value) (l : List Ar) (w : World), lowA l → l.length ≤ 4611686018427387904 → zedA l → Ats w v l → Calls Try.prog 14 #[v] w fun e w' => e = .returned (.bool (valA l)) ∧ Below w.heap.size w w'
def RlHiddenC : Prop := ∀ (v : Value) (l : List Ar) (w : World), lowA l → l.length ≤ 4611686018427387904 → zedA l → Ats w v l → Calls Try.prog 16 #[v] w fun e w' => e = .returned (.bool (hidA l)) ∧ Below w.heap.size w w'
def RlMakeC : Prop := ∀ (v : Value) (l : List Ar) (b : Bool) (w : World), lowA l → l.length ≤ 4611686018427387904 → zedA l → Ats w v l → Calls Try.prog 10 #[v, .bool b] w fun e w' => (∃ r, e = .returned (.tuple #[r, .int .i64 ((madE l b : Nat) : Int)]) ∧ Ats w' r (madL l b)) ∧ Below w.heap.size w w'
end Go.Proofs.Ytepaapiflkkghaa
