/- What the laws lean on of package rule. -/
import Derived.Test.YtepaapiflkkghabQAtCmToRuM
import Derived.Test.YtepaapiflkkghabQAtK0
namespace Go.Proofs.Ytepaapiflkkghab
open Go.RowKit
set_option linter.unusedSimpArgs false
theorem uBoolR : Try.prog.underlying 4 = some .bool := by kernel_rfl
def zedA (l : List Ar) : Prop := ∀ x ∈ l, x.v.length ≤ 140737488351232
def RlMayC : Prop := ∀ (v : Value) (l : List Ar) (k : Int) (w : World), (∀ x ∈ l, x.ok) → l.length ≤ 4611686018427387904 → zedA l → -9223372036854775808 ≤ k → k ≤ 9223372036854775807 → Ats w v l → Calls Try.prog 7 #[v, .int .i64 k] w fun e w' => e = .returned (.int .i64 ((mayE l k : Nat) : Int)) ∧ Below w.heap.size w w'
def trnL (l t : List Ar) (cp : Bool) : List Ar := if trnE l t cp = 0 then ovrA l t else []
def RlChangeC : Prop := ∀ (v u : Value) (l t : List Ar) (w : World), lowA l → lowA t → l.length ≤ 4611686018427387904 → zedA l → t.length ≤ 4611686018427387904 → zedA t → Ats w v l → Ats w u t → Calls Try.prog 10 #[v, u] w fun e w' => (∃ r, e = .returned (.tuple #[r, .int .i64 ((trnE l t false : Nat) : Int)]) ∧ Ats w' r (trnL l t false)) ∧ Below w.heap.size w w'
def RlCopyC : Prop := ∀ (v u : Value) (l t : List Ar) (w : World), lowA l → lowA t → l.length ≤ 4611686018427387904 → zedA l → t.length ≤ 4611686018427387904 → zedA t → Ats w v l → Ats w u t → Calls Try.prog 21 #[v, u] w fun e w' => (∃ r, e = .returned (.tuple #[r, .int .i64 ((trnE l t true : Nat) : Int)]) ∧ Ats w' r (trnL l t true)) ∧ Below w.heap.size w w'
def madL (t : List Ar) (b : Bool) : List Ar := atsF (madF t b) 19
def RlValidC : Prop := ∀ (v : Value) (l : List Ar) (w : World), lowA l → l.length ≤ 4611686018427387904 → zedA l → Ats w v l → Calls Try.prog 30 #[v] w fun e w' => e = .returned (.bool (valA l)) ∧ Below w.heap.size w w'
def RlMakeC : Prop := ∀ (v : Value) (l : List Ar) (b : Bool) (w : World), lowA l → l.length ≤ 4611686018427387904 → zedA l → Ats w v l → Calls Try.prog 5 #[v, .bool b] w fun e w' => (∃ r, e = .returned (.tuple #[r, .int .i64 ((madE l b : Nat) : Int)]) ∧ Ats w' r (madL l b)) ∧ Below w.heap.size w w'
end Go.Proofs.Ytepaapiflkkghab
