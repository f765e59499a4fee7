/- Texts that were joined: Eq, EqP. -/
import Derived.Test.YtpnfopakkaoibaaQNumToKn
import Derived.Test.YtpnfopakkaoibaaRows
import Derived.ChangeKeysEq
import Derived.Laws.StructEq
/- '==' and '!=' of two arrays of integers: as the rows of numbers are. Over any program. -/
namespace Go.Proofs.Ytpnfopakkaoibaa
open Go.RowKit
section
variable {P : Program}

theorem run_equalIn_intN (d : Nat) {e : TypeId} {k : IntKind} (hu : P.underlying e = some (.int k)) (a b : Int) (w : World) : (Op.equalIn (d + 1) e (.int k a) (.int k b)).run P w = .ok (a == b) w := by
  simp [Op.equalIn, run_underlying hu]
theorem run_eqItems_intsN (d : Nat) {e : TypeId} {k : IntKind} (hu : P.underlying e = some (.int k)) (hp : P.plainKey e = true) (f g : Nat → Int) (X Y : Array Value) (w : World) :
    ∀ is : List Nat, (∀ i ∈ is, X[i]? = some (.int k (f i))) → (∀ i ∈ is, Y[i]? = some (.int k (g i))) → (Op.eqItems (d + 1) e 1 X Y is).run P w = .ok (is.all fun i => f i == g i) w
  | [], _, _ => by simp [Op.eqItems]
  | i :: is, hX, hY => by
    have p1 := run_part_plain w hp (hX i (by simp))
    have p2 := run_part_plain w hp (hY i (by simp))
    have ih := run_eqItems_intsN d hu hp f g X Y w is (fun j hj => hX j (by simp [hj])) (fun j hj => hY j (by simp [hj]))
    simp only [Op.eqItems, Sem.run_bind, Nat.mul_one, p1, p2, Result.andThen_ok, run_equalIn_intN d hu]
    cases h : (f i == g i)
    · simp [h]
    · simp [h, ih]
theorem run_eql_intsN {t e : TypeId} {n : Nat} {i : TypeInfo} {k : IntKind} (ht : P.underlying t = some (.array n e)) (hi : P.info? e = some i) (hu : P.underlying e = some (.int k)) (hp : P.plainKey e = true) (hc : P.cellsOf e = 1)
    (f g : Nat → Int) (X Y : Array Value) (hX : ∀ j, j < n → X[j]? = some (.int k (f j))) (hY : ∀ j, j < n → Y[j]? = some (.int k (g j))) (w : World) :
    (binOp .eql t (.agg X) (.agg Y)).run P w = .ok (.bool ((List.range n).all fun j => f j == g j)) w := by
  simp only [binOp]
  have h := run_equalIn_array w 9999 X Y ht hi
  rw [hc, run_eqItems_intsN 9998 hu hp f g X Y w _ (fun j hj => hX j (List.mem_range.1 hj)) (fun j hj => hY j (List.mem_range.1 hj))] at h
  simp [Op.equal, Op.maxDepth, h]
end

/-- Are the two one? -/
def Nm.beq (x y : Nm) : Bool := (x.a == y.a) && ((x.b == y.b) && ((x.c == y.c) && (x.d == y.d)))
theorem Nm.beq_self (x : Nm) : Nm.beq x x = true := by simp [Nm.beq]
def Nm.get (x : Nm) : Nat → Int
  | 0 => x.a
  | 1 => x.b
  | 2 => x.c
  | _ => x.d
theorem Nm.get_N (x : Nm) (j : Nat) (h : j < 4) : (#[Value.int .u64 x.a, .int .u64 x.b, .int .u64 x.c, .int .u64 x.d] : Array Value)[j]? = some (.int .u64 (x.get j)) := by
  match j, h with
  | 0, _ => rfl
  | 1, _ => rfl
  | 2, _ => rfl
  | 3, _ => rfl
set_option maxRecDepth 100000 in
theorem eqN (x y : Nm) (w : World) : (binOp .eql 28 (N x) (N y)).run Try.prog w = .ok (.bool (Nm.beq x y)) w := by
  rw [run_eql_intsN (P := Try.prog) (t := 28) (e := 26) (n := 4) (k := .u64) Try.underlying28 rfl Try.underlying26 (by kernel_rfl) (by kernel_rfl) x.get y.get _ _ x.get_N y.get_N]
  simp [List.range_succ, Nm.get, Nm.beq]
end Go.Proofs.Ytpnfopakkaoibaa

/- '==' and '!=' of two points. -/
namespace Go.Proofs.Ytpnfopakkaoibaa
open Go.RowKit
end Go.Proofs.Ytpnfopakkaoibaa
