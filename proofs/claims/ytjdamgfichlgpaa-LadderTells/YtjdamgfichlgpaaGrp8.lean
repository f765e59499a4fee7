/- Texts that were joined: Eq, EqP. -/
import Derived.Test.YtjdamgfichlgpaaGrp1
import Derived.Test.YtjdamgfichlgpaaRows
import Derived.ChangeKeysEq
import Derived.Laws.StructEq
/- '==' and '!=' of two arrays of integers: as the rows of numbers are. Over any program. -/
namespace Go.Proofs.Ytjdamgfichlgpaa
open Go.RowKit
section
variable {P : Program}

theorem run_equalIn_int (d : Nat) {e : TypeId} {k : IntKind} (hu : P.underlying e = some (.int k)) (a b : Int) (w : World) : (Op.equalIn (d + 1) e (.int k a) (.int k b)).run P w = .ok (a == b) w := by
  simp [Op.equalIn, run_underlying hu]
theorem run_eqItems_ints (d : Nat) {e : TypeId} {k : IntKind} (hu : P.underlying e = some (.int k)) (hp : P.plainKey e = true) (f g : Nat → Int) (X Y : Array Value) (w : World) :
    ∀ is : List Nat, (∀ i ∈ is, X[i]? = some (.int k (f i))) → (∀ i ∈ is, Y[i]? = some (.int k (g i))) → (Op.eqItems (d + 1) e 1 X Y is).run P w = .ok (is.all fun i => f i == g i) w
  | [], _, _ => by simp [Op.eqItems]
  | i :: is, hX, hY => by
    have p1 := run_part_plain w hp (hX i (by simp))
    have p2 := run_part_plain w hp (hY i (by simp))
    have ih := run_eqItems_ints d hu hp f g X Y w is (fun j hj => hX j (by simp [hj])) (fun j hj => hY j (by simp [hj]))
    simp only [Op.eqItems, Sem.run_bind, Nat.mul_one, p1, p2, Result.andThen_ok, run_equalIn_int d hu]
    cases h : (f i == g i)
    · simp [h]
    · simp [h, ih]
theorem run_eql_ints {t e : TypeId} {n : Nat} {i : TypeInfo} {k : IntKind} (ht : P.underlying t = some (.array n e)) (hi : P.info? e = some i) (hu : P.underlying e = some (.int k)) (hp : P.plainKey e = true) (hc : P.cellsOf e = 1)
    (f g : Nat → Int) (X Y : Array Value) (hX : ∀ j, j < n → X[j]? = some (.int k (f j))) (hY : ∀ j, j < n → Y[j]? = some (.int k (g j))) (w : World) :
    (binOp .eql t (.agg X) (.agg Y)).run P w = .ok (.bool ((List.range n).all fun j => f j == g j)) w := by
  simp only [binOp]
  have h := run_equalIn_array w 9999 X Y ht hi
  rw [hc, run_eqItems_ints 9998 hu hp f g X Y w _ (fun j hj => hX j (List.mem_range.1 hj)) (fun j hj => hY j (List.mem_range.1 hj))] at h
  simp [Op.equal, Op.maxDepth, h]
theorem run_neq_ints {t e : TypeId} {n : Nat} {i : TypeInfo} {k : IntKind} (ht : P.underlying t = some (.array n e)) (hi : P.info? e = some i) (hu : P.underlying e = some (.int k)) (hp : P.plainKey e = true) (hc : P.cellsOf e = 1)
    (f g : Nat → Int) (X Y : Array Value) (hX : ∀ j, j < n → X[j]? = some (.int k (f j))) (hY : ∀ j, j < n → Y[j]? = some (.int k (g j))) (w : World) :
    (binOp .neq t (.agg X) (.agg Y)).run P w = .ok (.bool !((List.range n).all fun j => f j == g j)) w := by
  simp only [binOp]
  have h := run_equalIn_array w 9999 X Y ht hi
  rw [hc, run_eqItems_ints 9998 hu hp f g X Y w _ (fun j hj => hX j (List.mem_range.1 hj)) (fun j hj => hY j (List.mem_range.1 hj))] at h
  simp [Op.equal, Op.maxDepth, h]
end

/-- Are the two one? -/
def Nm.beq (x y : Nm) : Bool := (x.a == y.a) && ((x.b == y.b) && ((x.c == y.c) && (x.d == y.d)))
theorem Nm.beq_self (x : Nm) : Nm.beq x x = true := by simp [Nm.beq]
theorem Nm.beq_iff {x y : Nm} : Nm.beq x y = true ↔ x = y := by
  obtain ⟨xa, xb, xc, xd⟩ := x; obtain ⟨ya, yb, yc, yd⟩ := y
  simp [Nm.beq]
theorem Nm.beq_ne {x y : Nm} (h : x ≠ y) : Nm.beq x y = false := by
  cases e : Nm.beq x y
  · rfl
  · exact absurd (Nm.beq_iff.1 e) h
def Nm.get (x : Nm) : Nat → Int
  | 0 => x.a
  | 1 => x.b
  | 2 => x.c
  | _ => x.d
theorem Nm.get_N (x : Nm) (j : Nat) (h : j < 4) : (#[Value.int .u64 x.a, .int .u64 x.b, .int .u64 x.c, .int .u64 x.d] : Array Value)[j]? = some (.int .u64 (x.get j)) := by
  match j, h with
  | 0, _ => rfl
  | 1, _ => rfl
  | 2, _ => rfl
  | 3, _ => rfl
set_option maxRecDepth 100000 in
theorem eqN (x y : Nm) (w : World) : (binOp .eql 24 (N x) (N y)).run Try.prog w = .ok (.bool (Nm.beq x y)) w := by
  rw [run_eql_ints (P := Try.prog) (t := 24) (e := 22) (n := 4) (k := .u64) Try.underlying24 rfl Try.underlying22 (by kernel_rfl) (by kernel_rfl) x.get y.get _ _ x.get_N y.get_N]
  simp [List.range_succ, Nm.get, Nm.beq]
set_option maxRecDepth 100000 in
theorem neN (x y : Nm) (w : World) : (binOp .neq 24 (N x) (N y)).run Try.prog w = .ok (.bool !(Nm.beq x y)) w := by
  rw [run_neq_ints (P := Try.prog) (t := 24) (e := 22) (n := 4) (k := .u64) Try.underlying24 rfl Try.underlying22 (by kernel_rfl) (by kernel_rfl) x.get y.get _ _ x.get_N y.get_N]
  simp [List.range_succ, Nm.get, Nm.beq]
def getW (l h : Nm) : Nat → Int
  | 0 => l.a
  | 1 => l.b
  | 2 => l.c
  | 3 => l.d
  | 4 => h.a
  | 5 => h.b
  | 6 => h.c
  | _ => h.d
theorem getW_W (l h : Nm) (j : Nat) (hj : j < 8) : (#[Value.int .u64 l.a, .int .u64 l.b, .int .u64 l.c, .int .u64 l.d, .int .u64 h.a, .int .u64 h.b, .int .u64 h.c, .int .u64 h.d] : Array Value)[j]? = some (.int .u64 (getW l h j)) := by
  match j, hj with
  | 0, _ => rfl
  | 1, _ => rfl
  | 2, _ => rfl
  | 3, _ => rfl
  | 4, _ => rfl
  | 5, _ => rfl
  | 6, _ => rfl
  | 7, _ => rfl
set_option maxRecDepth 100000 in
theorem eqW (l h l' h' : Nm) (w : World) : (binOp .eql 44 (Wv l h) (Wv l' h')).run Try.prog w = .ok (.bool (Nm.beq l l' && Nm.beq h h')) w := by
  rw [run_eql_ints (P := Try.prog) (t := 44) (e := 22) (n := 8) (k := .u64) Try.underlying44 rfl Try.underlying22 (by kernel_rfl) (by kernel_rfl) (getW l h) (getW l' h') _ _ (getW_W l h) (getW_W l' h')]
  simp [List.range_succ, getW, Nm.beq, Bool.and_assoc]
end Go.Proofs.Ytjdamgfichlgpaa

/- '==' and '!=' of two points. -/
namespace Go.Proofs.Ytjdamgfichlgpaa
open Go.RowKit
theorem part_num (xs : Array Value) (off : Nat) (w : World) : (part 24 xs off).run Try.prog w = .ok (.agg (xs.extract off (off + 4))) w := by
  have hs : (Try.prog.info? 24).map (·.size) = some 4 := by kernel_rfl
  cases hq : Try.prog.info? 24 with
  | none => simp [hq] at hs
  | some i =>
    have hi : i.size = 4 := by simpa [hq] using hs
    simp [part, isAgg, run_underlying Try.underlying24, sizeOf, typeInfo, hq, hi]
set_option maxRecDepth 100000 in
theorem equalIn_num (x y : Nm) (w : World) : (Op.equalIn 9999 24 (N x) (N y)).run Try.prog w = .ok (Nm.beq x y) w := by
  have h := run_equalIn_array (P := Try.prog) (t := 24) (e := 22) w 9998 #[Value.int .u64 x.a, .int .u64 x.b, .int .u64 x.c, .int .u64 x.d] #[Value.int .u64 y.a, .int .u64 y.b, .int .u64 y.c, .int .u64 y.d] Try.underlying24 rfl
  rw [show Try.prog.cellsOf 22 = 1 by kernel_rfl, run_eqItems_ints 9997 (k := .u64) Try.underlying22 (by kernel_rfl) x.get y.get _ _ w _ (fun j hj => x.get_N j (List.mem_range.1 hj)) (fun j hj => y.get_N j (List.mem_range.1 hj))] at h
  rw [h]
  simp [List.range_succ, Nm.get, Nm.beq]
theorem point_fields : (Try.prog.fieldsOf 26).toList.map (fun f => (f.name, f.type, f.offset)) = [("X", 24, 0), ("Y", 24, 4)] := by kernel_rfl
theorem eqF (x y x' y' : Nm) (w : World) : (Op.equalIn 10000 26 (Wv x y) (Wv x' y')).run Try.prog w = .ok (Nm.beq x x' && Nm.beq y y') w := by
  rw [run_equalIn_struct w 9999 26 _ _ (by kernel_rfl) (by kernel_rfl)]
  have hf := point_fields
  generalize (Try.prog.fieldsOf 26).toList = fs at hf
  match fs, hf with
  | [], hf => simp at hf
  | [_], hf => simp at hf
  | _ :: _ :: _ :: _, hf => simp at hf
  | [f, g], hf =>
    simp only [List.map_cons, List.map_nil, List.cons.injEq, Prod.mk.injEq, and_true] at hf
    obtain ⟨⟨n1, t1, o1⟩, n2, t2, o2⟩ := hf
    have e1 : (#[Value.int .u64 x.a, .int .u64 x.b, .int .u64 x.c, .int .u64 x.d, .int .u64 y.a, .int .u64 y.b, .int .u64 y.c, .int .u64 y.d] : Array Value).extract 0 (0 + 4) = #[Value.int .u64 x.a, .int .u64 x.b, .int .u64 x.c, .int .u64 x.d] := by simp
    have e2 : (#[Value.int .u64 x'.a, .int .u64 x'.b, .int .u64 x'.c, .int .u64 x'.d, .int .u64 y'.a, .int .u64 y'.b, .int .u64 y'.c, .int .u64 y'.d] : Array Value).extract 0 (0 + 4) = #[Value.int .u64 x'.a, .int .u64 x'.b, .int .u64 x'.c, .int .u64 x'.d] := by simp
    have e3 : (#[Value.int .u64 x.a, .int .u64 x.b, .int .u64 x.c, .int .u64 x.d, .int .u64 y.a, .int .u64 y.b, .int .u64 y.c, .int .u64 y.d] : Array Value).extract 4 (4 + 4) = #[Value.int .u64 y.a, .int .u64 y.b, .int .u64 y.c, .int .u64 y.d] := by simp
    have e4 : (#[Value.int .u64 x'.a, .int .u64 x'.b, .int .u64 x'.c, .int .u64 x'.d, .int .u64 y'.a, .int .u64 y'.b, .int .u64 y'.c, .int .u64 y'.d] : Array Value).extract 4 (4 + 4) = #[Value.int .u64 y'.a, .int .u64 y'.b, .int .u64 y'.c, .int .u64 y'.d] := by simp
    have q1 := equalIn_num x x' w
    have q2 := equalIn_num y y' w
    simp only [Op.eqFields, n1, t1, o1, n2, t2, o2, Sem.run_bind, part_num, Result.andThen_ok, e1, e2, e3, e4, q1, q2, Sem.run_ite, Sem.run_pure]
    cases Nm.beq x x' <;> cases Nm.beq y y' <;> simp
theorem eqP (x y x' y' : Nm) (w : World) : (binOp .eql 26 (Wv x y) (Wv x' y')).run Try.prog w = .ok (.bool (Nm.beq x x' && Nm.beq y y')) w := by
  rw [run_eql_struct, eqF]
  rfl
theorem neP (x y x' y' : Nm) (w : World) : (binOp .neq 26 (Wv x y) (Wv x' y')).run Try.prog w = .ok (.bool (!(Nm.beq x x' && Nm.beq y y'))) w := by
  rw [run_neq_struct, eqF]
  rfl
end Go.Proofs.Ytjdamgfichlgpaa
