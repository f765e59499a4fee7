/- Texts that were joined: Num, Eq, EqP. -/
import Derived.WalkKit
import Derived.Test.YtjdamgfichlgpaaRows
import Derived.ChangeKeysEq
import Derived.Laws.StructEq
/- The plain mathematics of numbers of four and of eight words, with no program in sight: what the walks of this seat carry. -/
namespace Go.Proofs.Ytjdamgfichlgpaa
open Go.RowKit

/-- 2^64. -/
def B : Int := 18446744073709551616
/-- A word. -/
def Word (x : Int) : Prop := 0 ≤ x ∧ x < 18446744073709551616
/-- Four words, the least first. -/
structure Nm where
  a : Int
  b : Int
  c : Int
  d : Int
/-- The value that Go passes. -/
abbrev N (x : Nm) : Value := .agg #[.int .u64 x.a, .int .u64 x.b, .int .u64 x.c, .int .u64 x.d]
/-- Each of the four is a word. -/
structure Nm.ok (x : Nm) : Prop where
  a : Word x.a
  b : Word x.b
  c : Word x.c
  d : Word x.d
/-- What it stands for. -/
def Nm.val (x : Nm) : Int := x.a + 18446744073709551616 * (x.b + 18446744073709551616 * (x.c + 18446744073709551616 * x.d))
/-- 2^256. -/
def M : Int := 115792089237316195423570985008687907853269984665640564039457584007913129639936

theorem Nm.eta (x : Nm) : (⟨x.a, x.b, x.c, x.d⟩ : Nm) = x := rfl
theorem Nm.val_nonneg {x : Nm} (h : x.ok) : 0 ≤ x.val := by
  obtain ⟨⟨_, _⟩, ⟨_, _⟩, ⟨_, _⟩, ⟨_, _⟩⟩ := h; unfold Nm.val; omega
theorem Nm.val_lt {x : Nm} (h : x.ok) : x.val < M := by
  obtain ⟨⟨_, _⟩, ⟨_, _⟩, ⟨_, _⟩, ⟨_, _⟩⟩ := h; unfold Nm.val M; omega
/-- There is one row of words of a number. -/
theorem Nm.ext_val {x y : Nm} (hx : x.ok) (hy : y.ok) (h : x.val = y.val) : x = y := by
  obtain ⟨⟨_, _⟩, ⟨_, _⟩, ⟨_, _⟩, ⟨_, _⟩⟩ := hx
  obtain ⟨⟨_, _⟩, ⟨_, _⟩, ⟨_, _⟩, ⟨_, _⟩⟩ := hy
  obtain ⟨xa, xb, xc, xd⟩ := x
  obtain ⟨ya, yb, yc, yd⟩ := y
  simp only [Nm.val] at *
  simp only [Nm.mk.injEq]
  omega

/-- The four words of a number. -/
def Nm.of (n : Int) : Nm := ⟨n % 18446744073709551616, n / 18446744073709551616 % 18446744073709551616, n / 340282366920938463463374607431768211456 % 18446744073709551616, n / 6277101735386680763835789423207666416102355444464034512896 % 18446744073709551616⟩
theorem Nm.of_ok (n : Int) : (Nm.of n).ok := by
  refine ⟨⟨?_, ?_⟩, ⟨?_, ?_⟩, ⟨?_, ?_⟩, ⟨?_, ?_⟩⟩ <;> simp only [Nm.of] <;> omega
theorem Nm.of_val {n : Int} (h0 : 0 ≤ n) (h1 : n < M) : (Nm.of n).val = n := by
  unfold M at h1
  simp only [Nm.of, Nm.val]
  omega
theorem Nm.eq_of {x : Nm} {n : Int} (hx : x.ok) (h : x.val = n) : x = Nm.of n := by
  have h0 := Nm.val_nonneg hx
  have h1 := Nm.val_lt hx
  exact Nm.ext_val hx (Nm.of_ok n) (by rw [Nm.of_val (by omega) (by omega), h])
theorem M_pos : 0 < M := by decide

/-- What an operation leaves alone: all blocks that were there. -/
theorem bcell {W w1 : World} (hb : Below W.heap.size W w1) : (∀ b o, b < W.heap.size → w1.cell? ⟨b, o, none⟩ = W.cell? ⟨b, o, none⟩) ∧ (∀ b o, b < W.heap.size → w1.frozen? ⟨b, o, none⟩ = W.frozen? ⟨b, o, none⟩) :=
  ⟨fun b o h => hb.cell (p := ⟨b, o, none⟩) h, fun b o h => hb.frozen (p := ⟨b, o, none⟩) h⟩

/-- The number x lies in block k. -/
structure Lies (w : World) (k : Nat) (x : Nm) : Prop where
  a : w.cell? ⟨k, 0, none⟩ = some (.int .u64 x.a)
  b : w.cell? ⟨k, 1, none⟩ = some (.int .u64 x.b)
  c : w.cell? ⟨k, 2, none⟩ = some (.int .u64 x.c)
  d : w.cell? ⟨k, 3, none⟩ = some (.int .u64 x.d)
theorem Lies.below {W w1 : World} {k : Nat} {x : Nm} (h : Lies W k x) (hb : Below W.heap.size W w1) (hk : k < W.heap.size) : Lies w1 k x :=
  ⟨(hb.cell (p := ⟨k, 0, none⟩) hk).trans h.a, (hb.cell (p := ⟨k, 1, none⟩) hk).trans h.b, (hb.cell (p := ⟨k, 2, none⟩) hk).trans h.c, (hb.cell (p := ⟨k, 3, none⟩) hk).trans h.d⟩

theorem lt_of_cell {w : World} {k o : Nat} {v : Value} (h : w.cell? ⟨k, o, none⟩ = some v) : k < w.heap.size := by
  rcases Nat.lt_or_ge k w.heap.size with h' | h'
  · exact h'
  · simp [World.cell?, Array.getElem?_eq_none h'] at h
theorem Lies.up {W w1 : World} {k : Nat} {x : Nm} (h : Lies W k x) (hb : Below W.heap.size W w1) : Lies w1 k x := h.below hb (lt_of_cell h.a)
/-- A number of eight words, its lower half first. -/
abbrev Wv (l h : Nm) : Value := .agg #[.int .u64 l.a, .int .u64 l.b, .int .u64 l.c, .int .u64 l.d, .int .u64 h.a, .int .u64 h.b, .int .u64 h.c, .int .u64 h.d]
/-- The number of eight words l, h lies in block k. -/
structure Lies8 (w : World) (k : Nat) (l h : Nm) : Prop where
  a : w.cell? ⟨k, 0, none⟩ = some (.int .u64 l.a)
  b : w.cell? ⟨k, 1, none⟩ = some (.int .u64 l.b)
  c : w.cell? ⟨k, 2, none⟩ = some (.int .u64 l.c)
  d : w.cell? ⟨k, 3, none⟩ = some (.int .u64 l.d)
  e : w.cell? ⟨k, 4, none⟩ = some (.int .u64 h.a)
  f : w.cell? ⟨k, 5, none⟩ = some (.int .u64 h.b)
  g : w.cell? ⟨k, 6, none⟩ = some (.int .u64 h.c)
  i : w.cell? ⟨k, 7, none⟩ = some (.int .u64 h.d)
theorem Lies8.up {W w1 : World} {k : Nat} {l h : Nm} (q : Lies8 W k l h) (hb : Below W.heap.size W w1) : Lies8 w1 k l h := by
  have hk := lt_of_cell q.a
  exact ⟨(hb.cell (p := ⟨k, 0, none⟩) hk).trans q.a, (hb.cell (p := ⟨k, 1, none⟩) hk).trans q.b, (hb.cell (p := ⟨k, 2, none⟩) hk).trans q.c, (hb.cell (p := ⟨k, 3, none⟩) hk).trans q.d,
    (hb.cell (p := ⟨k, 4, none⟩) hk).trans q.e, (hb.cell (p := ⟨k, 5, none⟩) hk).trans q.f, (hb.cell (p := ⟨k, 6, none⟩) hk).trans q.g, (hb.cell (p := ⟨k, 7, none⟩) hk).trans q.i⟩

/-! ### Sums, word by word -/
theorem add_val {x y : Nm} (hx : x.ok) (hy : y.ok) {s0 s1 s2 s3 c1 c2 c3 c4 : Int}
    (e0 : s0 = (x.a + y.a + 0) % 18446744073709551616) (k1 : c1 = (x.a + y.a + 0) / 18446744073709551616)
    (e1 : s1 = (x.b + y.b + c1) % 18446744073709551616) (k2 : c2 = (x.b + y.b + c1) / 18446744073709551616)
    (e2 : s2 = (x.c + y.c + c2) % 18446744073709551616) (k3 : c3 = (x.c + y.c + c2) / 18446744073709551616)
    (e3 : s3 = (x.d + y.d + c3) % 18446744073709551616) (k4 : c4 = (x.d + y.d + c3) / 18446744073709551616) :
    (⟨s0, s1, s2, s3⟩ : Nm).ok ∧ (⟨s0, s1, s2, s3⟩ : Nm).val + M * c4 = x.val + y.val ∧ 0 ≤ c4 ∧ c4 ≤ 1 := by
  obtain ⟨⟨_, _⟩, ⟨_, _⟩, ⟨_, _⟩, ⟨_, _⟩⟩ := hx
  obtain ⟨⟨_, _⟩, ⟨_, _⟩, ⟨_, _⟩, ⟨_, _⟩⟩ := hy
  refine ⟨⟨⟨?_, ?_⟩, ⟨?_, ?_⟩, ⟨?_, ?_⟩, ⟨?_, ?_⟩⟩, ?_, ?_, ?_⟩ <;> (try simp only [Nm.val, M]) <;> omega
theorem sub_val {x y : Nm} (hx : x.ok) (hy : y.ok) {s0 s1 s2 s3 c1 c2 c3 c4 : Int}
    (e0 : s0 = (x.a - y.a - 0) % 18446744073709551616) (k1 : c1 = - ((x.a - y.a - 0) / 18446744073709551616))
    (e1 : s1 = (x.b - y.b - c1) % 18446744073709551616) (k2 : c2 = - ((x.b - y.b - c1) / 18446744073709551616))
    (e2 : s2 = (x.c - y.c - c2) % 18446744073709551616) (k3 : c3 = - ((x.c - y.c - c2) / 18446744073709551616))
    (e3 : s3 = (x.d - y.d - c3) % 18446744073709551616) (k4 : c4 = - ((x.d - y.d - c3) / 18446744073709551616)) :
    (⟨s0, s1, s2, s3⟩ : Nm).ok ∧ (⟨s0, s1, s2, s3⟩ : Nm).val - M * c4 = x.val - y.val ∧ 0 ≤ c4 ∧ c4 ≤ 1 := by
  obtain ⟨⟨_, _⟩, ⟨_, _⟩, ⟨_, _⟩, ⟨_, _⟩⟩ := hx
  obtain ⟨⟨_, _⟩, ⟨_, _⟩, ⟨_, _⟩, ⟨_, _⟩⟩ := hy
  refine ⟨⟨⟨?_, ?_⟩, ⟨?_, ?_⟩, ⟨?_, ?_⟩, ⟨?_, ?_⟩⟩, ?_, ?_, ?_⟩ <;> (try simp only [Nm.val, M]) <;> omega
end Go.Proofs.Ytjdamgfichlgpaa

/- '==' and '!=' of two arrays of integers: as the rows of numbers are. Over any program. -/
namespace Go.Proofs.Ytjdamgfichlgpaa
open Go.RowKit
section
variable {P : Program}

theorem run_equalIn_int (d : Nat) {e : TypeId} {k : IntKind} (hu : P.underlying e = some (.int k)) (a b : Int) (w : World) : (Op.equalIn (d + 1) e (.int k a) (.int k b)).run P w = .ok (a == b) w := by
  simp [Op.equalIn, run_underlying hu]
theorem run_eqItems_ints (d : Nat) {e : TypeId} {k : IntKind} (hu : P.underlying e = some (.int k)) (hp : P.plainKey e = true) (f g : Nat → Int) (X Y : Array Value) (w : World) :
    ∀ is : List Nat, (∀ i ∈ is, X[i]? = some (.int k (f i))) → (∀ i ∈ is, Y[i]? = some (.int k (g i))) → (Op.eqItems (d + 1) e 1 X Y is).run P w = .ok (is.all fun i => f i == g i) w
  | [], _, _ => by simp [Op.eqItems]
  | i :: is, hX, hY => by
    have p1 := run_part_plain w hp (hX i (by simp))
    have p2 := run_part_plain w hp (hY i (by simp))
    have ih := run_eqItems_ints d hu hp f g X Y w is (fun j hj => hX j (by simp [hj])) (fun j hj => hY j (by simp [hj]))
    simp only [Op.eqItems, Sem.run_bind, Nat.mul_one, p1, p2, Result.andThen_ok, run_equalIn_int d hu]
    cases h : (f i == g i)
    · simp [h]
    · simp [h, ih]
theorem run_eql_ints {t e : TypeId} {n : Nat} {i : TypeInfo} {k : IntKind} (ht : P.underlying t = some (.array n e)) (hi : P.info? e = some i) (hu : P.underlying e = some (.int k)) (hp : P.plainKey e = true) (hc : P.cellsOf e = 1)
    (f g : Nat → Int) (X Y : Array Value) (hX : ∀ j, j < n → X[j]? = some (.int k (f j))) (hY : ∀ j, j < n → Y[j]? = some (.int k (g j))) (w : World) :
    (binOp .eql t (.agg X) (.agg Y)).run P w = .ok (.bool ((List.range n).all fun j => f j == g j)) w := by
  simp only [binOp]
  have h := run_equalIn_array w 9999 X Y ht hi
  rw [hc, run_eqItems_ints 9998 hu hp f g X Y w _ (fun j hj => hX j (List.mem_range.1 hj)) (fun j hj => hY j (List.mem_range.1 hj))] at h
  simp [Op.equal, Op.maxDepth, h]
theorem run_neq_ints {t e : TypeId} {n : Nat} {i : TypeInfo} {k : IntKind} (ht : P.underlying t = some (.array n e)) (hi : P.info? e = some i) (hu : P.underlying e = some (.int k)) (hp : P.plainKey e = true) (hc : P.cellsOf e = 1)
    (f g : Nat → Int) (X Y : Array Value) (hX : ∀ j, j < n → X[j]? = some (.int k (f j))) (hY : ∀ j, j < n → Y[j]? = some (.int k (g j))) (w : World) :
    (binOp .neq t (.agg X) (.agg Y)).run P w = .ok (.bool !((List.range n).all fun j => f j == g j)) w := by
  simp only [binOp]
  have h := run_equalIn_array w 9999 X Y ht hi
  rw [hc, run_eqItems_ints 9998 hu hp f g X Y w _ (fun j hj => hX j (List.mem_range.1 hj)) (fun j hj => hY j (List.mem_range.1 hj))] at h
  simp [Op.equal, Op.maxDepth, h]
end

/-- Are the two one? -/
def Nm.beq (x y : Nm) : Bool := (x.a == y.a) && ((x.b == y.b) && ((x.c == y.c) && (x.d == y.d)))
theorem Nm.beq_self (x : Nm) : Nm.beq x x = true := by simp [Nm.beq]
theorem Nm.beq_iff {x y : Nm} : Nm.beq x y = true ↔ x = y := by
  obtain ⟨xa, xb, xc, xd⟩ := x; obtain ⟨ya, yb, yc, yd⟩ := y
  simp [Nm.beq]
theorem Nm.beq_ne {x y : Nm} (h : x ≠ y) : Nm.beq x y = false := by
  cases e : Nm.beq x y
  · rfl
  · exact absurd (Nm.beq_iff.1 e) h
def Nm.get (x : Nm) : Nat → Int
  | 0 => x.a
  | 1 => x.b
  | 2 => x.c
  | _ => x.d
theorem Nm.get_N (x : Nm) (j : Nat) (h : j < 4) : (#[Value.int .u64 x.a, .int .u64 x.b, .int .u64 x.c, .int .u64 x.d] : Array Value)[j]? = some (.int .u64 (x.get j)) := by
  match j, h with
  | 0, _ => rfl
  | 1, _ => rfl
  | 2, _ => rfl
  | 3, _ => rfl
set_option maxRecDepth 100000 in
theorem eqN (x y : Nm) (w : World) : (binOp .eql 24 (N x) (N y)).run Try.prog w = .ok (.bool (Nm.beq x y)) w := by
  rw [run_eql_ints (P := Try.prog) (t := 24) (e := 22) (n := 4) (k := .u64) Try.underlying24 rfl Try.underlying22 (by kernel_rfl) (by kernel_rfl) x.get y.get _ _ x.get_N y.get_N]
  simp [List.range_succ, Nm.get, Nm.beq]
set_option maxRecDepth 100000 in
theorem neN (x y : Nm) (w : World) : (binOp .neq 24 (N x) (N y)).run Try.prog w = .ok (.bool !(Nm.beq x y)) w := by
  rw [run_neq_ints (P := Try.prog) (t := 24) (e := 22) (n := 4) (k := .u64) Try.underlying24 rfl Try.underlying22 (by kernel_rfl) (by kernel_rfl) x.get y.get _ _ x.get_N y.get_N]
  simp [List.range_succ, Nm.get, Nm.beq]
def getW (l h : Nm) : Nat → Int
  | 0 => l.a
  | 1 => l.b
  | 2 => l.c
  | 3 => l.d
  | 4 => h.a
  | 5 => h.b
  | 6 => h.c
  | _ => h.d
theorem getW_W (l h : Nm) (j : Nat) (hj : j < 8) : (#[Value.int .u64 l.a, .int .u64 l.b, .int .u64 l.c, .int .u64 l.d, .int .u64 h.a, .int .u64 h.b, .int .u64 h.c, .int .u64 h.d] : Array Value)[j]? = some (.int .u64 (getW l h j)) := by
  match j, hj with
  | 0, _ => rfl
  | 1, _ => rfl
  | 2, _ => rfl
  | 3, _ => rfl
  | 4, _ => rfl
  | 5, _ => rfl
  | 6, _ => rfl
  | 7, _ => rfl
set_option maxRecDepth 100000 in
theorem eqW (l h l' h' : Nm) (w : World) : (binOp .eql 44 (Wv l h) (Wv l' h')).run Try.prog w = .ok (.bool (Nm.beq l l' && Nm.beq h h')) w := by
  rw [run_eql_ints (P := Try.prog) (t := 44) (e := 22) (n := 8) (k := .u64) Try.underlying44 rfl Try.underlying22 (by kernel_rfl) (by kernel_rfl) (getW l h) (getW l' h') _ _ (getW_W l h) (getW_W l' h')]
  simp [List.range_succ, getW, Nm.beq, Bool.and_assoc]
end Go.Proofs.Ytjdamgfichlgpaa

/- '==' and '!=' of two points. -/
namespace Go.Proofs.Ytjdamgfichlgpaa
open Go.RowKit
theorem part_num (xs : Array Value) (off : Nat) (w : World) : (part 24 xs off).run Try.prog w = .ok (.agg (xs.extract off (off + 4))) w := by
  have hs : (Try.prog.info? 24).map (·.size) = some 4 := by kernel_rfl
  cases hq : Try.prog.info? 24 with
  | none => simp [hq] at hs
  | some i =>
    have hi : i.size = 4 := by simpa [hq] using hs
    simp [part, isAgg, run_underlying Try.underlying24, sizeOf, typeInfo, hq, hi]
set_option maxRecDepth 100000 in
theorem equalIn_num (x y : Nm) (w : World) : (Op.equalIn 9999 24 (N x) (N y)).run Try.prog w = .ok (Nm.beq x y) w := by
  have h := run_equalIn_array (P := Try.prog) (t := 24) (e := 22) w 9998 #[Value.int .u64 x.a, .int .u64 x.b, .int .u64 x.c, .int .u64 x.d] #[Value.int .u64 y.a, .int .u64 y.b, .int .u64 y.c, .int .u64 y.d] Try.underlying24 rfl
  rw [show Try.prog.cellsOf 22 = 1 by kernel_rfl, run_eqItems_ints 9997 (k := .u64) Try.underlying22 (by kernel_rfl) x.get y.get _ _ w _ (fun j hj => x.get_N j (List.mem_range.1 hj)) (fun j hj => y.get_N j (List.mem_range.1 hj))] at h
  rw [h]
  simp [List.range_succ, Nm.get, Nm.beq]
theorem point_fields : (Try.prog.fieldsOf 26).toList.map (fun f => (f.name, f.type, f.offset)) = [("X", 24, 0), ("Y", 24, 4)] := by kernel_rfl
theorem eqF (x y x' y' : Nm) (w : World) : (Op.equalIn 10000 26 (Wv x y) (Wv x' y')).run Try.prog w = .ok (Nm.beq x x' && Nm.beq y y') w := by
  rw [run_equalIn_struct w 9999 26 _ _ (by kernel_rfl) (by kernel_rfl)]
  have hf := point_fields
  generalize (Try.prog.fieldsOf 26).toList = fs at hf
  match fs, hf with
  | [], hf => simp at hf
  | [_], hf => simp at hf
  | _ :: _ :: _ :: _, hf => simp at hf
  | [f, g], hf =>
    simp only [List.map_cons, List.map_nil, List.cons.injEq, Prod.mk.injEq, and_true] at hf
    obtain ⟨⟨n1, t1, o1⟩, n2, t2, o2⟩ := hf
    have e1 : (#[Value.int .u64 x.a, .int .u64 x.b, .int .u64 x.c, .int .u64 x.d, .int .u64 y.a, .int .u64 y.b, .int .u64 y.c, .int .u64 y.d] : Array Value).extract 0 (0 + 4) = #[Value.int .u64 x.a, .int .u64 x.b, .int .u64 x.c, .int .u64 x.d] := by simp
    have e2 : (#[Value.int .u64 x'.a, .int .u64 x'.b, .int .u64 x'.c, .int .u64 x'.d, .int .u64 y'.a, .int .u64 y'.b, .int .u64 y'.c, .int .u64 y'.d] : Array Value).extract 0 (0 + 4) = #[Value.int .u64 x'.a, .int .u64 x'.b, .int .u64 x'.c, .int .u64 x'.d] := by simp
    have e3 : (#[Value.int .u64 x.a, .int .u64 x.b, .int .u64 x.c, .int .u64 x.d, .int .u64 y.a, .int .u64 y.b, .int .u64 y.c, .int .u64 y.d] : Array Value).extract 4 (4 + 4) = #[Value.int .u64 y.a, .int .u64 y.b, .int .u64 y.c, .int .u64 y.d] := by simp
    have e4 : (#[Value.int .u64 x'.a, .int .u64 x'.b, .int .u64 x'.c, .int .u64 x'.d, .int .u64 y'.a, .int .u64 y'.b, .int .u64 y'.c, .int .u64 y'.d] : Array Value).extract 4 (4 + 4) = #[Value.int .u64 y'.a, .int .u64 y'.b, .int .u64 y'.c, .int .u64 y'.d] := by simp
    have q1 := equalIn_num x x' w
    have q2 := equalIn_num y y' w
    simp only [Op.eqFields, n1, t1, o1, n2, t2, o2, Sem.run_bind, part_num, Result.andThen_ok, e1, e2, e3, e4, q1, q2, Sem.run_ite, Sem.run_pure]
    cases Nm.beq x x' <;> cases Nm.beq y y' <;> simp
theorem eqP (x y x' y' : Nm) (w : World) : (binOp .eql 26 (Wv x y) (Wv x' y')).run Try.prog w = .ok (.bool (Nm.beq x x' && Nm.beq y y')) w := by
  rw [run_eql_struct, eqF]
  rfl
theorem neP (x y x' y' : Nm) (w : World) : (binOp .neq 26 (Wv x y) (Wv x' y')).run Try.prog w = .ok (.bool (!(Nm.beq x x' && Nm.beq y y'))) w := by
  rw [run_neq_struct, eqF]
  rfl
end Go.Proofs.Ytjdamgfichlgpaa
