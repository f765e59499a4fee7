/- Texts that were joined: Prime, FMath, FeMath, IB. -/
import Derived.Test.YtepaapiflkkghaaRows
import Derived.WalkKit
import Derived.WalkSpells
import Derived.WalkLawsBesides
import Derived.LoopN
import Derived.OwnWalk
import Derived.Laws.AppendOwn
import Derived.Laws.Rows
import Derived.Below
import Derived.Deep.MidRow
import Derived.BigQuiet
/- Fermat's little theorem, Pocklington's test, and that 2^255 - 19 is a prime. -/
namespace Go.Proofs.Ytepaapiflkkghaa.P
/-- choose -/
def C : Nat → Nat → Nat
  | _, 0 => 1
  | 0, _ + 1 => 0
  | n + 1, k + 1 => C n k + C n (k + 1)
/-- sum of f 0 .. f (n-1) -/
def S (f : Nat → Nat) : Nat → Nat
  | 0 => 0
  | n + 1 => S f n + f n
end Go.Proofs.Ytepaapiflkkghaa.P

/- Numbers modulo 2^255 - 19: inverses, roots, Euler's test. Mathematics alone. -/
namespace Go.Proofs.Ytepaapiflkkghaa.F
open Go.Proofs.Ytepaapiflkkghaa.P
/-- 2^255 - 19. -/
def p : Nat := 57896044618658097711785492504343953926634992332820282019728792003956564819949
def add (a b : Nat) : Nat := (a + b) % p
def mul (a b : Nat) : Nat := a * b % p
theorem add_comm (a b : Nat) : add a b = add b a := by unfold add; rw [Nat.add_comm]
theorem mul_comm (a b : Nat) : mul a b = mul b a := by unfold mul; rw [Nat.mul_comm]
theorem add_assoc (a b c : Nat) : add (add a b) c = add a (add b c) := by unfold add; rw [Nat.mod_add_mod, Nat.add_mod_mod, Nat.add_assoc]
theorem mul_assoc (a b c : Nat) : mul (mul a b) c = mul a (mul b c) := by unfold mul; rw [Nat.mod_mul_mod, Nat.mul_mod_mod, Nat.mul_assoc]
theorem mul_one (a : Nat) : mul a 1 = a % p := by unfold mul; rw [Nat.mul_one]
/-- Powers. -/
def pow (a n : Nat) : Nat := a ^ n % p
/-- Euler's number of a: 0, 1 or p - 1. -/
def chi (a : Nat) : Nat := pow a ((p - 1) / 2)
/-- Is there a root? -/
def ok (a : Nat) : Bool := decide (chi a ≠ p - 1)
theorem four (a b c d : Nat) : mul (mul a b) (mul c d) = mul (mul a c) (mul b d) := by
  rw [mul_assoc, mul_assoc, ← mul_assoc b c d, mul_comm b c, mul_assoc c b d]
end Go.Proofs.Ytepaapiflkkghaa.F

/- Numbers modulo 2^255 - 19 as sixteen digits, as functions of their places: carries, borrows. Mathematics alone. -/
namespace Go.Proofs.Ytepaapiflkkghaa.I
/-- The number of the first n digits. -/
def sm (f : Nat → Nat) : Nat → Nat
  | 0 => 0
  | n + 1 => sm f n + f n * 65536 ^ n
/-- The modulus' digits. -/
def mo (i : Nat) : Nat := if i = 0 then 65517 else if i = 15 then 32767 else 65535
/-- A product, digit by digit. -/
def upd (f : Nat → Nat) (j x : Nat) : Nat → Nat := fun i => if i = j then x else f i
end Go.Proofs.Ytepaapiflkkghaa.I

/- What a block of memory holds, whole or in ranges; what a store of a range does to it; rows of ints. (In a name space of its own: texts of numbers have other blocks.) -/
namespace Go.Proofs.Ytepaapiflkkghaa.I
open Go.RowKit
/-- A number as an int. -/
abbrev dI (x : Nat) : Value := .int .i64 ((x : Nat) : Int)
/-- Block k holds these cells, and none of it is frozen. -/
structure Blk (w : World) (k : Nat) (vs : List Value) : Prop where
  lt : k < w.heap.size
  cell : ∀ j v, vs[j]? = some v → w.cell? ⟨k, j, none⟩ = some v
  fz : ∀ j, w.frozen? ⟨k, j, none⟩ = false
theorem Blk.up {W w1 : World} {k : Nat} {vs : List Value} {B : Nat} (h : Blk W k vs) (hb : Below B W w1) (hB : k < B) : Blk w1 k vs :=
  ⟨Nat.lt_of_lt_of_le h.lt hb.size, fun j v hv => (hb.cell (p := ⟨k, j, none⟩) hB).trans (h.cell j v hv), fun j => (hb.frozen (p := ⟨k, j, none⟩) hB).trans (h.fz j)⟩
theorem Blk.al {w : World} {vs : List Value} {t : TypeId} {C : Array Value} {k : Nat} (hk : k = w.heap.size) (hC : C.toList = vs) : Blk (w.alloc (.cells C t)) k vs := by
  subst hk hC
  have hb : (w.alloc (.cells C t)).heap[w.heap.size]? = some (.cells C t) := by show (w.heap.push _)[w.heap.size]? = _; simp
  refine ⟨by simp, fun j v hv => ?_, fun j => ?_⟩
  · rw [cell_of_row _ _ j C t _ hb]; simpa using hv
  · unfold World.frozen?
    rw [hb]
    simp
theorem Blk.range {w : World} {k : Nat} {a b c : List Value} (h : Blk w k (a ++ (b ++ c))) {o : Nat} (ho : o = a.length) : w.rangeAt k o b := by
  subst ho
  intro j v hv
  refine h.cell _ _ ?_
  have hj := (List.getElem?_eq_some_iff.1 hv).1
  rw [List.getElem?_append_right (by omega), show a.length + j - a.length = j by omega, List.getElem?_append_left hj, hv]
theorem Blk.all {w : World} {k : Nat} {a : List Value} (h : Blk w k a) : w.rangeAt k 0 a := fun j v hv => by
  rw [Nat.zero_add]; exact h.cell j v hv
theorem Blk.there {w : World} {k : Nat} {vs : List Value} (h : Blk w k vs) {o n : Nat} (hn : o + n ≤ vs.length) : w.there k o n := fun j hj => by
  refine ⟨?_, h.fz _⟩
  rw [h.cell (o + j) vs[o + j] (List.getElem?_eq_getElem (by omega))]
  rfl
theorem size_setCell (w : World) (a : Addr) (v : Value) : (w.setCell a v).heap.size = w.heap.size := by simp [World.setCell]
theorem size_setCells (k : Nat) : ∀ (vs : List Value) (o : Nat) (w : World), (w.setCells k o vs).heap.size = w.heap.size
  | [], _, _ => rfl
  | v :: vs, o, w => (size_setCells k vs (o + 1) _).trans (size_setCell w _ v)
theorem Blk.store {w : World} {k : Nat} {a b c b' : List Value} (h : Blk w k (a ++ (b ++ c))) {o : Nat} (ho : o = a.length) (hl : b'.length = b.length) : Blk (w.setCells k o b') k (a ++ (b' ++ c)) := by
  subst ho
  have ht := h.there (o := a.length) (n := b'.length) (by simp; omega)
  refine ⟨by rw [size_setCells]; exact h.lt, fun j v hv => ?_, fun j => by rw [World.frozen?_setCells]; exact h.fz j⟩
  rcases Nat.lt_or_ge j a.length with h1 | h1
  · rw [World.cell?_setCells_out k b' a.length w ⟨k, j, none⟩ (fun _ _ => Or.inl h1)]
    refine h.cell j v ?_
    rw [List.getElem?_append_left h1] at hv ⊢
    exact hv
  · rw [List.getElem?_append_right h1] at hv
    rcases Nat.lt_or_ge (j - a.length) b'.length with h2 | h2
    · rw [List.getElem?_append_left h2] at hv
      have := World.rangeAt_setCells_same w k a.length b' ht (j - a.length) v hv
      rwa [show a.length + (j - a.length) = j by omega] at this
    · rw [World.cell?_setCells_out k b' a.length w ⟨k, j, none⟩ (fun _ _ => Or.inr (by show a.length + b'.length ≤ j; omega))]
      refine h.cell j v ?_
      rw [List.getElem?_append_right h1, List.getElem?_append_right (by omega), ← hl]
      rw [List.getElem?_append_right h2] at hv
      exact hv
theorem Blk.set {w : World} {k : Nat} {vs : List Value} (h : Blk w k vs) (j : Nat) (v : Value) (hj : j < vs.length) : Blk (w.setCell ⟨k, j, none⟩ v) k (vs.set j v) := by
  have h0 : Blk w k (vs.take j ++ ([vs[j]] ++ vs.drop (j + 1))) := by
    have e : vs.take j ++ ([vs[j]] ++ vs.drop (j + 1)) = vs := by simp
    rw [e]; exact h
  have := h0.store (o := j) (b' := [v]) (by simp; omega) rfl
  rw [List.set_eq_take_append_cons_drop, if_pos hj]
  exact this
theorem Blk.apart {w : World} {k k' o : Nat} {vs b : List Value} (h : Blk w k vs) (hk : k ≠ k') : Blk (w.setCells k' o b) k vs :=
  ⟨by rw [size_setCells]; exact h.lt, fun j v hv => by
    rw [World.cell?_setCells_out k' b o w ⟨k, j, none⟩ (fun e _ => absurd e hk)]; exact h.cell j v hv, fun j => by rw [World.frozen?_setCells]; exact h.fz j⟩
theorem below_setCells {B k : Nat} {a : World} : ∀ (vs : List Value) (o : Nat) (w : World), Below B a w → B ≤ k → Below B a (w.setCells k o vs)
  | [], _, _, h, _ => h
  | v :: vs, o, _, h, hk => below_setCells vs (o + 1) _ (h.setCell hk v) hk
/-- A row stored whole; the world behind it by an equation. -/
theorem wp_store_eq {P : Program} {ops : Array Oper} {rest : List Oper} {op : Oper} {a : Act} {w : World} {Q : Exit → Act → World → Prop} (hgd : op.guard = none) (ty : TypeId) (x y : Operand) (ho : op.op = .store ty x y)
    (b o : Nat) (cs : List Value) (hx : a.eval x = .pointer (some ⟨b, o, none⟩)) (hy : a.eval y = .agg cs.toArray)
    (ht : w.there b o cs.length) (hi : (P.info? ty).map (·.size) = some cs.length) (h1 : ∀ v ∈ cs, v.oneCell' = true)
    (h : ∀ w2, Hid (w2 = w.setCells b o cs) → wpList P ops Q rest (a.put op.dst undef) w2) : wpList P ops Q (op :: rest) a w :=
  wpList_store_mid hgd ty x y ho b o cs.toArray hx hy (by rw [List.size_toArray]; exact ht) (by rw [List.size_toArray]; exact hi) (all_oneCell_toArray h1) (h _ rfl)
theorem results_cell {P : Program} {fn : Func} {tmps : Array Value} {s : Tmp} {t : TypeId} {b : Nat} {cs : List Value} {d : TypeDesc} {W : World} (hr : fn.results = #[.cell s t]) (ht : tmps[s]?.getD undef = .pointer (some ⟨b, 0, none⟩)) (hc : W.rangeAt b 0 cs)
    (hu : P.underlying t = some d) (hd : d.isRow = true) (hi : (P.info? t).map (·.size) = some cs.length) : (results fn tmps).run P W = .ok (.agg cs.toArray) W := by
  have h1 := run_loadVar_mid (P := P) W b 0 t cs d hc hu hd hi
  simp [results, hr, ht, asAddr, h1]
theorem Blk.put {w : World} {k : Nat} {vs us : List Value} (h : Blk w k vs) (hl : us.length = vs.length) : Blk (w.setCells k 0 us) k us := by
  have h1 : Blk w k ([] ++ (vs ++ [])) := by simpa using h
  have h2 := h1.store (o := 0) (b' := us) rfl (by omega)
  rw [List.nil_append, List.append_nil] at h2
  exact h2
/-- n ints in block k: the function of their places. -/
def row (n : Nat) (f : Nat → Nat) : List Nat := (List.range n).map f
theorem row_congr {n : Nat} {f g : Nat → Nat} (h : ∀ i, i < n → f i = g i) : row n f = row n g := by
  unfold row
  exact List.map_congr_left fun i hi => h i (List.mem_range.1 hi)
abbrev Ar (w : World) (k n : Nat) (f : Nat → Nat) : Prop := Blk w k ((row n f).map dI)
theorem Ar.congr {w : World} {k n : Nat} {f g : Nat → Nat} (h : Ar w k n f) (e : ∀ i, i < n → f i = g i) : Ar w k n g := by
  unfold Ar
  rw [← row_congr e]
  exact h
theorem Ar.at {w : World} {k n : Nat} {f : Nat → Nat} (h : Ar w k n f) {j : Nat} (hj : j < n) : w.cell? ⟨k, j, none⟩ = some (dI (f j)) :=
  h.cell j _ (by simp [row, hj])
theorem Ar.set {w : World} {k n : Nat} {f : Nat → Nat} (h : Ar w k n f) {j : Nat} (hj : j < n) (x : Nat) : Ar (w.setCell ⟨k, j, none⟩ (dI x)) k n (upd f j x) := by
  have h1 := Blk.set h j (dI x) (by simp [row, hj])
  have e : ((row n f).map dI).set j (dI x) = (row n (upd f j x)).map dI := by
    apply List.ext_getElem?
    intro i
    rw [List.getElem?_set]
    by_cases hi : i < n
    · by_cases hij : j = i
      · subst hij
        simp [row, upd, hj]
      · have : ¬ i = j := fun e => hij e.symm
        simp [row, upd, hi, hij, this]
    · have h2 : ¬ j = i := by omega
      simp [row, hi, h2]
  rw [e] at h1
  exact h1
theorem zero_of {t : TypeId} {v : Value} (h : (Try.prog.info? t).map (·.zero) = some (some v)) (w : World) : (zeroValue t).run Try.prog w = .ok v w := by
  cases hq : Try.prog.info? t with
  | none => simp [hq] at h
  | some d =>
    have hz : d.zero = some v := by simpa [hq] using h
    simp [zeroValue, typeInfo, hq, hz]
/-- So many noughts. -/
def z0 : Nat → Nat := fun _ => 0
end Go.Proofs.Ytepaapiflkkghaa.I
