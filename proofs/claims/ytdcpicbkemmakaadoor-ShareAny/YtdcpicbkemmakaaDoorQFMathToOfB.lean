/- Texts that were joined: FMath, FeMath, IB, UpV, UpV3, KnO, Oct, Bytes, ByN, OfB. -/
import Derived.Test.YtdcpicbkemmakaaDoorQPrimeToAdN
import Derived.Test.YtdcpicbkemmakaaDoorRows
import Derived.WalkKit
import Derived.WalkSpells
import Derived.WalkLawsBesides
import Derived.LoopN
import Derived.OwnWalk
import Derived.Laws.AppendOwn
import Derived.Laws.Rows
import Derived.Below
import Derived.Deep.MidRow
import Derived.BigQuiet
import Derived.Test.YtdcpicbkemmakaaDoorQUpAToUp3
import Derived.Test.YtdcpicbkemmakaaDoorQKnToDNum
import Derived.Test.YtdcpicbkemmakaaDoorQNumToDTimes
import Derived.Test.YtdcpicbkemmakaaDoorQEqToOf
/- Numbers modulo 2^255 - 19: inverses, roots, Euler's test. Mathematics alone. -/
namespace Go.Proofs.YtdcpicbkemmakaaDoor.F
open Go.Proofs.YtdcpicbkemmakaaDoor.P
/-- 2^255 - 19. -/
def p : Nat := 57896044618658097711785492504343953926634992332820282019728792003956564819949
theorem pr : Pr p := pr_25519
theorem p_pos : 0 < p := by decide
theorem mod_lt (n : Nat) : n % p < p := Nat.mod_lt _ p_pos
def add (a b : Nat) : Nat := (a + b) % p
def mul (a b : Nat) : Nat := a * b % p
def sub (a b : Nat) : Nat := (a + (p - b % p)) % p
theorem add_lt (a b : Nat) : add a b < p := mod_lt _
theorem mul_lt (a b : Nat) : mul a b < p := mod_lt _
theorem add_comm (a b : Nat) : add a b = add b a := by unfold add; rw [Nat.add_comm]
theorem mul_comm (a b : Nat) : mul a b = mul b a := by unfold mul; rw [Nat.mul_comm]
theorem add_assoc (a b c : Nat) : add (add a b) c = add a (add b c) := by unfold add; rw [Nat.mod_add_mod, Nat.add_mod_mod, Nat.add_assoc]
theorem mul_assoc (a b c : Nat) : mul (mul a b) c = mul a (mul b c) := by unfold mul; rw [Nat.mod_mul_mod, Nat.mul_mod_mod, Nat.mul_assoc]
theorem mul_add (a b c : Nat) : mul a (add b c) = add (mul a b) (mul a c) := by unfold mul add; rw [Nat.mul_mod_mod, Nat.mod_add_mod, Nat.add_mod_mod, Nat.mul_add]
theorem mul_one (a : Nat) : mul a 1 = a % p := by unfold mul; rw [Nat.mul_one]
theorem sub_self (a : Nat) : sub a a = 0 := by
  unfold sub
  have h := mod_lt a
  rw [← Nat.mod_add_mod, show a % p + (p - a % p) = p by omega, Nat.mod_self]
/-- Powers. -/
def pow (a n : Nat) : Nat := a ^ n % p
theorem pow_modl (a n : Nat) : pow (a % p) n = pow a n := by unfold pow; rw [← Nat.pow_mod]
theorem pow_mul (a b n : Nat) : pow (mul a b) n = mul (pow a n) (pow b n) := by
  unfold mul
  rw [pow_modl]
  unfold pow
  rw [Nat.mul_pow, Nat.mul_mod]
theorem pow_add (a m n : Nat) : pow a (m + n) = mul (pow a m) (pow a n) := by
  unfold pow mul
  rw [Nat.pow_add, Nat.mul_mod]
theorem pow_one (a : Nat) : pow a 1 = a % p := by unfold pow; rw [Nat.pow_one]
theorem fermat {a : Nat} (h : a % p ≠ 0) : pow a (p - 1) = 1 := P.fermat pr (fun hd => h ((Nat.dvd_iff_mod_eq_zero ..).1 hd))
/-- Euler's number of a: 0, 1 or p - 1. -/
def chi (a : Nat) : Nat := pow a ((p - 1) / 2)
/-- A root of -1. -/
def im : Nat := pow 2 ((p - 1) / 4)
/-- Is there a root? -/
def ok (a : Nat) : Bool := decide (chi a ≠ p - 1)
/-- One of the two, if there is one. -/
def cand (a : Nat) : Nat := if mul (pow a ((p + 3) / 8)) (pow a ((p + 3) / 8)) = a % p then pow a ((p + 3) / 8) else mul (pow a ((p + 3) / 8)) im
theorem four (a b c d : Nat) : mul (mul a b) (mul c d) = mul (mul a c) (mul b d) := by
  rw [mul_assoc, mul_assoc, ← mul_assoc b c d, mul_comm b c, mul_assoc c b d]
/-- The even one of r and -r. -/
def evn (r : Nat) : Nat := if r % 2 = 0 then r else p - r
/-- The even root; 0, if there is none. -/
def root (a : Nat) : Nat := if ok a = true then evn (cand a) else 0
end Go.Proofs.YtdcpicbkemmakaaDoor.F

/- Numbers modulo 2^255 - 19 as sixteen digits, as functions of their places: carries, borrows. Mathematics alone. -/
namespace Go.Proofs.YtdcpicbkemmakaaDoor.I
/-- The number of the first n digits. -/
def sm (f : Nat → Nat) : Nat → Nat
  | 0 => 0
  | n + 1 => sm f n + f n * 65536 ^ n
theorem sm_congr {f g : Nat → Nat} : ∀ n, (∀ i, i < n → f i = g i) → sm f n = sm g n
  | 0, _ => rfl
  | n + 1, h => by
    unfold sm
    rw [sm_congr n fun i hi => h i (by omega), h n (by omega)]
/-- What is carried behind j digits, and the digits that stay. -/
def car (f : Nat → Nat) (c : Nat) : Nat → Nat
  | 0 => c
  | j + 1 => (car f c j + f j) / 65536
def dig (f : Nat → Nat) (c j : Nat) : Nat := (car f c j + f j) % 65536
/-- One round of least. -/
def rnd (f : Nat → Nat) : Nat → Nat := fun i => if i < 16 then dig f (38 * f 16) i else car f (38 * f 16) 16
/-- The modulus' digits. -/
def mo (i : Nat) : Nat := if i = 0 then 65517 else if i = 15 then 32767 else 65535
/-- What is borrowed behind j digits, and the digits that stay. -/
def bor (f : Nat → Nat) : Nat → Nat
  | 0 => 0
  | j + 1 => if f j < mo j + bor f j then 1 else 0
def sd (f : Nat → Nat) (j : Nat) : Nat := f j + 65536 * bor f (j + 1) - mo j - bor f j
/-- Sums and differences, digit by digit. -/
def pl (a b : Nat → Nat) : Nat → Nat := fun i => if i < 16 then a i + b i else 0
/-- A product, digit by digit. -/
def upd (f : Nat → Nat) (j x : Nat) : Nat → Nat := fun i => if i = j then x else f i
def acc (a b : Nat → Nat) (i : Nat) (f : Nat → Nat) : Nat → (Nat → Nat)
  | 0 => f
  | k + 1 => upd (acc a b i f k) (i + k) (acc a b i f k (i + k) + a i * b k)
theorem sm_upd (f : Nat → Nat) (j x : Nat) : ∀ n, j < n → sm (upd f j (f j + x)) n = sm f n + x * 65536 ^ j
  | 0, h => absurd h (by omega)
  | n + 1, h => by
    unfold sm
    by_cases hj : j = n
    · subst hj
      rw [sm_congr (f := upd f j (f j + x)) (g := f) j fun i hi => by unfold upd; rw [if_neg (by omega)]]
      unfold upd
      rw [if_pos rfl, Nat.add_mul]
      omega
    · rw [sm_upd f j x n (by omega)]
      unfold upd
      rw [if_neg (fun e => hj e.symm)]
      omega
theorem acc_sum (a b f : Nat → Nat) {i : Nat} (hi : i < 16) : ∀ k, k ≤ 16 → sm (acc a b i f k) 32 = sm f 32 + a i * 65536 ^ i * sm b k
  | 0, _ => by unfold acc sm; omega
  | k + 1, h => by
    unfold acc
    rw [sm_upd _ _ _ 32 (by omega), acc_sum a b f hi k (by omega)]
    show _ = sm f 32 + a i * 65536 ^ i * (sm b k + b k * 65536 ^ k)
    rw [Nat.mul_add, Nat.pow_add, ← Nat.add_assoc]
    congr 1
    simp only [Nat.mul_assoc, Nat.mul_left_comm]
end Go.Proofs.YtdcpicbkemmakaaDoor.I

/- What a block of memory holds, whole or in ranges; what a store of a range does to it; rows of ints. (In a name space of its own: texts of numbers have other blocks.) -/
namespace Go.Proofs.YtdcpicbkemmakaaDoor.I
open Go.RowKit
/-- A number as an int. -/
abbrev dI (x : Nat) : Value := .int .i64 ((x : Nat) : Int)
/-- Block k holds these cells, and none of it is frozen. -/
structure Blk (w : World) (k : Nat) (vs : List Value) : Prop where
  lt : k < w.heap.size
  cell : ∀ j v, vs[j]? = some v → w.cell? ⟨k, j, none⟩ = some v
  fz : ∀ j, w.frozen? ⟨k, j, none⟩ = false
theorem Blk.up {W w1 : World} {k : Nat} {vs : List Value} {B : Nat} (h : Blk W k vs) (hb : Below B W w1) (hB : k < B) : Blk w1 k vs :=
  ⟨Nat.lt_of_lt_of_le h.lt hb.size, fun j v hv => (hb.cell (p := ⟨k, j, none⟩) hB).trans (h.cell j v hv), fun j => (hb.frozen (p := ⟨k, j, none⟩) hB).trans (h.fz j)⟩
theorem Blk.al {w : World} {vs : List Value} {t : TypeId} {C : Array Value} {k : Nat} (hk : k = w.heap.size) (hC : C.toList = vs) : Blk (w.alloc (.cells C t)) k vs := by
  subst hk hC
  have hb : (w.alloc (.cells C t)).heap[w.heap.size]? = some (.cells C t) := by show (w.heap.push _)[w.heap.size]? = _; simp
  refine ⟨by simp, fun j v hv => ?_, fun j => ?_⟩
  · rw [cell_of_row _ _ j C t _ hb]; simpa using hv
  · unfold World.frozen?
    rw [hb]
    simp
theorem Blk.range {w : World} {k : Nat} {a b c : List Value} (h : Blk w k (a ++ (b ++ c))) {o : Nat} (ho : o = a.length) : w.rangeAt k o b := by
  subst ho
  intro j v hv
  refine h.cell _ _ ?_
  have hj := (List.getElem?_eq_some_iff.1 hv).1
  rw [List.getElem?_append_right (by omega), show a.length + j - a.length = j by omega, List.getElem?_append_left hj, hv]
theorem Blk.all {w : World} {k : Nat} {a : List Value} (h : Blk w k a) : w.rangeAt k 0 a := fun j v hv => by
  rw [Nat.zero_add]; exact h.cell j v hv
theorem Blk.there {w : World} {k : Nat} {vs : List Value} (h : Blk w k vs) {o n : Nat} (hn : o + n ≤ vs.length) : w.there k o n := fun j hj => by
  refine ⟨?_, h.fz _⟩
  rw [h.cell (o + j) vs[o + j] (List.getElem?_eq_getElem (by omega))]
  rfl
theorem size_setCell (w : World) (a : Addr) (v : Value) : (w.setCell a v).heap.size = w.heap.size := by simp [World.setCell]
theorem size_setCells (k : Nat) : ∀ (vs : List Value) (o : Nat) (w : World), (w.setCells k o vs).heap.size = w.heap.size
  | [], _, _ => rfl
  | v :: vs, o, w => (size_setCells k vs (o + 1) _).trans (size_setCell w _ v)
theorem Blk.store {w : World} {k : Nat} {a b c b' : List Value} (h : Blk w k (a ++ (b ++ c))) {o : Nat} (ho : o = a.length) (hl : b'.length = b.length) : Blk (w.setCells k o b') k (a ++ (b' ++ c)) := by
  subst ho
  have ht := h.there (o := a.length) (n := b'.length) (by simp; omega)
  refine ⟨by rw [size_setCells]; exact h.lt, fun j v hv => ?_, fun j => by rw [World.frozen?_setCells]; exact h.fz j⟩
  rcases Nat.lt_or_ge j a.length with h1 | h1
  · rw [World.cell?_setCells_out k b' a.length w ⟨k, j, none⟩ (fun _ _ => Or.inl h1)]
    refine h.cell j v ?_
    rw [List.getElem?_append_left h1] at hv ⊢
    exact hv
  · rw [List.getElem?_append_right h1] at hv
    rcases Nat.lt_or_ge (j - a.length) b'.length with h2 | h2
    · rw [List.getElem?_append_left h2] at hv
      have := World.rangeAt_setCells_same w k a.length b' ht (j - a.length) v hv
      rwa [show a.length + (j - a.length) = j by omega] at this
    · rw [World.cell?_setCells_out k b' a.length w ⟨k, j, none⟩ (fun _ _ => Or.inr (by show a.length + b'.length ≤ j; omega))]
      refine h.cell j v ?_
      rw [List.getElem?_append_right h1, List.getElem?_append_right (by omega), ← hl]
      rw [List.getElem?_append_right h2] at hv
      exact hv
theorem Blk.set {w : World} {k : Nat} {vs : List Value} (h : Blk w k vs) (j : Nat) (v : Value) (hj : j < vs.length) : Blk (w.setCell ⟨k, j, none⟩ v) k (vs.set j v) := by
  have h0 : Blk w k (vs.take j ++ ([vs[j]] ++ vs.drop (j + 1))) := by
    have e : vs.take j ++ ([vs[j]] ++ vs.drop (j + 1)) = vs := by simp
    rw [e]; exact h
  have := h0.store (o := j) (b' := [v]) (by simp; omega) rfl
  rw [List.set_eq_take_append_cons_drop, if_pos hj]
  exact this
theorem Blk.apart {w : World} {k k' o : Nat} {vs b : List Value} (h : Blk w k vs) (hk : k ≠ k') : Blk (w.setCells k' o b) k vs :=
  ⟨by rw [size_setCells]; exact h.lt, fun j v hv => by
    rw [World.cell?_setCells_out k' b o w ⟨k, j, none⟩ (fun e _ => absurd e hk)]; exact h.cell j v hv, fun j => by rw [World.frozen?_setCells]; exact h.fz j⟩
theorem Blk.apart1 {w : World} {k k' o : Nat} {vs : List Value} {v : Value} (h : Blk w k vs) (hk : k ≠ k') : Blk (w.setCell ⟨k', o, none⟩ v) k vs := h.apart (b := [v]) hk
theorem below_setCells {B k : Nat} {a : World} : ∀ (vs : List Value) (o : Nat) (w : World), Below B a w → B ≤ k → Below B a (w.setCells k o vs)
  | [], _, _, h, _ => h
  | v :: vs, o, _, h, hk => below_setCells vs (o + 1) _ (h.setCell hk v) hk
/-- A row stored whole; the world behind it by an equation. -/
theorem wp_store_eq {P : Program} {ops : Array Oper} {rest : List Oper} {op : Oper} {a : Act} {w : World} {Q : Exit → Act → World → Prop} (hgd : op.guard = none) (ty : TypeId) (x y : Operand) (ho : op.op = .store ty x y)
    (b o : Nat) (cs : List Value) (hx : a.eval x = .pointer (some ⟨b, o, none⟩)) (hy : a.eval y = .agg cs.toArray)
    (ht : w.there b o cs.length) (hi : (P.info? ty).map (·.size) = some cs.length) (h1 : ∀ v ∈ cs, v.oneCell' = true)
    (h : ∀ w2, Hid (w2 = w.setCells b o cs) → wpList P ops Q rest (a.put op.dst undef) w2) : wpList P ops Q (op :: rest) a w :=
  wpList_store_mid hgd ty x y ho b o cs.toArray hx hy (by rw [List.size_toArray]; exact ht) (by rw [List.size_toArray]; exact hi) (all_oneCell_toArray h1) (h _ rfl)
theorem al1 (w : World) (C0 : Array Value) (t0 : TypeId) : Blk (w.alloc (.cells C0 t0)) w.heap.size C0.toList ∧ Below w.heap.size w (w.alloc (.cells C0 t0)) :=
  ⟨Blk.al rfl rfl, (Below.refl _ _).alloc (Nat.le_refl _) _⟩
theorem al2 (w : World) (C0 C1 : Array Value) (t0 t1 : TypeId) : Blk ((w.alloc (.cells C0 t0)).alloc (.cells C1 t1)) w.heap.size C0.toList ∧ Blk ((w.alloc (.cells C0 t0)).alloc (.cells C1 t1)) (w.heap.size + 1) C1.toList ∧ Below w.heap.size w ((w.alloc (.cells C0 t0)).alloc (.cells C1 t1)) := by
  obtain ⟨a0, a1⟩ := al1 w C0 t0
  obtain ⟨b0, b1⟩ := al1 (w.alloc (.cells C0 t0)) C1 t1
  rw [show (w.alloc (.cells C0 t0)).heap.size = w.heap.size + 1 by simp] at b0 b1
  exact ⟨a0.up b1 (by omega), b0, a1.trans (b1.mono (by omega))⟩
theorem al3 (w : World) (C0 C1 C2 : Array Value) (t0 t1 t2 : TypeId) : Blk (((w.alloc (.cells C0 t0)).alloc (.cells C1 t1)).alloc (.cells C2 t2)) w.heap.size C0.toList ∧ Blk (((w.alloc (.cells C0 t0)).alloc (.cells C1 t1)).alloc (.cells C2 t2)) (w.heap.size + 1) C1.toList ∧ Blk (((w.alloc (.cells C0 t0)).alloc (.cells C1 t1)).alloc (.cells C2 t2)) (w.heap.size + 1 + 1) C2.toList ∧ Below w.heap.size w (((w.alloc (.cells C0 t0)).alloc (.cells C1 t1)).alloc (.cells C2 t2)) := by
  obtain ⟨a0, a1, a2⟩ := al2 w C0 C1 t0 t1
  obtain ⟨b0, b1⟩ := al1 ((w.alloc (.cells C0 t0)).alloc (.cells C1 t1)) C2 t2
  rw [show ((w.alloc (.cells C0 t0)).alloc (.cells C1 t1)).heap.size = w.heap.size + 1 + 1 by simp] at b0 b1
  exact ⟨a0.up b1 (by omega), a1.up b1 (by omega), b0, a2.trans (b1.mono (by omega))⟩
/-- A row that was made and stored into whole. -/
theorem alst (w : World) (C : Array Value) (t : TypeId) (vs : List Value) (hC : vs.length = C.size) : Blk ((w.alloc (.cells C t)).setCells w.heap.size 0 vs) w.heap.size vs ∧ Below w.heap.size w ((w.alloc (.cells C t)).setCells w.heap.size 0 vs) := by
  obtain ⟨a0, a1⟩ := al1 w C t
  have h : Blk (w.alloc (.cells C t)) w.heap.size ([] ++ (C.toList ++ [])) := by simpa using a0
  have := h.store (o := 0) (b' := vs) rfl (by simpa using hC)
  exact ⟨by simpa using this, below_setCells _ _ _ a1 (Nat.le_refl _)⟩
/-- A row read whole in a quiet walk. -/
theorem quiet_load {P : Program} {ops : Array Oper} {C : World → Prop} {Q : Act → Prop} {o : Oper} {rest : List Oper} {a : Act} (hw : Region.wanted o (yielded ops a.tmps) = true) (ty : TypeId) (x : Operand) (ho : o.op = .load ty x)
    (b f : Nat) (hx : a.eval x = .pointer (some ⟨b, f, none⟩)) (cs : List Value) (d : TypeDesc) (hc : ∀ w, C w → w.rangeAt b f cs) (hu : P.underlying ty = some d) (hd : d.isRow = true) (hi : (P.info? ty).map (·.size) = some cs.length)
    (h : wpQuiet P ops C Q rest (a.put o.dst (.agg cs.toArray))) : wpQuiet P ops C Q (o :: rest) a := by
  refine BigFrame.wpQuiet_want hw fun K hK => ⟨.agg cs.toArray, fun w hw' => ?_, hK _ h⟩
  unfold Oper.quietAt
  have e : (execOp a.eval o).run P w = .ok (.value (.agg cs.toArray)) w := by
    unfold execOp
    simp only [ho, hx, Instr.loadAt, Instr.sureAddr, Sem.run_bind, Sem.run_pure, Result.andThen_ok, run_loadVar_mid w b f ty cs d (hc w hw') hu hd hi]
  rw [e]
  exact ⟨rfl, rfl⟩
theorem results_cell {P : Program} {fn : Func} {tmps : Array Value} {s : Tmp} {t : TypeId} {b : Nat} {cs : List Value} {d : TypeDesc} {W : World} (hr : fn.results = #[.cell s t]) (ht : tmps[s]?.getD undef = .pointer (some ⟨b, 0, none⟩)) (hc : W.rangeAt b 0 cs)
    (hu : P.underlying t = some d) (hd : d.isRow = true) (hi : (P.info? t).map (·.size) = some cs.length) : (results fn tmps).run P W = .ok (.agg cs.toArray) W := by
  have h1 := run_loadVar_mid (P := P) W b 0 t cs d hc hu hd hi
  simp [results, hr, ht, asAddr, h1]
theorem heap_setCell_at (w : World) (k o : Nat) (v : Value) (cs : List Value) (t : TypeId) (fz : Nat × Nat) (h : w.heap[k]? = some (.cells cs.toArray t fz)) : (w.setCell ⟨k, o, none⟩ v).heap[k]? = some (.cells (cs.set o v).toArray t fz) := by
  have hlt := (Array.getElem?_eq_some_iff.1 h).1
  have e : (w.setCell ⟨k, o, none⟩ v).heap = w.heap.modify k fun | .cells c elem frozen => .cells (if (⟨k, o, none⟩ : Addr).spot.isSome then c else c.setIfInBounds o v) elem frozen | o => o := rfl
  rw [e, Array.getElem?_modify, h]
  simp
theorem heap_setCells_at (k : Nat) (t : TypeId) (fz : Nat × Nat) : ∀ (vs a b c : List Value) (w : World), w.heap[k]? = some (.cells (a ++ (b ++ c)).toArray t fz) → b.length = vs.length → (w.setCells k a.length vs).heap[k]? = some (.cells (a ++ (vs ++ c)).toArray t fz)
  | [], a, b, c, w, h, hb => by
    rw [List.length_eq_zero_iff.1 hb] at h
    exact h
  | v :: vs, a, y :: b, c, w, h, hb => by
    have h1 := heap_setCell_at w k a.length v _ t fz h
    rw [List.set_append_right _ _ (Nat.le_refl _), Nat.sub_self, List.cons_append, List.set_cons_zero, show a ++ v :: (b ++ c) = (a ++ [v]) ++ (b ++ c) by simp] at h1
    have h2 := heap_setCells_at k t fz vs (a ++ [v]) b c _ h1 (by simpa using hb)
    rw [List.length_append, List.length_singleton] at h2
    rw [show a ++ (v :: vs ++ c) = (a ++ [v]) ++ (vs ++ c) by simp]
    exact h2
  | v :: vs, a, [], c, w, h, hb => by simp at hb
theorem heap_setCells_off (k j : Nat) (hj : j ≠ k) : ∀ (vs : List Value) (o : Nat) (w : World), (w.setCells k o vs).heap[j]? = w.heap[j]?
  | [], _, _ => rfl
  | v :: vs, o, w => (heap_setCells_off k j hj vs (o + 1) (w.setCell ⟨k, o, none⟩ v)).trans (Below.heap_setCell w ⟨k, o, none⟩ v j hj)
theorem Blk.put {w : World} {k : Nat} {vs us : List Value} (h : Blk w k vs) (hl : us.length = vs.length) : Blk (w.setCells k 0 us) k us := by
  have h1 : Blk w k ([] ++ (vs ++ [])) := by simpa using h
  have h2 := h1.store (o := 0) (b' := us) rfl (by omega)
  rw [List.nil_append, List.append_nil] at h2
  exact h2
/-- n ints in block k: the function of their places. -/
def row (n : Nat) (f : Nat → Nat) : List Nat := (List.range n).map f
theorem row_length (n : Nat) (f : Nat → Nat) : (row n f).length = n := by simp [row]
theorem row_congr {n : Nat} {f g : Nat → Nat} (h : ∀ i, i < n → f i = g i) : row n f = row n g := by
  unfold row
  exact List.map_congr_left fun i hi => h i (List.mem_range.1 hi)
abbrev Ar (w : World) (k n : Nat) (f : Nat → Nat) : Prop := Blk w k ((row n f).map dI)
theorem Ar.congr {w : World} {k n : Nat} {f g : Nat → Nat} (h : Ar w k n f) (e : ∀ i, i < n → f i = g i) : Ar w k n g := by
  unfold Ar
  rw [← row_congr e]
  exact h
theorem Ar.at {w : World} {k n : Nat} {f : Nat → Nat} (h : Ar w k n f) {j : Nat} (hj : j < n) : w.cell? ⟨k, j, none⟩ = some (dI (f j)) :=
  h.cell j _ (by simp [row, hj])
theorem Ar.set {w : World} {k n : Nat} {f : Nat → Nat} (h : Ar w k n f) {j : Nat} (hj : j < n) (x : Nat) : Ar (w.setCell ⟨k, j, none⟩ (dI x)) k n (upd f j x) := by
  have h1 := Blk.set h j (dI x) (by simp [row, hj])
  have e : ((row n f).map dI).set j (dI x) = (row n (upd f j x)).map dI := by
    apply List.ext_getElem?
    intro i
    rw [List.getElem?_set]
    by_cases hi : i < n
    · by_cases hij : j = i
      · subst hij
        simp [row, upd, hj]
      · have : ¬ i = j := fun e => hij e.symm
        simp [row, upd, hi, hij, this]
    · have h2 : ¬ j = i := by omega
      simp [row, hi, h2]
  rw [e] at h1
  exact h1
theorem zero_of {t : TypeId} {v : Value} (h : (Tryd.prog.info? t).map (·.zero) = some (some v)) (w : World) : (zeroValue t).run Tryd.prog w = .ok v w := by
  cases hq : Tryd.prog.info? t with
  | none => simp [hq] at h
  | some d =>
    have hz : d.zero = some v := by simpa [hq] using h
    simp [zeroValue, typeInfo, hq, hz]
/-- So many noughts. -/
def z0 : Nat → Nat := fun _ => 0
end Go.Proofs.YtdcpicbkemmakaaDoor.I

/- A region that draws its order of evaluation, makes variables and stores into them as soon as it may, ahead of readings that don't touch them: one walk of the readings and calls serves every order. Over any program. -/
namespace Go.Proofs.YtdcpicbkemmakaaDoor
open Go.RowKit
section
variable {P : Program} {ops ops1 : Array Oper} {md : Region.Mode}
theorem CD.bare {w0 w : World} {ob ob' : Nat → Obj} {D : List (Nat × Nat)} (h : CD w0 ob D w) : CD w0 ob' [] w := ⟨h.1, by simp, by simp⟩
/-- In each class of worlds the rest of the walk goes through, whatever lies in the variables. -/
def AllC (P : Program) (md : Region.Mode) (ops1 : Array Oper) (w0 : World) (aF : Act) (fuel : Nat) (listed1 : Array Bool) (a : Act) : Prop :=
  ∀ ct D, (∃ w, CD w0 ct D w) → wpAnyQ P md ops1 (CD w0 ct D) (fun a' => a' = aF) fuel listed1 a
def ct0 : Nat → Obj := fun _ => .cells #[] 0
theorem base0 (w0 : World) : CD w0 ct0 [] w0 := ⟨Below.refl _ _, by simp, by simp⟩
theorem AllC.step {w0 : World} {aF a : Act} {fuel i : Nat} {listed1 : Array Bool} {o : Oper} (h : AllC P md ops1 w0 aF (fuel + 1) listed1 a) (hi : i ∈ Region.ready md ops1 listed1) (ho : ops1[i]? = some o) :
    ∃ v, (∀ ct D, (∃ w, CD w0 ct D w) → YieldsIn P ops1 (CD w0 ct D) o v a) ∧ AllC P md ops1 w0 aF fuel (listed1.setIfInBounds i true) (a.put o.dst v) := by
  obtain ⟨v, hy, _⟩ := yieldsIn_of_qOp ho ((h ct0 [] ⟨w0, base0 w0⟩).2 i hi)
  have all : ∀ ct D, (∃ w, CD w0 ct D w) → YieldsIn P ops1 (CD w0 ct D) o v a ∧ wpAnyQ P md ops1 (CD w0 ct D) (fun a' => a' = aF) fuel (listed1.setIfInBounds i true) (a.put o.dst v) := by
    rintro ct D ⟨w, hw⟩
    obtain ⟨v', hy', hK⟩ := yieldsIn_of_qOp ho ((h ct D ⟨w, hw⟩).2 i hi)
    have e : v = v' := yields_unique (C := CD w0 ct0 []) (C' := CD w0 ct D) hw.bare hw hy hy'
    subst e
    exact ⟨hy', hK⟩
  exact ⟨v, fun ct D hD => (all ct D hD).1, fun ct D hD => (all ct D hD).2⟩
structure AtV (m1 m2 d n : Nat) (listed1 listed : Array Bool) (E U : List Nat) (D : List (Nat × Nat)) : Prop where
  size1 : listed1.size = m1
  size : listed.size = n
  same : ∀ i, i < m1 → listed[i]? = listed1[i]?
  mid : ∀ i, m1 ≤ i → i < m2 → listed[i]? = some (decide (i ∉ E))
  late : ∀ i, m1 ≤ i → i < m2 → listed[i + d]? = some (decide (i ∉ U))
  inE : ∀ i ∈ E, m1 ≤ i ∧ i < m2
  nodE : E.Nodup
  inU : ∀ i ∈ U, m1 ≤ i ∧ i < m2
  nodU : U.Nodup
  EU : ∀ i ∈ E, i ∈ U
  inD : ∀ p ∈ D, m1 ≤ p.1 ∧ p.1 < m2 ∧ p.1 ∉ E
  nodD : (D.map (·.1)).Nodup
  all : ∀ i, m1 ≤ i → i < m2 → i ∈ E ∨ ∃ k, (i, k) ∈ D
theorem AtV.set {m1 m2 d n i : Nat} {listed1 listed : Array Bool} {E U : List Nat} {D : List (Nat × Nat)} (hn : m2 + d = n) (h12 : m1 + d = m2) (h : AtV m1 m2 d n listed1 listed E U D) (hi : i < m1) : AtV m1 m2 d n (listed1.setIfInBounds i true) (listed.setIfInBounds i true) E U D := by
  refine ⟨by simp [h.size1], by simp [h.size], fun j hj => ?_, fun j hj hm => ?_, fun j hj hm => ?_, h.inE, h.nodE, h.inU, h.nodU, h.EU, h.inD, h.nodD, h.all⟩
  · rw [Array.getElem?_setIfInBounds, Array.getElem?_setIfInBounds, h.same j hj, h.size, h.size1]
    by_cases hij : i = j
    · subst hij; simp [hi, show i < n by omega]
    · simp [hij]
  · rw [Array.getElem?_setIfInBounds, if_neg (by omega)]; exact h.mid j hj hm
  · rw [Array.getElem?_setIfInBounds, if_neg (by omega)]; exact h.late j hj hm
theorem AtV.make {m1 m2 d n i k : Nat} {listed1 listed : Array Bool} {E U : List Nat} {D : List (Nat × Nat)} (hn : m2 + d = n) (h12 : m1 + d = m2) (h : AtV m1 m2 d n listed1 listed E U D) (hi : i ∈ E) : AtV m1 m2 d n listed1 (listed.setIfInBounds i true) (E.erase i) U ((i, k) :: D) := by
  have hb := h.inE i hi
  refine ⟨h.size1, by simp [h.size], fun j hj => ?_, fun j hj hm => ?_, fun j hj hm => ?_, fun j hj => h.inE j (List.mem_of_mem_erase hj), h.nodE.erase i, h.inU, h.nodU, fun j hj => h.EU j (List.mem_of_mem_erase hj), fun p hp => ?_, ?_, fun j hj hm => ?_⟩
  · rw [Array.getElem?_setIfInBounds, if_neg (by omega)]; exact h.same j hj
  · by_cases hij : i = j
    · subst hij
      have : i ∉ E.erase i := fun hm => (List.Nodup.mem_erase_iff h.nodE).1 hm |>.1 rfl
      simp [this, h.size, show i < n by omega]
    · rw [Array.getElem?_setIfInBounds, if_neg hij, h.mid j hj hm]
      simp [List.mem_erase_of_ne (Ne.symm hij)]
  · rw [Array.getElem?_setIfInBounds, if_neg (by omega)]; exact h.late j hj hm
  · rcases List.mem_cons.1 hp with rfl | hp
    · exact ⟨hb.1, hb.2, fun hm => (List.Nodup.mem_erase_iff h.nodE).1 hm |>.1 rfl⟩
    · have q := h.inD p hp
      exact ⟨q.1, q.2.1, fun hm => q.2.2 (List.mem_of_mem_erase hm)⟩
  · refine List.nodup_cons.2 ⟨fun hm => ?_, h.nodD⟩
    obtain ⟨p, hp, he⟩ := List.mem_map.1 hm
    have := (h.inD p hp).2.2
    simp only at he
    rw [he] at this
    exact this hi
  · by_cases hij : i = j
    · subst hij; exact .inr ⟨k, by simp⟩
    · rcases h.all j hj hm with h1 | ⟨k', h1⟩
      · exact .inl ((List.mem_erase_of_ne (Ne.symm hij)).2 h1)
      · exact .inr ⟨k', by simp [h1]⟩
theorem AtV.store {m1 m2 d n i : Nat} {listed1 listed : Array Bool} {E U : List Nat} {D : List (Nat × Nat)} (hn : m2 + d = n) (h12 : m1 + d = m2) (h : AtV m1 m2 d n listed1 listed E U D) (hi : i ∈ U) (hE : E = []) : AtV m1 m2 d n listed1 (listed.setIfInBounds (i + d) true) E (U.erase i) D := by
  have hb := h.inU i hi
  subst hE
  refine ⟨h.size1, by simp [h.size], fun j hj => ?_, fun j hj hm => ?_, fun j hj hm => ?_, h.inE, h.nodE, fun j hj => h.inU j (List.mem_of_mem_erase hj), h.nodU.erase i, fun j hj => absurd hj (by simp), h.inD, h.nodD, h.all⟩
  · rw [Array.getElem?_setIfInBounds, if_neg (by omega)]; exact h.same j hj
  · rw [Array.getElem?_setIfInBounds, if_neg (by omega)]; exact h.mid j hj hm
  · by_cases hij : i = j
    · subst hij
      have : i ∉ U.erase i := fun hm => (List.Nodup.mem_erase_iff h.nodU).1 hm |>.1 rfl
      simp [this, h.size, show i + d < n by omega]
    · rw [Array.getElem?_setIfInBounds, if_neg (by omega), h.late j hj hm]
      simp [List.mem_erase_of_ne (Ne.symm hij)]
end
end Go.Proofs.YtdcpicbkemmakaaDoor

/- A drawn region that makes three variables and stores into them, each as soon as it may. Over any program. -/
namespace Go.Proofs.YtdcpicbkemmakaaDoor
open Go.RowKit
section
variable {P : Program}
theorem Kn.three {W w1 : World} {L : List (Nat × List Value)} {k1 k2 k3 : Nat} {v1 v2 v3 : List Value} {t1 t2 t3 : TypeId} (h : Kn W L) (hb : Below W.heap.size W w1) (g1 : W.heap.size ≤ k1) (g2 : W.heap.size ≤ k2) (g3 : W.heap.size ≤ k3) (hn : k1 ≠ k2 ∧ k1 ≠ k3 ∧ k2 ≠ k3) (c1 : w1.heap[k1]? = some (.cells v1.toArray t1)) (c2 : w1.heap[k2]? = some (.cells v2.toArray t2)) (c3 : w1.heap[k3]? = some (.cells v3.toArray t3)) : Kn w1 ((k1, v1) :: (k2, v2) :: (k3, v3) :: L) := by
  have h1 := h.two hb g2 g3 hn.2.2 c2 c3
  refine ⟨?_, fun p hp => ?_⟩
  · rw [List.map_cons, List.nodup_cons]
    refine ⟨fun hm => ?_, h1.nd⟩
    rcases List.mem_cons.1 hm with e | hm
    · exact hn.1 e
    · rcases List.mem_cons.1 hm with e | hm
      · exact hn.2.1 e
      · obtain ⟨p, hp, e⟩ := List.mem_map.1 hm
        have := (h.all p hp).lt
        omega
  · rcases List.mem_cons.1 hp with rfl | hp
    · exact KBlk.of c1
    · exact h1.all p hp
end
end Go.Proofs.YtdcpicbkemmakaaDoor

/- Rows that are never opened, among the known blocks: thirty-two bytes, numbers modulo P, fractions. -/
namespace Go.Proofs.YtdcpicbkemmakaaDoor
open Go.RowKit
set_option linter.unusedSimpArgs false
/-- The bytes of a number, the least first. -/
def bR (n : Nat) : List Value := (List.range 32).map fun i => .int .u8 ((n / 256 ^ i % 256 : Nat) : Int)
theorem bR_length (n : Nat) : (bR n).length = 32 := by simp [bR]
def bZ : List Value := List.replicate 32 (.int .u8 0)
theorem Kn.rng {w : World} {L : List (Nat × List Value)} (h : Kn w L) (i : Nat) {k : Nat} {vs : List Value} (hp : L[i]? = some (k, vs)) : w.rangeAt k 0 vs := fun j v hv => by
  rw [Nat.zero_add]
  exact (h.all _ (List.mem_of_getElem? hp)).cell j v hv
theorem Kn.there {w : World} {L : List (Nat × List Value)} (h : Kn w L) (i : Nat) {k : Nat} {vs us : List Value} (hp : L[i]? = some (k, vs)) (hl : us.length = vs.length) : w.there k 0 us.length := fun j hj => by
  have hb := h.all _ (List.mem_of_getElem? hp)
  rw [Nat.zero_add]
  refine ⟨?_, hb.fz _⟩
  have hj' : j < vs.length := by omega
  rw [hb.cell j vs[j] (List.getElem?_eq_getElem hj')]
  rfl
theorem Kn.put {w : World} {L : List (Nat × List Value)} {k : Nat} {vs us : List Value} (h : Kn w ((k, vs) :: L)) (hl : us.length = vs.length) : Kn (w.setCells k 0 us) ((k, us) :: L) := by
  have ht := h.there 0 rfl hl
  refine ⟨h.nd, fun p hp => ?_⟩
  rcases List.mem_cons.1 hp with rfl | hp
  · refine ⟨by rw [I.size_setCells]; exact (h.all _ List.mem_cons_self).lt, fun j v hv => ?_, fun j => by rw [World.frozen?_setCells]; exact (h.all _ List.mem_cons_self).fz j⟩
    have := World.rangeAt_setCells_same w k 0 us ht j v hv
    rwa [Nat.zero_add] at this
  · have hb := h.all p (List.mem_cons_of_mem _ hp)
    have hk : p.1 ≠ k := fun e => by
      have := (List.nodup_cons.1 h.nd).1
      exact this (List.mem_map.2 ⟨p, hp, e⟩)
    exact ⟨by rw [I.size_setCells]; exact hb.lt, fun j v hv => by rw [World.cell?_setCells_out k us 0 w ⟨p.1, j, none⟩ (fun e _ => absurd e hk)]; exact hb.cell j v hv, fun j => by rw [World.frozen?_setCells]; exact hb.fz j⟩
/-- A row read whole, behind a guard too. -/
theorem wp_ldW {P : Program} {ops : Array Oper} {rest : List Oper} {o : Oper} {a : Act} {w : World} {Q : Exit → Act → World → Prop} (hgd : Region.wanted o (yielded ops a.tmps) = true) (ty : TypeId) (x : Operand) (ho : o.op = .load ty x)
    (b f : Nat) (hx : a.eval x = .pointer (some ⟨b, f, none⟩)) (cs : List Value) (d : TypeDesc) (hc : w.rangeAt b f cs) (hu : P.underlying ty = some d) (hd : d.isRow = true) (hi : (P.info? ty).map (·.size) = some cs.length)
    (h : wpList P ops Q rest (a.put o.dst (.agg cs.toArray)) w) : wpList P ops Q (o :: rest) a w :=
  wpList_step fun K hK => by simp only [hgd, if_true]; exact wp_load_mid ty x ho b f hx cs d hc hu hd hi (hK _ _ h)
end Go.Proofs.YtdcpicbkemmakaaDoor

/- Eight bytes as a word, the least first: no program in sight. -/
namespace Go.Proofs.YtdcpicbkemmakaaDoor
open Go.RowKit

structure Oct where
  a : Int
  b : Int
  c : Int
  d : Int
  e : Int
  f : Int
  g : Int
  i : Int
def Byte (x : Int) : Prop := 0 ≤ x ∧ x < 256
structure Oct.ok (p : Oct) : Prop where
  a : Byte p.a
  b : Byte p.b
  c : Byte p.c
  d : Byte p.d
  e : Byte p.e
  f : Byte p.f
  g : Byte p.g
  i : Byte p.i
def Oct.val (p : Oct) : Int := p.a + 256 * p.b + 65536 * p.c + 16777216 * p.d + 4294967296 * p.e + 1099511627776 * p.f + 281474976710656 * p.g + 72057594037927936 * p.i
def Oct.of (n : Int) : Oct := ⟨n % 256, n / 256 % 256, n / 65536 % 256, n / 16777216 % 256, n / 4294967296 % 256, n / 1099511627776 % 256, n / 281474976710656 % 256, n / 72057594037927936 % 256⟩
theorem Oct.of_ok (n : Int) : (Oct.of n).ok := by
  refine ⟨⟨?_, ?_⟩, ⟨?_, ?_⟩, ⟨?_, ?_⟩, ⟨?_, ?_⟩, ⟨?_, ?_⟩, ⟨?_, ?_⟩, ⟨?_, ?_⟩, ⟨?_, ?_⟩⟩ <;> simp only [Oct.of] <;> omega
theorem Oct.of_val {n : Int} (h : Word n) : (Oct.of n).val = n := by
  obtain ⟨h0, h1⟩ := h
  simp only [Oct.of, Oct.val]
  omega
end Go.Proofs.YtdcpicbkemmakaaDoor

/- The contract of limb.Bytes: the bytes of a number, the least first. -/
namespace Go.Proofs.YtdcpicbkemmakaaDoor
open Go.RowKit

/-- Byte j of a number. -/
def byteAt (x : Nm) (j : Nat) : Int := x.get (j / 8) / 2 ^ (j % 8 * 8) % 256

/-- The bytes of a number. -/
def bytesOf (x : Nm) : List Int := (List.range 32).map (byteAt x)
end Go.Proofs.YtdcpicbkemmakaaDoor

/- Thirty-two bytes and their number; limb.Bytes by a number. -/
namespace Go.Proofs.YtdcpicbkemmakaaDoor
open Go.RowKit
set_option linter.unusedSimpArgs false
end Go.Proofs.YtdcpicbkemmakaaDoor

/- limb.Of and limb.Bytes of one number, told by that number. -/
namespace Go.Proofs.YtdcpicbkemmakaaDoor
open Go.RowKit
set_option linter.unusedSimpArgs false
end Go.Proofs.YtdcpicbkemmakaaDoor
