/- Texts that were joined: FMath, FeMath, IB. -/
import Derived.Test.YtfknkfninjjgbabDoorQMulWToAdN
import Derived.Test.YtfknkfninjjgbabDoorRows
import Derived.WalkKit
import Derived.WalkSpells
import Derived.WalkLawsBesides
import Derived.LoopN
import Derived.OwnWalk
import Derived.Laws.AppendOwn
import Derived.Laws.Rows
import Derived.Below
import Derived.Deep.MidRow
import Derived.BigQuiet
/- Numbers modulo 2^255 - 19: inverses, roots, Euler's test. Mathematics alone. -/
namespace Go.Proofs.YtfknkfninjjgbabDoor.F
open Go.Proofs.YtfknkfninjjgbabDoor.P
/-- 2^255 - 19. -/
def p : Nat := 57896044618658097711785492504343953926634992332820282019728792003956564819949
theorem pr : Pr p := pr_25519
theorem p_pos : 0 < p := by decide
theorem p_lt : p < 2 ^ 256 := by decide
theorem mod_lt (n : Nat) : n % p < p := Nat.mod_lt _ p_pos
def add (a b : Nat) : Nat := (a + b) % p
def mul (a b : Nat) : Nat := a * b % p
def sub (a b : Nat) : Nat := (a + (p - b % p)) % p
theorem add_lt (a b : Nat) : add a b < p := mod_lt _
theorem mul_lt (a b : Nat) : mul a b < p := mod_lt _
theorem sub_lt (a b : Nat) : sub a b < p := mod_lt _
theorem add_comm (a b : Nat) : add a b = add b a := by unfold add; rw [Nat.add_comm]
theorem mul_comm (a b : Nat) : mul a b = mul b a := by unfold mul; rw [Nat.mul_comm]
theorem mul_modl (a b : Nat) : mul (a % p) b = mul a b := by unfold mul; rw [Nat.mod_mul_mod]
theorem mul_modr (a b : Nat) : mul a (b % p) = mul a b := by unfold mul; rw [Nat.mul_mod_mod]
theorem add_assoc (a b c : Nat) : add (add a b) c = add a (add b c) := by unfold add; rw [Nat.mod_add_mod, Nat.add_mod_mod, Nat.add_assoc]
theorem mul_assoc (a b c : Nat) : mul (mul a b) c = mul a (mul b c) := by unfold mul; rw [Nat.mod_mul_mod, Nat.mul_mod_mod, Nat.mul_assoc]
theorem mul_add (a b c : Nat) : mul a (add b c) = add (mul a b) (mul a c) := by unfold mul add; rw [Nat.mul_mod_mod, Nat.mod_add_mod, Nat.add_mod_mod, Nat.mul_add]
theorem mul_one (a : Nat) : mul a 1 = a % p := by unfold mul; rw [Nat.mul_one]
theorem sub_add (a b : Nat) : add (sub a b) b = a % p := by
  unfold add sub
  have h := mod_lt b
  rw [Nat.mod_add_mod, ← Nat.add_mod_mod, Nat.add_assoc, Nat.sub_add_cancel (Nat.le_of_lt h), Nat.add_mod_right]
theorem sub_self (a : Nat) : sub a a = 0 := by
  unfold sub
  have h := mod_lt a
  rw [← Nat.mod_add_mod, show a % p + (p - a % p) = p by omega, Nat.mod_self]
/-- Of two that are not 0 the product is not 0. -/
theorem mul_zero_iff (a b : Nat) : mul a b = 0 ↔ a % p = 0 ∨ b % p = 0 := by
  unfold mul
  rw [← Nat.dvd_iff_mod_eq_zero, ← Nat.dvd_iff_mod_eq_zero, ← Nat.dvd_iff_mod_eq_zero]
  refine ⟨fun h => pr.euclid h, fun h => ?_⟩
  rcases h with h | h
  · exact Nat.dvd_trans h (Nat.dvd_mul_right _ _)
  · exact Nat.dvd_trans h (Nat.dvd_mul_left _ _)
/-- Powers. -/
def pow (a n : Nat) : Nat := a ^ n % p
theorem pow_lt (a n : Nat) : pow a n < p := mod_lt _
theorem pow_modl (a n : Nat) : pow (a % p) n = pow a n := by unfold pow; rw [← Nat.pow_mod]
theorem pow_mul (a b n : Nat) : pow (mul a b) n = mul (pow a n) (pow b n) := by
  unfold mul
  rw [pow_modl]
  unfold pow
  rw [Nat.mul_pow, Nat.mul_mod]
theorem pow_add (a m n : Nat) : pow a (m + n) = mul (pow a m) (pow a n) := by
  unfold pow mul
  rw [Nat.pow_add, Nat.mul_mod]
theorem pow_pow (a m n : Nat) : pow (pow a m) n = pow a (m * n) := by
  show pow (a ^ m % p) n = _
  rw [pow_modl]
  unfold pow
  rw [Nat.pow_mul]
theorem pow_one (a : Nat) : pow a 1 = a % p := by unfold pow; rw [Nat.pow_one]
theorem fermat {a : Nat} (h : a % p ≠ 0) : pow a (p - 1) = 1 := P.fermat pr (fun hd => h ((Nat.dvd_iff_mod_eq_zero ..).1 hd))
theorem pow_zero' {a n : Nat} (h : a % p = 0) (hn : 0 < n) : pow a n = 0 := by
  rw [← pow_modl, h]
  unfold pow
  rw [Nat.zero_pow hn]
  rfl
/-- One over a; 0 of 0. -/
def inv (a : Nat) : Nat := pow a (p - 2)
theorem inv_lt (a : Nat) : inv a < p := pow_lt _ _
theorem mul_inv {a : Nat} (h : a % p ≠ 0) : mul a (inv a) = 1 := by
  rw [← mul_modl]
  unfold inv
  rw [← pow_one, ← pow_add, show 1 + (p - 2) = p - 1 by decide]
  exact fermat h
/-- Euler's number of a: 0, 1 or p - 1. -/
def chi (a : Nat) : Nat := pow a ((p - 1) / 2)
theorem chi_modl (a : Nat) : chi (a % p) = chi a := pow_modl _ _
theorem chi_mul (a b : Nat) : chi (mul a b) = mul (chi a) (chi b) := pow_mul _ _ _
theorem chi_zero {a : Nat} (h : a % p = 0) : chi a = 0 := pow_zero' h (by decide)
theorem sq_one {x : Nat} (hx : x < p) (h : mul x x = 1) : x = 1 ∨ x = p - 1 := by
  have h1 : mul (x + (p - 1)) (x + 1) = 0 := by
    unfold mul at *
    have e : (x + (p - 1)) * (x + 1) + 1 = x * x + p * (x + 1) := by
      have hp : p = (p - 1) + 1 := by decide
      generalize p - 1 = q at *
      rw [hp]
      simp only [Nat.mul_add, Nat.add_mul, Nat.mul_one, Nat.one_mul]
      omega
    have e2 : ((x + (p - 1)) * (x + 1) + 1) % p = 1 % p := by
      rw [e, Nat.add_mul_mod_self_left, h]
      rfl
    have hlt := mod_lt ((x + (p - 1)) * (x + 1))
    rw [← Nat.mod_add_mod] at e2
    generalize (x + (p - 1)) * (x + 1) % p = y at *
    rcases Nat.lt_or_ge (y + 1) p with hy | hy
    · rw [Nat.mod_eq_of_lt hy] at e2
      have : 1 % p = 1 := rfl
      omega
    · have hy' : y + 1 = p := by omega
      rw [hy', Nat.mod_self] at e2
      exact absurd e2 (by decide)
  rcases (mul_zero_iff _ _).1 h1 with h2 | h2
  · left
    have hp : 1 < p := by decide
    rcases Nat.lt_or_ge x 1 with h3 | h3
    · have : x = 0 := by omega
      subst this
      rw [Nat.zero_add, Nat.mod_eq_of_lt (by omega)] at h2
      omega
    · rw [show x + (p - 1) = (x - 1) + p by omega, Nat.add_mod_right, Nat.mod_eq_of_lt (by omega)] at h2
      omega
  · right
    rcases Nat.lt_or_ge (x + 1) p with h3 | h3
    · rw [Nat.mod_eq_of_lt h3] at h2
      omega
    · omega
theorem chi_sq {a : Nat} (h : a % p ≠ 0) : mul (chi a) (chi a) = 1 := by
  unfold chi
  rw [← pow_add, show (p - 1) / 2 + (p - 1) / 2 = p - 1 by decide]
  exact fermat h
theorem chi_one {a : Nat} (h : a % p ≠ 0) : chi a = 1 ∨ chi a = p - 1 := sq_one (pow_lt _ _) (chi_sq h)
theorem chi_pw (a : Nat) : chi a = pw p 256 a ((p - 1) / 2) := (pw_eq p 256 a ((p - 1) / 2) (by decide)).symm
theorem chi_two : chi 2 = p - 1 := (chi_pw 2).trans (by decide +kernel)
/-- A root of -1. -/
def im : Nat := pow 2 ((p - 1) / 4)
theorem im_sq : mul im im = p - 1 := by
  unfold im
  rw [← pow_add, show (p - 1) / 4 + (p - 1) / 4 = (p - 1) / 2 by decide]
  exact chi_two
/-- Is there a root? -/
def ok (a : Nat) : Bool := decide (chi a ≠ p - 1)
/-- One of the two, if there is one. -/
def cand (a : Nat) : Nat := if mul (pow a ((p + 3) / 8)) (pow a ((p + 3) / 8)) = a % p then pow a ((p + 3) / 8) else mul (pow a ((p + 3) / 8)) im
theorem cand_lt (a : Nat) : cand a < p := by
  unfold cand
  split
  · exact pow_lt _ _
  · exact mul_lt _ _
theorem neg_sq (x : Nat) : mul (p - 1) (p - 1) = 1 ∧ mul (mul x (p - 1)) (p - 1) = x % p := by
  have h : mul (p - 1) (p - 1) = 1 := by decide +kernel
  exact ⟨h, by rw [mul_assoc, h, mul_one]⟩
theorem four (a b c d : Nat) : mul (mul a b) (mul c d) = mul (mul a c) (mul b d) := by
  rw [mul_assoc, mul_assoc, ← mul_assoc b c d, mul_comm b c, mul_assoc c b d]
theorem cand_sq {a : Nat} (h : ok a = true) : mul (cand a) (cand a) = a % p := by
  have h' : chi a ≠ p - 1 := of_decide_eq_true h
  by_cases h0 : a % p = 0
  · unfold cand
    rw [pow_zero' h0 (by decide)]
    rw [if_pos (by rw [h0]; rfl), h0]
    rfl
  have h1 : chi a = 1 := (chi_one h0).resolve_right h'
  have hq : mul (pow a ((p - 1) / 4)) (pow a ((p - 1) / 4)) = 1 := by
    rw [← pow_add, show (p - 1) / 4 + (p - 1) / 4 = (p - 1) / 2 by decide]
    exact h1
  have hr : mul (pow a ((p + 3) / 8)) (pow a ((p + 3) / 8)) = mul a (pow a ((p - 1) / 4)) := by
    rw [← pow_add, show (p + 3) / 8 + (p + 3) / 8 = 1 + (p - 1) / 4 by decide, pow_add, pow_one, mul_modl]
  unfold cand
  split
  · assumption
  · rename_i hne
    rcases sq_one (pow_lt _ _) hq with e | e
    · exact absurd (by rw [hr, e, mul_one]) hne
    · rw [four, hr, im_sq, e]
      exact (neg_sq a).2
theorem ok_iff (a : Nat) : ok a = true ↔ ∃ r, mul r r = a % p := by
  refine ⟨fun h => ⟨_, cand_sq h⟩, fun ⟨r, hr⟩ => ?_⟩
  refine decide_eq_true fun hc => ?_
  by_cases h0 : r % p = 0
  · have : a % p = 0 := by rw [← hr]; exact (mul_zero_iff r r).2 (.inl h0)
    rw [chi_zero this] at hc
    exact absurd hc (by decide)
  · have : chi (mul r r) = 1 := by rw [chi_mul]; exact chi_sq h0
    rw [hr, chi_modl, hc] at this
    exact absurd this (by decide)
/-- The even one of r and -r. -/
def evn (r : Nat) : Nat := if r % 2 = 0 then r else p - r
theorem evn_lt {r : Nat} (h : r < p) : evn r < p := by
  unfold evn
  split
  · exact h
  · omega
theorem evn_even {r : Nat} (h : r < p) : evn r % 2 = 0 := by
  have hp : p % 2 = 1 := by decide
  unfold evn
  split
  · assumption
  · omega
theorem neg_eq {r : Nat} (h : r < p) (h0 : r ≠ 0) : p - r = mul r (p - 1) := by
  have e : r * (p - 1) = (p - r) + p * (r - 1) := by
    obtain ⟨q, hq⟩ : ∃ q, p = q + 1 := ⟨p - 1, by decide⟩
    obtain ⟨s, rfl⟩ : ∃ s, r = s + 1 := ⟨r - 1, by omega⟩
    rw [hq] at h ⊢
    rw [Nat.add_sub_cancel, Nat.add_sub_cancel, Nat.add_mul, Nat.add_mul, Nat.mul_comm s q]
    omega
  unfold mul
  rw [e, Nat.add_mul_mod_self_left, Nat.mod_eq_of_lt (by omega)]
theorem neg_mul {r : Nat} (h : r < p) : mul (p - r) (p - r) = mul r r := by
  by_cases h0 : r = 0
  · subst h0
    unfold mul
    rw [Nat.sub_zero, Nat.mul_mod_left]
    exact (Nat.zero_mod p).symm
  · rw [neg_eq h h0, four, (neg_sq 0).1, mul_one]
    exact Nat.mod_eq_of_lt (mul_lt _ _)
theorem evn_sq {r : Nat} (h : r < p) : mul (evn r) (evn r) = mul r r := by
  unfold evn
  split
  · rfl
  · exact neg_mul h
/-- The even root; 0, if there is none. -/
def root (a : Nat) : Nat := if ok a = true then evn (cand a) else 0
theorem root_lt (a : Nat) : root a < p := by
  unfold root
  split
  · exact evn_lt (cand_lt a)
  · exact p_pos
theorem root_even (a : Nat) : root a % 2 = 0 := by
  unfold root
  split
  · exact evn_even (cand_lt a)
  · rfl
theorem root_sq {a : Nat} (h : ok a = true) : mul (root a) (root a) = a % p := by
  unfold root
  rw [if_pos h, evn_sq (cand_lt a), cand_sq h]
theorem root_none {a : Nat} (h : ok a = false) : root a = 0 := by
  unfold root
  rw [if_neg (by rw [h]; decide)]
/-- Two whose squares are one are one, or sum up to 0. -/
theorem sq_eq {x y : Nat} (hx : x < p) (hy : y < p) (h : mul x x = mul y y) : x = y ∨ x = sub 0 y := by
  have hs : ∀ z, z < p → sub 0 z = (p - z) % p := fun z hz => by unfold sub; rw [Nat.zero_add, Nat.mod_eq_of_lt hz]
  have h1 : mul (x + y) (x + (p - y)) = 0 := by
    unfold mul at *
    obtain ⟨z, hz⟩ : ∃ z, p = y + z := ⟨p - y, by omega⟩
    have e : (x + y) * (x + (p - y)) + y * y = x * x + p * (x + y) := by
      rw [hz, Nat.add_sub_cancel_left]
      simp only [Nat.mul_add, Nat.add_mul]
      rw [Nat.mul_comm z x, Nat.mul_comm z y, Nat.mul_comm y x]
      omega
    have e2 : ((x + y) * (x + (p - y)) + y * y) % p = y * y % p := by rw [e, Nat.add_mul_mod_self_left, h]
    have e3 : ((x + y) * (x + (p - y)) % p + y * y % p) % p = y * y % p := by rw [← Nat.add_mod]; exact e2
    have l1 := mod_lt ((x + y) * (x + (p - y)))
    have l2 := mod_lt (y * y)
    generalize (x + y) * (x + (p - y)) % p = A at *
    generalize y * y % p = B at *
    rcases Nat.lt_or_ge (A + B) p with h3 | h3
    · rw [Nat.mod_eq_of_lt h3] at e3
      omega
    · rw [Nat.mod_eq_sub_mod h3, Nat.mod_eq_of_lt (by omega)] at e3
      omega
  rcases (mul_zero_iff _ _).1 h1 with h2 | h2
  · right
    rw [hs y hy]
    rcases Nat.lt_or_ge (x + y) p with h3 | h3
    · rw [Nat.mod_eq_of_lt h3] at h2
      have hx0 : x = 0 := by omega
      have hy0 : y = 0 := by omega
      subst hx0 hy0
      rw [Nat.sub_zero, Nat.mod_self]
    · rw [Nat.mod_eq_sub_mod h3, Nat.mod_eq_of_lt (by omega)] at h2
      rw [Nat.mod_eq_of_lt (by omega)]
      omega
  · left
    rcases Nat.lt_or_ge (x + (p - y)) p with h3 | h3
    · rw [Nat.mod_eq_of_lt h3] at h2
      omega
    · rw [Nat.mod_eq_sub_mod h3, Nat.mod_eq_of_lt (by omega)] at h2
      omega
/-- The even root is the only one. -/
theorem root_only {a r : Nat} (hr : r < p) (h2 : r % 2 = 0) (h : mul r r = a % p) : r = root a ∧ ok a = true := by
  have hk : ok a = true := (ok_iff a).2 ⟨r, h⟩
  refine ⟨?_, hk⟩
  have e := root_even a
  have hp : p % 2 = 1 := by decide
  have hl := root_lt a
  rcases sq_eq hr hl (by rw [h, root_sq hk]) with h3 | h3
  · exact h3
  · unfold sub at h3
    rw [Nat.zero_add, Nat.mod_eq_of_lt hl] at h3
    by_cases h0 : root a = 0
    · rw [h0, Nat.sub_zero, Nat.mod_self] at h3
      rw [h3, h0]
    · rw [Nat.mod_eq_of_lt (by omega)] at h3
      omega
end Go.Proofs.YtfknkfninjjgbabDoor.F

/- Numbers modulo 2^255 - 19 as sixteen digits, as functions of their places: carries, borrows. Mathematics alone. -/
namespace Go.Proofs.YtfknkfninjjgbabDoor.I
/-- What is carried behind j digits, and the digits that stay. -/
def car (f : Nat → Nat) (c : Nat) : Nat → Nat
  | 0 => c
  | j + 1 => (car f c j + f j) / 65536
def dig (f : Nat → Nat) (c j : Nat) : Nat := (car f c j + f j) % 65536
/-- One round of least. -/
def rnd (f : Nat → Nat) : Nat → Nat := fun i => if i < 16 then dig f (38 * f 16) i else car f (38 * f 16) 16
/-- The modulus' digits. -/
def mo (i : Nat) : Nat := if i = 0 then 65517 else if i = 15 then 32767 else 65535
/-- What is borrowed behind j digits, and the digits that stay. -/
def bor (f : Nat → Nat) : Nat → Nat
  | 0 => 0
  | j + 1 => if f j < mo j + bor f j then 1 else 0
def sd (f : Nat → Nat) (j : Nat) : Nat := f j + 65536 * bor f (j + 1) - mo j - bor f j
/-- A product, digit by digit. -/
def upd (f : Nat → Nat) (j x : Nat) : Nat → Nat := fun i => if i = j then x else f i
def acc (a b : Nat → Nat) (i : Nat) (f : Nat → Nat) : Nat → (Nat → Nat)
  | 0 => f
  | k + 1 => upd (acc a b i f k) (i + k) (acc a b i f k (i + k) + a i * b k)
end Go.Proofs.YtfknkfninjjgbabDoor.I

/- What a block of memory holds, whole or in ranges; what a store of a range does to it; rows of ints. (In a name space of its own: texts of numbers have other blocks.) -/
namespace Go.Proofs.YtfknkfninjjgbabDoor.I
open Go.RowKit
/-- A number as an int. -/
abbrev dI (x : Nat) : Value := .int .i64 ((x : Nat) : Int)
/-- Block k holds these cells, and none of it is frozen. -/
structure Blk (w : World) (k : Nat) (vs : List Value) : Prop where
  lt : k < w.heap.size
  cell : ∀ j v, vs[j]? = some v → w.cell? ⟨k, j, none⟩ = some v
  fz : ∀ j, w.frozen? ⟨k, j, none⟩ = false
theorem Blk.up {W w1 : World} {k : Nat} {vs : List Value} {B : Nat} (h : Blk W k vs) (hb : Below B W w1) (hB : k < B) : Blk w1 k vs :=
  ⟨Nat.lt_of_lt_of_le h.lt hb.size, fun j v hv => (hb.cell (p := ⟨k, j, none⟩) hB).trans (h.cell j v hv), fun j => (hb.frozen (p := ⟨k, j, none⟩) hB).trans (h.fz j)⟩
theorem Blk.al {w : World} {vs : List Value} {t : TypeId} {C : Array Value} {k : Nat} (hk : k = w.heap.size) (hC : C.toList = vs) : Blk (w.alloc (.cells C t)) k vs := by
  subst hk hC
  have hb : (w.alloc (.cells C t)).heap[w.heap.size]? = some (.cells C t) := by show (w.heap.push _)[w.heap.size]? = _; simp
  refine ⟨by simp, fun j v hv => ?_, fun j => ?_⟩
  · rw [cell_of_row _ _ j C t _ hb]; simpa using hv
  · unfold World.frozen?
    rw [hb]
    simp
theorem Blk.range {w : World} {k : Nat} {a b c : List Value} (h : Blk w k (a ++ (b ++ c))) {o : Nat} (ho : o = a.length) : w.rangeAt k o b := by
  subst ho
  intro j v hv
  refine h.cell _ _ ?_
  have hj := (List.getElem?_eq_some_iff.1 hv).1
  rw [List.getElem?_append_right (by omega), show a.length + j - a.length = j by omega, List.getElem?_append_left hj, hv]
theorem Blk.all {w : World} {k : Nat} {a : List Value} (h : Blk w k a) : w.rangeAt k 0 a := fun j v hv => by
  rw [Nat.zero_add]; exact h.cell j v hv
theorem Blk.there {w : World} {k : Nat} {vs : List Value} (h : Blk w k vs) {o n : Nat} (hn : o + n ≤ vs.length) : w.there k o n := fun j hj => by
  refine ⟨?_, h.fz _⟩
  rw [h.cell (o + j) vs[o + j] (List.getElem?_eq_getElem (by omega))]
  rfl
theorem size_setCell (w : World) (a : Addr) (v : Value) : (w.setCell a v).heap.size = w.heap.size := by simp [World.setCell]
theorem size_setCells (k : Nat) : ∀ (vs : List Value) (o : Nat) (w : World), (w.setCells k o vs).heap.size = w.heap.size
  | [], _, _ => rfl
  | v :: vs, o, w => (size_setCells k vs (o + 1) _).trans (size_setCell w _ v)
theorem Blk.store {w : World} {k : Nat} {a b c b' : List Value} (h : Blk w k (a ++ (b ++ c))) {o : Nat} (ho : o = a.length) (hl : b'.length = b.length) : Blk (w.setCells k o b') k (a ++ (b' ++ c)) := by
  subst ho
  have ht := h.there (o := a.length) (n := b'.length) (by simp; omega)
  refine ⟨by rw [size_setCells]; exact h.lt, fun j v hv => ?_, fun j => by rw [World.frozen?_setCells]; exact h.fz j⟩
  rcases Nat.lt_or_ge j a.length with h1 | h1
  · rw [World.cell?_setCells_out k b' a.length w ⟨k, j, none⟩ (fun _ _ => Or.inl h1)]
    refine h.cell j v ?_
    rw [List.getElem?_append_left h1] at hv ⊢
    exact hv
  · rw [List.getElem?_append_right h1] at hv
    rcases Nat.lt_or_ge (j - a.length) b'.length with h2 | h2
    · rw [List.getElem?_append_left h2] at hv
      have := World.rangeAt_setCells_same w k a.length b' ht (j - a.length) v hv
      rwa [show a.length + (j - a.length) = j by omega] at this
    · rw [World.cell?_setCells_out k b' a.length w ⟨k, j, none⟩ (fun _ _ => Or.inr (by show a.length + b'.length ≤ j; omega))]
      refine h.cell j v ?_
      rw [List.getElem?_append_right h1, List.getElem?_append_right (by omega), ← hl]
      rw [List.getElem?_append_right h2] at hv
      exact hv
theorem Blk.set {w : World} {k : Nat} {vs : List Value} (h : Blk w k vs) (j : Nat) (v : Value) (hj : j < vs.length) : Blk (w.setCell ⟨k, j, none⟩ v) k (vs.set j v) := by
  have h0 : Blk w k (vs.take j ++ ([vs[j]] ++ vs.drop (j + 1))) := by
    have e : vs.take j ++ ([vs[j]] ++ vs.drop (j + 1)) = vs := by simp
    rw [e]; exact h
  have := h0.store (o := j) (b' := [v]) (by simp; omega) rfl
  rw [List.set_eq_take_append_cons_drop, if_pos hj]
  exact this
theorem Blk.apart {w : World} {k k' o : Nat} {vs b : List Value} (h : Blk w k vs) (hk : k ≠ k') : Blk (w.setCells k' o b) k vs :=
  ⟨by rw [size_setCells]; exact h.lt, fun j v hv => by
    rw [World.cell?_setCells_out k' b o w ⟨k, j, none⟩ (fun e _ => absurd e hk)]; exact h.cell j v hv, fun j => by rw [World.frozen?_setCells]; exact h.fz j⟩
theorem Blk.apart1 {w : World} {k k' o : Nat} {vs : List Value} {v : Value} (h : Blk w k vs) (hk : k ≠ k') : Blk (w.setCell ⟨k', o, none⟩ v) k vs := h.apart (b := [v]) hk
theorem below_setCells {B k : Nat} {a : World} : ∀ (vs : List Value) (o : Nat) (w : World), Below B a w → B ≤ k → Below B a (w.setCells k o vs)
  | [], _, _, h, _ => h
  | v :: vs, o, _, h, hk => below_setCells vs (o + 1) _ (h.setCell hk v) hk
/-- A row stored whole; the world behind it by an equation. -/
theorem wp_store_eq {P : Program} {ops : Array Oper} {rest : List Oper} {op : Oper} {a : Act} {w : World} {Q : Exit → Act → World → Prop} (hgd : op.guard = none) (ty : TypeId) (x y : Operand) (ho : op.op = .store ty x y)
    (b o : Nat) (cs : List Value) (hx : a.eval x = .pointer (some ⟨b, o, none⟩)) (hy : a.eval y = .agg cs.toArray)
    (ht : w.there b o cs.length) (hi : (P.info? ty).map (·.size) = some cs.length) (h1 : ∀ v ∈ cs, v.oneCell' = true)
    (h : ∀ w2, Hid (w2 = w.setCells b o cs) → wpList P ops Q rest (a.put op.dst undef) w2) : wpList P ops Q (op :: rest) a w :=
  wpList_store_mid hgd ty x y ho b o cs.toArray hx hy (by rw [List.size_toArray]; exact ht) (by rw [List.size_toArray]; exact hi) (all_oneCell_toArray h1) (h _ rfl)
theorem al1 (w : World) (C0 : Array Value) (t0 : TypeId) : Blk (w.alloc (.cells C0 t0)) w.heap.size C0.toList ∧ Below w.heap.size w (w.alloc (.cells C0 t0)) :=
  ⟨Blk.al rfl rfl, (Below.refl _ _).alloc (Nat.le_refl _) _⟩
theorem al2 (w : World) (C0 C1 : Array Value) (t0 t1 : TypeId) : Blk ((w.alloc (.cells C0 t0)).alloc (.cells C1 t1)) w.heap.size C0.toList ∧ Blk ((w.alloc (.cells C0 t0)).alloc (.cells C1 t1)) (w.heap.size + 1) C1.toList ∧ Below w.heap.size w ((w.alloc (.cells C0 t0)).alloc (.cells C1 t1)) := by
  obtain ⟨a0, a1⟩ := al1 w C0 t0
  obtain ⟨b0, b1⟩ := al1 (w.alloc (.cells C0 t0)) C1 t1
  rw [show (w.alloc (.cells C0 t0)).heap.size = w.heap.size + 1 by simp] at b0 b1
  exact ⟨a0.up b1 (by omega), b0, a1.trans (b1.mono (by omega))⟩
theorem al3 (w : World) (C0 C1 C2 : Array Value) (t0 t1 t2 : TypeId) : Blk (((w.alloc (.cells C0 t0)).alloc (.cells C1 t1)).alloc (.cells C2 t2)) w.heap.size C0.toList ∧ Blk (((w.alloc (.cells C0 t0)).alloc (.cells C1 t1)).alloc (.cells C2 t2)) (w.heap.size + 1) C1.toList ∧ Blk (((w.alloc (.cells C0 t0)).alloc (.cells C1 t1)).alloc (.cells C2 t2)) (w.heap.size + 1 + 1) C2.toList ∧ Below w.heap.size w (((w.alloc (.cells C0 t0)).alloc (.cells C1 t1)).alloc (.cells C2 t2)) := by
  obtain ⟨a0, a1, a2⟩ := al2 w C0 C1 t0 t1
  obtain ⟨b0, b1⟩ := al1 ((w.alloc (.cells C0 t0)).alloc (.cells C1 t1)) C2 t2
  rw [show ((w.alloc (.cells C0 t0)).alloc (.cells C1 t1)).heap.size = w.heap.size + 1 + 1 by simp] at b0 b1
  exact ⟨a0.up b1 (by omega), a1.up b1 (by omega), b0, a2.trans (b1.mono (by omega))⟩
/-- A row that was made and stored into whole. -/
theorem alst (w : World) (C : Array Value) (t : TypeId) (vs : List Value) (hC : vs.length = C.size) : Blk ((w.alloc (.cells C t)).setCells w.heap.size 0 vs) w.heap.size vs ∧ Below w.heap.size w ((w.alloc (.cells C t)).setCells w.heap.size 0 vs) := by
  obtain ⟨a0, a1⟩ := al1 w C t
  have h : Blk (w.alloc (.cells C t)) w.heap.size ([] ++ (C.toList ++ [])) := by simpa using a0
  have := h.store (o := 0) (b' := vs) rfl (by simpa using hC)
  exact ⟨by simpa using this, below_setCells _ _ _ a1 (Nat.le_refl _)⟩
/-- A row read whole in a quiet walk. -/
theorem quiet_load {P : Program} {ops : Array Oper} {C : World → Prop} {Q : Act → Prop} {o : Oper} {rest : List Oper} {a : Act} (hw : Region.wanted o (yielded ops a.tmps) = true) (ty : TypeId) (x : Operand) (ho : o.op = .load ty x)
    (b f : Nat) (hx : a.eval x = .pointer (some ⟨b, f, none⟩)) (cs : List Value) (d : TypeDesc) (hc : ∀ w, C w → w.rangeAt b f cs) (hu : P.underlying ty = some d) (hd : d.isRow = true) (hi : (P.info? ty).map (·.size) = some cs.length)
    (h : wpQuiet P ops C Q rest (a.put o.dst (.agg cs.toArray))) : wpQuiet P ops C Q (o :: rest) a := by
  refine BigFrame.wpQuiet_want hw fun K hK => ⟨.agg cs.toArray, fun w hw' => ?_, hK _ h⟩
  unfold Oper.quietAt
  have e : (execOp a.eval o).run P w = .ok (.value (.agg cs.toArray)) w := by
    unfold execOp
    simp only [ho, hx, Instr.loadAt, Instr.sureAddr, Sem.run_bind, Sem.run_pure, Result.andThen_ok, run_loadVar_mid w b f ty cs d (hc w hw') hu hd hi]
  rw [e]
  exact ⟨rfl, rfl⟩
theorem results_cell {P : Program} {fn : Func} {tmps : Array Value} {s : Tmp} {t : TypeId} {b : Nat} {cs : List Value} {d : TypeDesc} {W : World} (hr : fn.results = #[.cell s t]) (ht : tmps[s]?.getD undef = .pointer (some ⟨b, 0, none⟩)) (hc : W.rangeAt b 0 cs)
    (hu : P.underlying t = some d) (hd : d.isRow = true) (hi : (P.info? t).map (·.size) = some cs.length) : (results fn tmps).run P W = .ok (.agg cs.toArray) W := by
  have h1 := run_loadVar_mid (P := P) W b 0 t cs d hc hu hd hi
  simp [results, hr, ht, asAddr, h1]
theorem heap_setCell_at (w : World) (k o : Nat) (v : Value) (cs : List Value) (t : TypeId) (fz : Nat × Nat) (h : w.heap[k]? = some (.cells cs.toArray t fz)) : (w.setCell ⟨k, o, none⟩ v).heap[k]? = some (.cells (cs.set o v).toArray t fz) := by
  have hlt := (Array.getElem?_eq_some_iff.1 h).1
  have e : (w.setCell ⟨k, o, none⟩ v).heap = w.heap.modify k fun | .cells c elem frozen => .cells (if (⟨k, o, none⟩ : Addr).spot.isSome then c else c.setIfInBounds o v) elem frozen | o => o := rfl
  rw [e, Array.getElem?_modify, h]
  simp
theorem heap_setCells_at (k : Nat) (t : TypeId) (fz : Nat × Nat) : ∀ (vs a b c : List Value) (w : World), w.heap[k]? = some (.cells (a ++ (b ++ c)).toArray t fz) → b.length = vs.length → (w.setCells k a.length vs).heap[k]? = some (.cells (a ++ (vs ++ c)).toArray t fz)
  | [], a, b, c, w, h, hb => by
    rw [List.length_eq_zero_iff.1 hb] at h
    exact h
  | v :: vs, a, y :: b, c, w, h, hb => by
    have h1 := heap_setCell_at w k a.length v _ t fz h
    rw [List.set_append_right _ _ (Nat.le_refl _), Nat.sub_self, List.cons_append, List.set_cons_zero, show a ++ v :: (b ++ c) = (a ++ [v]) ++ (b ++ c) by simp] at h1
    have h2 := heap_setCells_at k t fz vs (a ++ [v]) b c _ h1 (by simpa using hb)
    rw [List.length_append, List.length_singleton] at h2
    rw [show a ++ (v :: vs ++ c) = (a ++ [v]) ++ (vs ++ c) by simp]
    exact h2
  | v :: vs, a, [], c, w, h, hb => by simp at hb
theorem Blk.of_heap {w : World} {k : Nat} {C : Array Value} {t : TypeId} (h : w.heap[k]? = some (.cells C t)) : Blk w k C.toList := by
  refine ⟨(Array.getElem?_eq_some_iff.1 h).1, fun j v hv => ?_, fun j => ?_⟩
  · rw [cell_of_row _ _ j C t _ h]; simpa using hv
  · unfold World.frozen?
    rw [h]
    simp
theorem Blk.put {w : World} {k : Nat} {vs us : List Value} (h : Blk w k vs) (hl : us.length = vs.length) : Blk (w.setCells k 0 us) k us := by
  have h1 : Blk w k ([] ++ (vs ++ [])) := by simpa using h
  have h2 := h1.store (o := 0) (b' := us) rfl (by omega)
  rw [List.nil_append, List.append_nil] at h2
  exact h2
/-- n ints in block k: the function of their places. -/
def row (n : Nat) (f : Nat → Nat) : List Nat := (List.range n).map f
theorem row_congr {n : Nat} {f g : Nat → Nat} (h : ∀ i, i < n → f i = g i) : row n f = row n g := by
  unfold row
  exact List.map_congr_left fun i hi => h i (List.mem_range.1 hi)
abbrev Ar (w : World) (k n : Nat) (f : Nat → Nat) : Prop := Blk w k ((row n f).map dI)
theorem Ar.congr {w : World} {k n : Nat} {f g : Nat → Nat} (h : Ar w k n f) (e : ∀ i, i < n → f i = g i) : Ar w k n g := by
  unfold Ar
  rw [← row_congr e]
  exact h
theorem Ar.at {w : World} {k n : Nat} {f : Nat → Nat} (h : Ar w k n f) {j : Nat} (hj : j < n) : w.cell? ⟨k, j, none⟩ = some (dI (f j)) :=
  h.cell j _ (by simp [row, hj])
theorem Ar.set {w : World} {k n : Nat} {f : Nat → Nat} (h : Ar w k n f) {j : Nat} (hj : j < n) (x : Nat) : Ar (w.setCell ⟨k, j, none⟩ (dI x)) k n (upd f j x) := by
  have h1 := Blk.set h j (dI x) (by simp [row, hj])
  have e : ((row n f).map dI).set j (dI x) = (row n (upd f j x)).map dI := by
    apply List.ext_getElem?
    intro i
    rw [List.getElem?_set]
    by_cases hi : i < n
    · by_cases hij : j = i
      · subst hij
        simp [row, upd, hj]
      · have : ¬ i = j := fun e => hij e.symm
        simp [row, upd, hi, hij, this]
    · have h2 : ¬ j = i := by omega
      simp [row, hi, h2]
  rw [e] at h1
  exact h1
theorem zero_of {t : TypeId} {v : Value} (h : (Tryd.prog.info? t).map (·.zero) = some (some v)) (w : World) : (zeroValue t).run Tryd.prog w = .ok v w := by
  cases hq : Tryd.prog.info? t with
  | none => simp [hq] at h
  | some d =>
    have hz : d.zero = some v := by simpa [hq] using h
    simp [zeroValue, typeInfo, hq, hz]
/-- So many noughts. -/
def z0 : Nat → Nat := fun _ => 0
end Go.Proofs.YtfknkfninjjgbabDoor.I
