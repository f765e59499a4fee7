/- Texts that were joined: GMath, BK, GC. -/
import Derived.Test.YtejabkmhpiabnaaRows
import Derived.WalkKit
import Derived.WalkSpells
import Derived.WalkLawsBesides
import Derived.LoopN
import Derived.OwnWalk
import Derived.Laws.AppendOwn
import Derived.Laws.Rows
import Derived.Below
import Derived.Deep.MidRow
import Derived.BigQuiet
/- Bytes as a field: the product of polynomials modulo x^8 + x^4 + x^3 + x + 1, over natural numbers below 256; what is told of it. -/
namespace Go.Proofs.Ytejabkmhpiabnaa.G
/-- x times. -/
def xt (a : Nat) : Nat := if a < 128 then 2 * a else (2 * a) ^^^ 283
/-- The product: a, x times a and so on, where b has a bit. -/
def mulF : Nat → Nat → Nat → Nat
  | 0, _, _ => 0
  | k + 1, a, b => (if b % 2 = 1 then a else 0) ^^^ mulF k (xt a) (b / 2)
def mul (a b : Nat) : Nat := mulF 8 a b
theorem xor_lt {a b : Nat} (ha : a < 256) (hb : b < 256) : a ^^^ b < 256 := Nat.xor_lt_two_pow (n := 8) ha hb
theorem xt_table : ∀ a < 256, xt a < 256 := by decide +kernel
theorem xt_lt {a : Nat} (h : a < 256) : xt a < 256 := xt_table a h
theorem two_mul_xor (a b : Nat) : 2 * (a ^^^ b) = (2 * a) ^^^ (2 * b) := by
  apply Nat.eq_of_testBit_eq
  intro i
  cases i with
  | zero => simp
  | succ i =>
    rw [Nat.testBit_xor, Nat.testBit_succ, Nat.testBit_succ, Nat.testBit_succ, Nat.mul_div_cancel_left _ (by decide : 0 < 2), Nat.mul_div_cancel_left _ (by decide : 0 < 2), Nat.mul_div_cancel_left _ (by decide : 0 < 2), Nat.testBit_xor]
theorem lt_bit {a : Nat} (h : a < 256) : a < 128 ↔ a.testBit 7 = false := by
  have : ∀ a < 256, (a < 128 ↔ a.testBit 7 = false) := by decide +kernel
  exact this a h
theorem xt_xor {a b : Nat} (ha : a < 256) (hb : b < 256) : xt (a ^^^ b) = xt a ^^^ xt b := by
  have h1 := lt_bit ha
  have h2 := lt_bit hb
  have h3 := lt_bit (xor_lt ha hb)
  rw [Nat.testBit_xor] at h3
  unfold xt
  rw [two_mul_xor]
  by_cases g1 : a < 128 <;> by_cases g2 : b < 128
  · rw [if_pos g1, if_pos g2, if_pos (h3.2 (by rw [h1.1 g1, h2.1 g2]; rfl))]
  · have e2 : b.testBit 7 = true := by simpa using mt h2.2 g2
    rw [if_pos g1, if_neg g2, if_neg (fun h => by have := h3.1 h; rw [h1.1 g1, e2] at this; cases this), Nat.xor_assoc]
  · have e1 : a.testBit 7 = true := by simpa using mt h1.2 g1
    rw [if_neg g1, if_pos g2, if_neg (fun h => by have := h3.1 h; rw [e1, h2.1 g2] at this; cases this), Nat.xor_assoc, Nat.xor_assoc, Nat.xor_comm (2 * b)]
  · have e1 : a.testBit 7 = true := by simpa using mt h1.2 g1
    have e2 : b.testBit 7 = true := by simpa using mt h2.2 g2
    rw [if_neg g1, if_neg g2, if_pos (h3.2 (by rw [e1, e2]; rfl))]
    rw [Nat.xor_assoc, ← Nat.xor_assoc 283, Nat.xor_comm 283, Nat.xor_assoc (2 * b), Nat.xor_self, Nat.xor_zero]
theorem mulF_lt (k : Nat) : ∀ {a : Nat} (b : Nat), a < 256 → mulF k a b < 256 := by
  induction k with
  | zero => intro a b _; rw [mulF]; decide
  | succ k ih =>
    intro a b h
    rw [mulF]
    refine xor_lt ?_ (ih _ (xt_lt h))
    split
    · exact h
    · decide
theorem mul_lt {a : Nat} (b : Nat) (h : a < 256) : mul a b < 256 := mulF_lt 8 b h
theorem xor4 (a b c d : Nat) : (a ^^^ b) ^^^ (c ^^^ d) = (a ^^^ c) ^^^ (b ^^^ d) := by
  rw [Nat.xor_assoc, ← Nat.xor_assoc b, Nat.xor_comm b c, Nat.xor_assoc c, ← Nat.xor_assoc]
theorem mulF_left (k : Nat) : ∀ {a c : Nat} (b : Nat), a < 256 → c < 256 → mulF k (a ^^^ c) b = mulF k a b ^^^ mulF k c b := by
  induction k with
  | zero => intro a c b _ _; rw [mulF, mulF, mulF]; rfl
  | succ k ih =>
    intro a c b ha hc
    rw [mulF, mulF, mulF, xt_xor ha hc, ih _ (xt_lt ha) (xt_lt hc), xor4]
    congr 1
    split <;> simp
theorem mod_two_xor (b c : Nat) : (b ^^^ c) % 2 = (b % 2 + c % 2) % 2 := by
  have h := Nat.xor_mod_two_pow (a := b) (b := c) (n := 1)
  rw [Nat.pow_one] at h
  rw [h]
  rcases Nat.mod_two_eq_zero_or_one b with h1 | h1 <;> rcases Nat.mod_two_eq_zero_or_one c with h2 | h2 <;> rw [h1, h2] <;> rfl
theorem mulF_right (k : Nat) : ∀ (a b c : Nat), mulF k a (b ^^^ c) = mulF k a b ^^^ mulF k a c := by
  induction k with
  | zero => intro a b c; rw [mulF, mulF, mulF]; rfl
  | succ k ih =>
    intro a b c
    rw [mulF, mulF, mulF, Nat.xor_div_two, ih, xor4]
    congr 1
    rw [mod_two_xor]
    rcases Nat.mod_two_eq_zero_or_one b with h1 | h1 <;> rcases Nat.mod_two_eq_zero_or_one c with h2 | h2 <;> rw [h1, h2] <;> simp
theorem mul_left {a c : Nat} (b : Nat) (ha : a < 256) (hc : c < 256) : mul (a ^^^ c) b = mul a b ^^^ mul c b := mulF_left 8 b ha hc
theorem mul_right (a b c : Nat) : mul a (b ^^^ c) = mul a b ^^^ mul a c := mulF_right 8 a b c
/-- What goes with xor, and is the same of each bit, is the same. -/
theorem lin_ext {F H : Nat → Nat} (hF : ∀ a b, a < 256 → b < 256 → F (a ^^^ b) = F a ^^^ F b) (hH : ∀ a b, a < 256 → b < 256 → H (a ^^^ b) = H a ^^^ H b) (h : ∀ i, i < 8 → F (2 ^ i) = H (2 ^ i)) : ∀ a, a < 256 → F a = H a := by
  have z : ∀ K : Nat → Nat, (∀ a b, a < 256 → b < 256 → K (a ^^^ b) = K a ^^^ K b) → K 0 = 0 := fun K hK => by
    have := hK 0 0 (by decide) (by decide)
    rw [Nat.xor_self, Nat.xor_self] at this
    exact this
  have key : ∀ k, k ≤ 8 → ∀ a, a < 2 ^ k → F a = H a := by
    intro k
    induction k with
    | zero =>
      intro _ a ha
      obtain rfl : a = 0 := by simpa using ha
      rw [z F hF, z H hH]
    | succ k ih =>
      intro hk a ha
      have p8 : 2 ^ (k + 1) ≤ 256 := Nat.pow_le_pow_right (n := 2) (by decide) hk
      rw [Nat.pow_succ] at ha p8
      by_cases hb : a < 2 ^ k
      · exact ih (by omega) a hb
      · have e : a = (a - 2 ^ k) ^^^ 2 ^ k := by
          have hl : a - 2 ^ k < 2 ^ k := by omega
          rw [Nat.xor_comm]
          have e1 := Nat.two_pow_add_eq_or_of_lt hl 1
          have e2 : 2 ^ k ^^^ (a - 2 ^ k) = 2 ^ k + (a - 2 ^ k) := by
            apply Nat.eq_of_testBit_eq
            intro i
            have e3 := Nat.two_pow_add_eq_or_of_lt hl 1
            rw [Nat.mul_one] at e3
            rw [e3, Nat.testBit_xor, Nat.testBit_or, Nat.testBit_two_pow]
            by_cases g : k = i
            · subst g
              rw [Nat.testBit_lt_two_pow hl]
              simp
            · simp [g]
          rw [e2]
          omega
        rw [e, hF _ _ (by omega) (by omega), hH _ _ (by omega) (by omega), ih (by omega) _ (by omega), h k (by omega)]
  exact fun a ha => key 8 (Nat.le_refl _) a ha
theorem mul_comm {a b : Nat} (ha : a < 256) (hb : b < 256) : mul a b = mul b a := by
  refine lin_ext (F := fun a => mul a b) (H := fun a => mul b a) (fun x y hx hy => mul_left b hx hy) (fun x y _ _ => mul_right b x y) (fun i hi => ?_) a ha
  have p : 2 ^ i < 256 := by
    have := Nat.pow_lt_pow_right (a := 2) (by decide) hi
    exact this
  refine lin_ext (F := fun b => mul (2 ^ i) b) (H := fun b => mul b (2 ^ i)) (fun x y _ _ => mul_right _ x y) (fun x y hx hy => mul_left _ hx hy) (fun j hj => ?_) b hb
  have t : ∀ i < 8, ∀ j < 8, mul (2 ^ i) (2 ^ j) = mul (2 ^ j) (2 ^ i) := by decide +kernel
  exact t i hi j hj
theorem pow_lt {i : Nat} (hi : i < 8) : 2 ^ i < 256 := Nat.pow_lt_pow_right (a := 2) (by decide) hi
theorem mul_assoc {a b c : Nat} (ha : a < 256) (hb : b < 256) (hc : c < 256) : mul (mul a b) c = mul a (mul b c) := by
  refine lin_ext (F := fun a => mul (mul a b) c) (H := fun a => mul a (mul b c)) (fun x y hx hy => by rw [mul_left b hx hy, mul_left c (mul_lt b hx) (mul_lt b hy)]) (fun x y hx hy => mul_left _ hx hy) (fun i hi => ?_) a ha
  refine lin_ext (F := fun b => mul (mul (2 ^ i) b) c) (H := fun b => mul (2 ^ i) (mul b c)) (fun x y hx hy => by rw [mul_right, mul_left c (mul_lt x (pow_lt hi)) (mul_lt y (pow_lt hi))]) (fun x y hx hy => by rw [mul_left c hx hy, mul_right]) (fun j hj => ?_) b hb
  refine lin_ext (F := fun c => mul (mul (2 ^ i) (2 ^ j)) c) (H := fun c => mul (2 ^ i) (mul (2 ^ j) c)) (fun x y _ _ => mul_right _ x y) (fun x y _ _ => by rw [mul_right, mul_right]) (fun k hk => ?_) c hc
  have t : ∀ i < 8, ∀ j < 8, ∀ k < 8, mul (mul (2 ^ i) (2 ^ j)) (2 ^ k) = mul (2 ^ i) (mul (2 ^ j) (2 ^ k)) := by decide +kernel
  exact t i hi j hj k hk
theorem mul_one {a : Nat} (_ : a < 256) : mul a 1 = a := by
  show (if (1 : Nat) % 2 = 1 then a else 0) ^^^ mulF 7 (xt a) 0 = a
  have z : ∀ k a, mulF k a 0 = 0 := by
    intro k
    induction k with
    | zero => intro a; rfl
    | succ k ih => intro a; rw [mulF, ih]; simp
  rw [z]
  simp
theorem mul_zero (a : Nat) : mul a 0 = 0 := by
  have := mul_right a 0 0
  rw [Nat.xor_self, Nat.xor_self] at this
  exact this
/-- Powers. -/
def pow (a : Nat) : Nat → Nat
  | 0 => 1
  | n + 1 => mul (pow a n) a
theorem pow_lt256 {a : Nat} : ∀ n, pow a n < 256
  | 0 => by rw [pow]; decide
  | n + 1 => mul_lt _ (pow_lt256 n)
theorem pow_add {a : Nat} (ha : a < 256) (m : Nat) : ∀ n, pow a (m + n) = mul (pow a m) (pow a n)
  | 0 => (mul_one (pow_lt256 m)).symm
  | n + 1 => by rw [← Nat.add_assoc, pow, pow, pow_add ha m n, mul_assoc (pow_lt256 m) (pow_lt256 n) ha]
theorem one_mul {a : Nat} (h : a < 256) : mul 1 a = a := by rw [mul_comm (by decide) h, mul_one h]
theorem pow_mul {a : Nat} (ha : a < 256) (m : Nat) : ∀ n, pow a (m * n) = pow (pow a m) n
  | 0 => rfl
  | n + 1 => by rw [Nat.mul_succ, pow_add ha, pow_mul ha m n, pow]
theorem mul_pow {a b : Nat} (ha : a < 256) (hb : b < 256) : ∀ n, pow (mul a b) n = mul (pow a n) (pow b n)
  | 0 => by rw [pow, pow, pow]; exact (mul_one (by decide)).symm
  | n + 1 => by
    rw [pow, pow, pow, mul_pow ha hb n]
    have h1 := pow_lt256 (a := a) n
    have h2 := pow_lt256 (a := b) n
    rw [mul_assoc h1 h2 (mul_lt b ha), ← mul_assoc h2 ha hb, mul_comm h2 ha, mul_assoc ha h2 hb, ← mul_assoc h1 ha (mul_lt b h2)]
def sq (a : Nat) : Nat := mul a a
theorem pow255 : ∀ a < 256, a ≠ 0 → pow a 255 = 1 := by
  intro a ha h0
  have e : ∀ a < 256, a ≠ 0 → mul (sq (mul (sq (mul (sq (mul (sq (mul (sq (mul (sq (mul (sq a) a)) a)) a)) a)) a)) a)) a = 1 := by decide +kernel
  have d : ∀ m, pow a (2 * m + 1) = mul (sq (pow a m)) a := fun m => by rw [Nat.two_mul, pow, pow_add ha]; rfl
  have e1 : pow a 1 = a := one_mul ha
  rw [show 255 = 2 * (2 * (2 * (2 * (2 * (2 * (2 * 1 + 1) + 1) + 1) + 1) + 1) + 1) + 1 from rfl, d, d, d, d, d, d, d, e1]
  exact e a ha h0
/-- The inverse; 0 of 0. -/
def inv (a : Nat) : Nat := pow a 254
theorem inv_lt (a : Nat) : inv a < 256 := pow_lt256 254
theorem mul_inv {a : Nat} (h : a < 256) (h0 : a ≠ 0) : mul a (inv a) = 1 := by
  rw [mul_comm h (inv_lt a)]
  exact pow255 a h h0
theorem inv_zero : inv 0 = 0 := mul_zero _
theorem no_zero {a b : Nat} (ha : a < 256) (hb : b < 256) (h : mul a b = 0) : a = 0 ∨ b = 0 := by
  by_cases h0 : a = 0
  · exact .inl h0
  · right
    have h1 := mul_assoc (inv_lt a) ha hb
    rw [mul_comm (inv_lt a) ha, mul_inv ha h0, one_mul hb, h, mul_zero] at h1
    exact h1
theorem inv_only {a b : Nat} (ha : a < 256) (hb : b < 256) (h : mul a b = 1) : b = inv a := by
  have h0 : a ≠ 0 := fun e => by
    subst e
    rw [mul_comm (by decide) hb, mul_zero] at h
    cases h
  have h1 := mul_assoc (inv_lt a) ha hb
  rw [mul_comm (inv_lt a) ha, mul_inv ha h0, one_mul hb, h, mul_one (inv_lt a)] at h1
  exact h1
theorem inv_inv {a : Nat} (ha : a < 256) : inv (inv a) = a := by
  by_cases h0 : a = 0
  · subst h0; rw [inv_zero, inv_zero]
  · exact (inv_only (inv_lt a) ha (by rw [mul_comm (inv_lt a) ha]; exact mul_inv ha h0)).symm
/-- Powers come again after 255. -/
theorem pow_mod {a : Nat} (ha : a < 256) (h0 : a ≠ 0) (n : Nat) : pow a n = pow a (n % 255) := by
  have e := Nat.div_add_mod n 255
  have one : ∀ k, pow 1 k = 1 := by
    intro k
    induction k with
    | zero => rfl
    | succ k ih => rw [pow, ih]; exact mul_one (by decide)
  conv => lhs; rw [← e, pow_add ha, pow_mul ha, pow255 a ha h0, one, one_mul (pow_lt256 _)]
theorem pow_zero_pos {n : Nat} (h : 0 < n) : pow 0 n = 0 := by
  obtain ⟨m, rfl⟩ : ∃ m, n = m + 1 := ⟨n - 1, by omega⟩
  rw [pow, mul_zero]
/-- FROBENIUS: the square of a sum is the sum of the squares. -/
theorem square_xor {a b : Nat} (ha : a < 256) (hb : b < 256) : mul (a ^^^ b) (a ^^^ b) = mul a a ^^^ mul b b := by
  rw [mul_left _ ha hb, mul_right, mul_right, mul_comm hb ha, Nat.xor_assoc, ← Nat.xor_assoc (mul a b), Nat.xor_self, Nat.zero_xor]
/-- All but 0 are powers of 3. -/
theorem three : ∀ a < 256, a ≠ 0 → ∃ n < 255, pow 3 n = a := by decide +kernel
end Go.Proofs.Ytejabkmhpiabnaa.G

/- What a block of memory holds, whole or in ranges; and what a store of a range does to it. -/
namespace Go.Proofs.Ytejabkmhpiabnaa
open Go.RowKit
abbrev b8 (x : Nat) : Value := .int .u8 ((x : Nat) : Int)
/-- Block k holds these cells, and none of it is frozen. -/
structure Blk (w : World) (k : Nat) (vs : List Value) : Prop where
  lt : k < w.heap.size
  cell : ∀ j v, vs[j]? = some v → w.cell? ⟨k, j, none⟩ = some v
  fz : ∀ j, w.frozen? ⟨k, j, none⟩ = false
theorem Blk.up {W w1 : World} {k : Nat} {vs : List Value} {B : Nat} (h : Blk W k vs) (hb : Below B W w1) (hB : k < B) : Blk w1 k vs :=
  ⟨Nat.lt_of_lt_of_le h.lt hb.size, fun j v hv => (hb.cell (p := ⟨k, j, none⟩) hB).trans (h.cell j v hv), fun j => (hb.frozen (p := ⟨k, j, none⟩) hB).trans (h.fz j)⟩
theorem Blk.al {w : World} {vs : List Value} {t : TypeId} {C : Array Value} {k : Nat} (hk : k = w.heap.size) (hC : C.toList = vs) : Blk (w.alloc (.cells C t)) k vs := by
  subst hk hC
  have hb : (w.alloc (.cells C t)).heap[w.heap.size]? = some (.cells C t) := by show (w.heap.push _)[w.heap.size]? = _; simp
  refine ⟨by simp, fun j v hv => ?_, fun j => ?_⟩
  · rw [cell_of_row _ _ j C t _ hb]; simpa using hv
  · unfold World.frozen?
    rw [hb]
    simp
theorem Blk.range {w : World} {k : Nat} {a b c : List Value} (h : Blk w k (a ++ (b ++ c))) {o : Nat} (ho : o = a.length) : w.rangeAt k o b := by
  subst ho
  intro j v hv
  refine h.cell _ _ ?_
  have hj := (List.getElem?_eq_some_iff.1 hv).1
  rw [List.getElem?_append_right (by omega), show a.length + j - a.length = j by omega, List.getElem?_append_left hj, hv]
theorem Blk.all {w : World} {k : Nat} {a : List Value} (h : Blk w k a) : w.rangeAt k 0 a := fun j v hv => by
  rw [Nat.zero_add]; exact h.cell j v hv
theorem Blk.there {w : World} {k : Nat} {vs : List Value} (h : Blk w k vs) {o n : Nat} (hn : o + n ≤ vs.length) : w.there k o n := fun j hj => by
  refine ⟨?_, h.fz _⟩
  rw [h.cell (o + j) vs[o + j] (List.getElem?_eq_getElem (by omega))]
  rfl
theorem size_setCell (w : World) (a : Addr) (v : Value) : (w.setCell a v).heap.size = w.heap.size := by simp [World.setCell]
theorem size_setCells (k : Nat) : ∀ (vs : List Value) (o : Nat) (w : World), (w.setCells k o vs).heap.size = w.heap.size
  | [], _, _ => rfl
  | v :: vs, o, w => (size_setCells k vs (o + 1) _).trans (size_setCell w _ v)
theorem Blk.store {w : World} {k : Nat} {a b c b' : List Value} (h : Blk w k (a ++ (b ++ c))) {o : Nat} (ho : o = a.length) (hl : b'.length = b.length) : Blk (w.setCells k o b') k (a ++ (b' ++ c)) := by
  subst ho
  have ht := h.there (o := a.length) (n := b'.length) (by simp; omega)
  refine ⟨by rw [size_setCells]; exact h.lt, fun j v hv => ?_, fun j => by rw [World.frozen?_setCells]; exact h.fz j⟩
  rcases Nat.lt_or_ge j a.length with h1 | h1
  · rw [World.cell?_setCells_out k b' a.length w ⟨k, j, none⟩ (fun _ _ => Or.inl h1)]
    refine h.cell j v ?_
    rw [List.getElem?_append_left h1] at hv ⊢
    exact hv
  · rw [List.getElem?_append_right h1] at hv
    rcases Nat.lt_or_ge (j - a.length) b'.length with h2 | h2
    · rw [List.getElem?_append_left h2] at hv
      have := World.rangeAt_setCells_same w k a.length b' ht (j - a.length) v hv
      rwa [show a.length + (j - a.length) = j by omega] at this
    · rw [World.cell?_setCells_out k b' a.length w ⟨k, j, none⟩ (fun _ _ => Or.inr (by show a.length + b'.length ≤ j; omega))]
      refine h.cell j v ?_
      rw [List.getElem?_append_right h1, List.getElem?_append_right (by omega), ← hl]
      rw [List.getElem?_append_right h2] at hv
      exact hv
theorem Blk.set {w : World} {k : Nat} {vs : List Value} (h : Blk w k vs) (j : Nat) (v : Value) (hj : j < vs.length) : Blk (w.setCell ⟨k, j, none⟩ v) k (vs.set j v) := by
  have h0 : Blk w k (vs.take j ++ ([vs[j]] ++ vs.drop (j + 1))) := by
    have e : vs.take j ++ ([vs[j]] ++ vs.drop (j + 1)) = vs := by simp
    rw [e]; exact h
  have := h0.store (o := j) (b' := [v]) (by simp; omega) rfl
  rw [List.set_eq_take_append_cons_drop, if_pos hj]
  exact this
theorem Blk.apart {w : World} {k k' o : Nat} {vs b : List Value} (h : Blk w k vs) (hk : k ≠ k') : Blk (w.setCells k' o b) k vs :=
  ⟨by rw [size_setCells]; exact h.lt, fun j v hv => by
    rw [World.cell?_setCells_out k' b o w ⟨k, j, none⟩ (fun e _ => absurd e hk)]; exact h.cell j v hv, fun j => by rw [World.frozen?_setCells]; exact h.fz j⟩
theorem Blk.apart1 {w : World} {k k' o : Nat} {vs : List Value} {v : Value} (h : Blk w k vs) (hk : k ≠ k') : Blk (w.setCell ⟨k', o, none⟩ v) k vs := h.apart (b := [v]) hk
theorem below_setCells {B k : Nat} {a : World} : ∀ (vs : List Value) (o : Nat) (w : World), Below B a w → B ≤ k → Below B a (w.setCells k o vs)
  | [], _, _, h, _ => h
  | v :: vs, o, _, h, hk => below_setCells vs (o + 1) _ (h.setCell hk v) hk
/-- A row stored whole; the world behind it by an equation. -/
theorem wp_store_eq {P : Program} {ops : Array Oper} {rest : List Oper} {op : Oper} {a : Act} {w : World} {Q : Exit → Act → World → Prop} (hgd : op.guard = none) (ty : TypeId) (x y : Operand) (ho : op.op = .store ty x y)
    (b o : Nat) (cs : List Value) (hx : a.eval x = .pointer (some ⟨b, o, none⟩)) (hy : a.eval y = .agg cs.toArray)
    (ht : w.there b o cs.length) (hi : (P.info? ty).map (·.size) = some cs.length) (h1 : ∀ v ∈ cs, v.oneCell' = true)
    (h : ∀ w2, Hid (w2 = w.setCells b o cs) → wpList P ops Q rest (a.put op.dst undef) w2) : wpList P ops Q (op :: rest) a w :=
  wpList_store_mid hgd ty x y ho b o cs.toArray hx hy (by rw [List.size_toArray]; exact ht) (by rw [List.size_toArray]; exact hi) (all_oneCell_toArray h1) (h _ rfl)
theorem one_uw (xs : List (BitVec 32)) (f : BitVec 32 → Int) : ∀ v ∈ xs.map (fun x => Value.int .u32 (f x)), v.oneCell' = true := fun v hv => by
  obtain ⟨x, _, rfl⟩ := List.mem_map.1 hv
  rfl
theorem one_b8 (xs : List Nat) : ∀ v ∈ xs.map b8, v.oneCell' = true := fun v hv => by
  obtain ⟨x, _, rfl⟩ := List.mem_map.1 hv
  rfl
theorem al1 (w : World) (C0 : Array Value) (t0 : TypeId) : Blk (w.alloc (.cells C0 t0)) w.heap.size C0.toList ∧ Below w.heap.size w (w.alloc (.cells C0 t0)) :=
  ⟨Blk.al rfl rfl, (Below.refl _ _).alloc (Nat.le_refl _) _⟩
theorem al2 (w : World) (C0 C1 : Array Value) (t0 t1 : TypeId) : Blk ((w.alloc (.cells C0 t0)).alloc (.cells C1 t1)) w.heap.size C0.toList ∧ Blk ((w.alloc (.cells C0 t0)).alloc (.cells C1 t1)) (w.heap.size + 1) C1.toList ∧ Below w.heap.size w ((w.alloc (.cells C0 t0)).alloc (.cells C1 t1)) := by
  obtain ⟨a0, a1⟩ := al1 w C0 t0
  obtain ⟨b0, b1⟩ := al1 (w.alloc (.cells C0 t0)) C1 t1
  rw [show (w.alloc (.cells C0 t0)).heap.size = w.heap.size + 1 by simp] at b0 b1
  exact ⟨a0.up b1 (by omega), b0, a1.trans (b1.mono (by omega))⟩
theorem al3 (w : World) (C0 C1 C2 : Array Value) (t0 t1 t2 : TypeId) : Blk (((w.alloc (.cells C0 t0)).alloc (.cells C1 t1)).alloc (.cells C2 t2)) w.heap.size C0.toList ∧ Blk (((w.alloc (.cells C0 t0)).alloc (.cells C1 t1)).alloc (.cells C2 t2)) (w.heap.size + 1) C1.toList ∧ Blk (((w.alloc (.cells C0 t0)).alloc (.cells C1 t1)).alloc (.cells C2 t2)) (w.heap.size + 1 + 1) C2.toList ∧ Below w.heap.size w (((w.alloc (.cells C0 t0)).alloc (.cells C1 t1)).alloc (.cells C2 t2)) := by
  obtain ⟨a0, a1, a2⟩ := al2 w C0 C1 t0 t1
  obtain ⟨b0, b1⟩ := al1 ((w.alloc (.cells C0 t0)).alloc (.cells C1 t1)) C2 t2
  rw [show ((w.alloc (.cells C0 t0)).alloc (.cells C1 t1)).heap.size = w.heap.size + 1 + 1 by simp] at b0 b1
  exact ⟨a0.up b1 (by omega), a1.up b1 (by omega), b0, a2.trans (b1.mono (by omega))⟩
/-- A row that was made and stored into whole. -/
theorem alst (w : World) (C : Array Value) (t : TypeId) (vs : List Value) (hC : vs.length = C.size) : Blk ((w.alloc (.cells C t)).setCells w.heap.size 0 vs) w.heap.size vs ∧ Below w.heap.size w ((w.alloc (.cells C t)).setCells w.heap.size 0 vs) := by
  obtain ⟨a0, a1⟩ := al1 w C t
  have h : Blk (w.alloc (.cells C t)) w.heap.size ([] ++ (C.toList ++ [])) := by simpa using a0
  have := h.store (o := 0) (b' := vs) rfl (by simpa using hC)
  exact ⟨by simpa using this, below_setCells _ _ _ a1 (Nat.le_refl _)⟩
/-- A row read whole in a quiet walk. -/
theorem quiet_load {P : Program} {ops : Array Oper} {C : World → Prop} {Q : Act → Prop} {o : Oper} {rest : List Oper} {a : Act} (hw : Region.wanted o (yielded ops a.tmps) = true) (ty : TypeId) (x : Operand) (ho : o.op = .load ty x)
    (b f : Nat) (hx : a.eval x = .pointer (some ⟨b, f, none⟩)) (cs : List Value) (d : TypeDesc) (hc : ∀ w, C w → w.rangeAt b f cs) (hu : P.underlying ty = some d) (hd : d.isRow = true) (hi : (P.info? ty).map (·.size) = some cs.length)
    (h : wpQuiet P ops C Q rest (a.put o.dst (.agg cs.toArray))) : wpQuiet P ops C Q (o :: rest) a := by
  refine BigFrame.wpQuiet_want hw fun K hK => ⟨.agg cs.toArray, fun w hw' => ?_, hK _ h⟩
  unfold Oper.quietAt
  have e : (execOp a.eval o).run P w = .ok (.value (.agg cs.toArray)) w := by
    unfold execOp
    simp only [ho, hx, Instr.loadAt, Instr.sureAddr, Sem.run_bind, Sem.run_pure, Result.andThen_ok, run_loadVar_mid w b f ty cs d (hc w hw') hu hd hi]
  rw [e]
  exact ⟨rfl, rfl⟩
theorem results_cell {P : Program} {fn : Func} {tmps : Array Value} {s : Tmp} {t : TypeId} {b : Nat} {cs : List Value} {d : TypeDesc} {W : World} (hr : fn.results = #[.cell s t]) (ht : tmps[s]?.getD undef = .pointer (some ⟨b, 0, none⟩)) (hc : W.rangeAt b 0 cs)
    (hu : P.underlying t = some d) (hd : d.isRow = true) (hi : (P.info? t).map (·.size) = some cs.length) : (results fn tmps).run P W = .ok (.agg cs.toArray) W := by
  have h1 := run_loadVar_mid (P := P) W b 0 t cs d hc hu hd hi
  simp [results, hr, ht, asAddr, h1]
theorem heap_setCell_at (w : World) (k o : Nat) (v : Value) (cs : List Value) (t : TypeId) (fz : Nat × Nat) (h : w.heap[k]? = some (.cells cs.toArray t fz)) : (w.setCell ⟨k, o, none⟩ v).heap[k]? = some (.cells (cs.set o v).toArray t fz) := by
  have hlt := (Array.getElem?_eq_some_iff.1 h).1
  have e : (w.setCell ⟨k, o, none⟩ v).heap = w.heap.modify k fun | .cells c elem frozen => .cells (if (⟨k, o, none⟩ : Addr).spot.isSome then c else c.setIfInBounds o v) elem frozen | o => o := rfl
  rw [e, Array.getElem?_modify, h]
  simp
theorem heap_setCells_at (k : Nat) (t : TypeId) (fz : Nat × Nat) : ∀ (vs a b c : List Value) (w : World), w.heap[k]? = some (.cells (a ++ (b ++ c)).toArray t fz) → b.length = vs.length → (w.setCells k a.length vs).heap[k]? = some (.cells (a ++ (vs ++ c)).toArray t fz)
  | [], a, b, c, w, h, hb => by
    rw [List.length_eq_zero_iff.1 hb] at h
    exact h
  | v :: vs, a, y :: b, c, w, h, hb => by
    have h1 := heap_setCell_at w k a.length v _ t fz h
    rw [List.set_append_right _ _ (Nat.le_refl _), Nat.sub_self, List.cons_append, List.set_cons_zero, show a ++ v :: (b ++ c) = (a ++ [v]) ++ (b ++ c) by simp] at h1
    have h2 := heap_setCells_at k t fz vs (a ++ [v]) b c _ h1 (by simpa using hb)
    rw [List.length_append, List.length_singleton] at h2
    rw [show a ++ (v :: vs ++ c) = (a ++ [v]) ++ (vs ++ c) by simp]
    exact h2
  | v :: vs, a, [], c, w, h, hb => by simp at hb
theorem heap_setCells_off (k j : Nat) (hj : j ≠ k) : ∀ (vs : List Value) (o : Nat) (w : World), (w.setCells k o vs).heap[j]? = w.heap[j]?
  | [], _, _ => rfl
  | v :: vs, o, w => (heap_setCells_off k j hj vs (o + 1) (w.setCell ⟨k, o, none⟩ v)).trans (Below.heap_setCell w ⟨k, o, none⟩ v j hj)
theorem Blk.of_heap {w : World} {k : Nat} {C : Array Value} {t : TypeId} (h : w.heap[k]? = some (.cells C t)) : Blk w k C.toList := by
  refine ⟨(Array.getElem?_eq_some_iff.1 h).1, fun j v hv => ?_, fun j => ?_⟩
  · rw [cell_of_row _ _ j C t _ h]; simpa using hv
  · unfold World.frozen?
    rw [h]
    simp
theorem Blk.put {w : World} {k : Nat} {vs us : List Value} (h : Blk w k vs) (hl : us.length = vs.length) : Blk (w.setCells k 0 us) k us := by
  have h1 : Blk w k ([] ++ (vs ++ [])) := by simpa using h
  have h2 := h1.store (o := 0) (b' := us) rfl (by omega)
  rw [List.nil_append, List.append_nil] at h2
  exact h2
end Go.Proofs.Ytejabkmhpiabnaa

/- What is asked of package gf: its calls' contracts as one premise; bytes put for bytes, columns that are mixed, as functions of numbers. -/
namespace Go.Proofs.Ytejabkmhpiabnaa
open Go.RowKit
set_option linter.unusedSimpArgs false
theorem g_xor {x y : Nat} (hx : x < 256) (hy : y < 256) : bits .xor .u8 (x : Int) (y : Int) = ((x ^^^ y : Nat) : Int) := by
  have o8 : ∀ x : Nat, x < 256 → (BitVec.ofInt 8 (x : Int)).toNat = x := fun x h => by rw [BitVec.toNat_ofInt]; omega
  have h1 := G.xor_lt hx hy
  show IntKind.u8.wrap (((BitVec.ofInt 8 (x : Int) ^^^ BitVec.ofInt 8 (y : Int)).toNat : Nat) : Int) = _
  rw [BitVec.toNat_xor, o8 _ hx, o8 _ hy, IntKind.wrap_u8]
  omega
theorem g_not_table : ∀ a < 256, 255 ^^^ a = 255 - a := by decide +kernel
theorem g_not {a : Nat} (h : a < 256) : bits .xor .u8 IntKind.u8.max (a : Int) = ((255 - a : Nat) : Int) := by
  rw [← g_not_table a h]
  exact g_xor (by decide) h
namespace G
/-- The powers of a that make 254, in steps. -/
theorem inv_chain (a : Nat) (ha : a < 256) : inv a = sq (mul (sq (mul (sq (mul (sq (mul (sq (mul (sq (mul (sq a) a)) a)) a)) a)) a)) a) := by
  have d : ∀ m, pow a (2 * m + 1) = mul (sq (pow a m)) a := fun m => by rw [Nat.two_mul, pow, pow_add ha]; rfl
  have d2 : ∀ m, pow a (2 * m) = sq (pow a m) := fun m => by rw [Nat.two_mul, pow_add ha]; rfl
  have e1 : pow a 1 = a := one_mul ha
  unfold inv
  rw [show 254 = 2 * (2 * (2 * (2 * (2 * (2 * (2 * 1 + 1) + 1) + 1) + 1) + 1) + 1) from rfl, d2, d, d, d, d, d, d, e1]
def chain (a : Nat) : Nat := sq (mul (sq (mul (sq (mul (sq (mul (sq (mul (sq (mul (sq a) a)) a)) a)) a)) a)) a)
/-- Turned round to the left. -/
def rot (b k : Nat) : Nat := b * 2 ^ k % 256 ^^^ b / 2 ^ (8 - k)
def aff (b : Nat) : Nat := b ^^^ rot b 1 ^^^ rot b 2 ^^^ rot b 3 ^^^ rot b 4 ^^^ 99
def unaff (b : Nat) : Nat := rot b 1 ^^^ rot b 3 ^^^ rot b 6 ^^^ 5
def sub (a : Nat) : Nat := aff (inv a)
def unsub (a : Nat) : Nat := inv (unaff a)
theorem rot_lt {b : Nat} (h : b < 256) (k : Nat) (_ : k ≤ 8) : rot b k < 256 := xor_lt (Nat.mod_lt _ (by decide)) (Nat.lt_of_le_of_lt (Nat.div_le_self _ _) h)
theorem aff_lt {b : Nat} (h : b < 256) : aff b < 256 := xor_lt (xor_lt (xor_lt (xor_lt (xor_lt h (rot_lt h 1 (by decide))) (rot_lt h 2 (by decide))) (rot_lt h 3 (by decide))) (rot_lt h 4 (by decide))) (by decide)
theorem unaff_lt {b : Nat} (h : b < 256) : unaff b < 256 := xor_lt (xor_lt (xor_lt (rot_lt h 1 (by decide)) (rot_lt h 3 (by decide))) (rot_lt h 6 (by decide))) (by decide)
theorem sub_lt (a : Nat) : sub a < 256 := aff_lt (inv_lt a)
theorem unsub_lt (a : Nat) : unsub a < 256 := inv_lt _
theorem unaff_aff : ∀ a < 256, unaff (aff a) = a := by decide +kernel
theorem aff_unaff : ∀ a < 256, aff (unaff a) = a := by decide +kernel
theorem unsub_sub {a : Nat} (h : a < 256) : unsub (sub a) = a := by
  unfold unsub sub
  rw [unaff_aff _ (inv_lt a), inv_inv h]
theorem sub_unsub {a : Nat} (h : a < 256) : sub (unsub a) = a := by
  unfold unsub sub
  rw [inv_inv (unaff_lt h), aff_unaff a h]
theorem sub_chain {a : Nat} (h : a < 256) : sub a = aff (chain a) := by unfold sub; rw [inv_chain a h]; rfl
theorem sub_ne_table : ∀ a < 256, aff (chain a) ≠ a ∧ aff (chain a) ≠ 255 - a := by decide +kernel
theorem sub_ne {a : Nat} (h : a < 256) : sub a ≠ a ∧ sub a ≠ 255 - a := by
  rw [sub_chain h]
  exact sub_ne_table a h
theorem sub_inj {a b : Nat} (ha : a < 256) (hb : b < 256) : sub a = sub b ↔ a = b := ⟨fun h => by rw [← unsub_sub ha, h, unsub_sub hb], fun h => by rw [h]⟩
theorem frob {a b : Nat} (ha : a < 256) (hb : b < 256) : pow (a ^^^ b) 2 = pow a 2 ^^^ pow b 2 := by
  have e : ∀ x, x < 256 → pow x 2 = mul x x := fun x hx => by rw [show 2 = 1 + 1 from rfl, pow_add hx, show pow x 1 = x from one_mul hx]
  rw [e _ (xor_lt ha hb), e a ha, e b hb]
  exact square_xor ha hb
theorem pow256 {a : Nat} (h : a < 256) : pow a 256 = a := by
  by_cases h0 : a = 0
  · subst h0; exact pow_zero_pos (by decide)
  · rw [pow_mod h h0, show 256 % 255 = 1 from rfl]
    exact one_mul h
theorem pow_ne {a : Nat} (h : a < 256) (h0 : a ≠ 0) : ∀ n, pow a n ≠ 0
  | 0 => by rw [pow]; decide
  | n + 1 => fun e => (no_zero (pow_lt256 n) h e).elim (pow_ne h h0 n) h0
/-- One byte of a column that is mixed. -/
def m2 (a b c d : Nat) : Nat := mul 2 a ^^^ mul 3 b ^^^ c ^^^ d
def u2 (a b c d : Nat) : Nat := mul 14 a ^^^ mul 11 b ^^^ mul 13 c ^^^ mul 9 d
theorem m2_lt {a b c d : Nat} (hc : c < 256) (hd : d < 256) : m2 a b c d < 256 := xor_lt (xor_lt (xor_lt (mul_lt _ (by decide)) (mul_lt _ (by decide))) hc) hd
theorem u2_lt {a b c d : Nat} : u2 a b c d < 256 := xor_lt (xor_lt (xor_lt (mul_lt _ (by decide)) (mul_lt _ (by decide))) (mul_lt _ (by decide))) (mul_lt _ (by decide))
end G
/-- A column as a value. -/
abbrev q4 (a b c d : Nat) : Value := .agg #[b8 a, b8 b, b8 c, b8 d]
/-- What package gf must keep; Tb: what is known of its tables, if it has some. -/
structure GfC (Tb : World → Prop) : Prop where
  up : ∀ {W w1 : World}, Tb W → Below W.heap.size W w1 → Tb w1
  mul : ∀ (a b : Nat), a < 256 → b < 256 → ∀ w, Tb w → Calls Try.prog 50 #[b8 a, b8 b] w fun e w' => e = .returned (b8 (G.mul a b)) ∧ Below w.heap.size w w'
  pow : ∀ (a n : Nat), a < 256 → n < 18446744073709551616 → ∀ w, Tb w → Calls Try.prog 36 #[b8 a, .int .u64 (n : Int)] w fun e w' => e = .returned (b8 (G.pow a n)) ∧ Below w.heap.size w w'
  inv : ∀ (a : Nat), a < 256 → ∀ w, Tb w → Calls Try.prog 51 #[b8 a] w fun e w' => e = .returned (b8 (G.inv a)) ∧ Below w.heap.size w w'
  sub : ∀ (a : Nat), a < 256 → ∀ w, Tb w → Calls Try.prog 40 #[b8 a] w fun e w' => e = .returned (b8 (G.sub a)) ∧ Below w.heap.size w w'
  unsub : ∀ (a : Nat), a < 256 → ∀ w, Tb w → Calls Try.prog 49 #[b8 a] w fun e w' => e = .returned (b8 (G.unsub a)) ∧ Below w.heap.size w w'
  mix : ∀ (a b c d : Nat), a < 256 → b < 256 → c < 256 → d < 256 → ∀ w, Tb w → Calls Try.prog 42 #[q4 a b c d] w fun e w' => e = .returned (q4 (G.m2 a b c d) (G.m2 b c d a) (G.m2 c d a b) (G.m2 d a b c)) ∧ Below w.heap.size w w'
  unmix : ∀ (a b c d : Nat), a < 256 → b < 256 → c < 256 → d < 256 → ∀ w, Tb w → Calls Try.prog 48 #[q4 a b c d] w fun e w' => e = .returned (q4 (G.u2 a b c d) (G.u2 b c d a) (G.u2 c d a b) (G.u2 d a b c)) ∧ Below w.heap.size w w'
theorem GfC.all {Tb : World → Prop} (C : GfC Tb) {w : World} (h : Tb w) : ∀ W, Below w.heap.size w W → Tb W := fun _ hb => C.up h hb
end Go.Proofs.Ytejabkmhpiabnaa
