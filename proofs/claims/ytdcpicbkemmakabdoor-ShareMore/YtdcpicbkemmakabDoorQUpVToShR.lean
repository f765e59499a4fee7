/- Texts that were joined: UpV, UpV3, KnO, Oct, Bytes, ByN, OfB, GArr, Cpy, ScOf, SNum, Yc, Yo, ShR. -/
import Derived.Test.YtdcpicbkemmakabDoorQUpA
import Derived.Test.YtdcpicbkemmakabDoorQKnToDrawCB
import Derived.Test.YtdcpicbkemmakabDoorQFMathToIB
import Derived.Test.YtdcpicbkemmakabDoorQNumToQMath
import Derived.Test.YtdcpicbkemmakabDoorRows
import Derived.Test.YtdcpicbkemmakabDoorQEqToOf
import Derived.WalkKit
import Derived.WalkSpells
import Derived.WalkLawsBesides
import Derived.Test.YtdcpicbkemmakabDoorQPrimeLToAdN
import Derived.Test.YtdcpicbkemmakabDoorQBKToHB
import Derived.Test.YtdcpicbkemmakabDoorQUpMToUpS
import Derived.ChangeKeysEq
import Derived.Test.YtdcpicbkemmakabDoorQHHashToMacM
import Derived.Test.YtdcpicbkemmakabDoorQBsMkToHRd
import Derived.Laws.IdiomCopy
import Derived.Test.YtdcpicbkemmakabDoorQScF
import Derived.Test.YtdcpicbkemmakabDoorQUp3
import Derived.Deep.MidRow
/- A region that draws its order of evaluation, makes variables and stores into them as soon as it may, ahead of readings that don't touch them: one walk of the readings and calls serves every order. Over any program. -/
namespace Go.Proofs.YtdcpicbkemmakabDoor
open Go.RowKit
section
variable {P : Program} {ops ops1 : Array Oper} {md : Region.Mode}
theorem CD.bare {w0 w : World} {ob ob' : Nat → Obj} {D : List (Nat × Nat)} (h : CD w0 ob D w) : CD w0 ob' [] w := ⟨h.1, by simp, by simp⟩
/-- In each class of worlds the rest of the walk goes through, whatever lies in the variables. -/
def AllC (P : Program) (md : Region.Mode) (ops1 : Array Oper) (w0 : World) (aF : Act) (fuel : Nat) (listed1 : Array Bool) (a : Act) : Prop :=
  ∀ ct D, (∃ w, CD w0 ct D w) → wpAnyQ P md ops1 (CD w0 ct D) (fun a' => a' = aF) fuel listed1 a
def ct0 : Nat → Obj := fun _ => .cells #[] 0
theorem base0 (w0 : World) : CD w0 ct0 [] w0 := ⟨Below.refl _ _, by simp, by simp⟩
theorem AllC.step {w0 : World} {aF a : Act} {fuel i : Nat} {listed1 : Array Bool} {o : Oper} (h : AllC P md ops1 w0 aF (fuel + 1) listed1 a) (hi : i ∈ Region.ready md ops1 listed1) (ho : ops1[i]? = some o) :
    ∃ v, (∀ ct D, (∃ w, CD w0 ct D w) → YieldsIn P ops1 (CD w0 ct D) o v a) ∧ AllC P md ops1 w0 aF fuel (listed1.setIfInBounds i true) (a.put o.dst v) := by
  obtain ⟨v, hy, _⟩ := yieldsIn_of_qOp ho ((h ct0 [] ⟨w0, base0 w0⟩).2 i hi)
  have all : ∀ ct D, (∃ w, CD w0 ct D w) → YieldsIn P ops1 (CD w0 ct D) o v a ∧ wpAnyQ P md ops1 (CD w0 ct D) (fun a' => a' = aF) fuel (listed1.setIfInBounds i true) (a.put o.dst v) := by
    rintro ct D ⟨w, hw⟩
    obtain ⟨v', hy', hK⟩ := yieldsIn_of_qOp ho ((h ct D ⟨w, hw⟩).2 i hi)
    have e : v = v' := yields_unique (C := CD w0 ct0 []) (C' := CD w0 ct D) hw.bare hw hy hy'
    subst e
    exact ⟨hy', hK⟩
  exact ⟨v, fun ct D hD => (all ct D hD).1, fun ct D hD => (all ct D hD).2⟩
structure AtV (m1 m2 d n : Nat) (listed1 listed : Array Bool) (E U : List Nat) (D : List (Nat × Nat)) : Prop where
  size1 : listed1.size = m1
  size : listed.size = n
  same : ∀ i, i < m1 → listed[i]? = listed1[i]?
  mid : ∀ i, m1 ≤ i → i < m2 → listed[i]? = some (decide (i ∉ E))
  late : ∀ i, m1 ≤ i → i < m2 → listed[i + d]? = some (decide (i ∉ U))
  inE : ∀ i ∈ E, m1 ≤ i ∧ i < m2
  nodE : E.Nodup
  inU : ∀ i ∈ U, m1 ≤ i ∧ i < m2
  nodU : U.Nodup
  EU : ∀ i ∈ E, i ∈ U
  inD : ∀ p ∈ D, m1 ≤ p.1 ∧ p.1 < m2 ∧ p.1 ∉ E
  nodD : (D.map (·.1)).Nodup
  all : ∀ i, m1 ≤ i → i < m2 → i ∈ E ∨ ∃ k, (i, k) ∈ D
theorem AtV.set {m1 m2 d n i : Nat} {listed1 listed : Array Bool} {E U : List Nat} {D : List (Nat × Nat)} (hn : m2 + d = n) (h12 : m1 + d = m2) (h : AtV m1 m2 d n listed1 listed E U D) (hi : i < m1) : AtV m1 m2 d n (listed1.setIfInBounds i true) (listed.setIfInBounds i true) E U D := by
  refine ⟨by simp [h.size1], by simp [h.size], fun j hj => ?_, fun j hj hm => ?_, fun j hj hm => ?_, h.inE, h.nodE, h.inU, h.nodU, h.EU, h.inD, h.nodD, h.all⟩
  · rw [Array.getElem?_setIfInBounds, Array.getElem?_setIfInBounds, h.same j hj, h.size, h.size1]
    by_cases hij : i = j
    · subst hij; simp [hi, show i < n by omega]
    · simp [hij]
  · rw [Array.getElem?_setIfInBounds, if_neg (by omega)]; exact h.mid j hj hm
  · rw [Array.getElem?_setIfInBounds, if_neg (by omega)]; exact h.late j hj hm
theorem AtV.make {m1 m2 d n i k : Nat} {listed1 listed : Array Bool} {E U : List Nat} {D : List (Nat × Nat)} (hn : m2 + d = n) (h12 : m1 + d = m2) (h : AtV m1 m2 d n listed1 listed E U D) (hi : i ∈ E) : AtV m1 m2 d n listed1 (listed.setIfInBounds i true) (E.erase i) U ((i, k) :: D) := by
  have hb := h.inE i hi
  refine ⟨h.size1, by simp [h.size], fun j hj => ?_, fun j hj hm => ?_, fun j hj hm => ?_, fun j hj => h.inE j (List.mem_of_mem_erase hj), h.nodE.erase i, h.inU, h.nodU, fun j hj => h.EU j (List.mem_of_mem_erase hj), fun p hp => ?_, ?_, fun j hj hm => ?_⟩
  · rw [Array.getElem?_setIfInBounds, if_neg (by omega)]; exact h.same j hj
  · by_cases hij : i = j
    · subst hij
      have : i ∉ E.erase i := fun hm => (List.Nodup.mem_erase_iff h.nodE).1 hm |>.1 rfl
      simp [this, h.size, show i < n by omega]
    · rw [Array.getElem?_setIfInBounds, if_neg hij, h.mid j hj hm]
      simp [List.mem_erase_of_ne (Ne.symm hij)]
  · rw [Array.getElem?_setIfInBounds, if_neg (by omega)]; exact h.late j hj hm
  · rcases List.mem_cons.1 hp with rfl | hp
    · exact ⟨hb.1, hb.2, fun hm => (List.Nodup.mem_erase_iff h.nodE).1 hm |>.1 rfl⟩
    · have q := h.inD p hp
      exact ⟨q.1, q.2.1, fun hm => q.2.2 (List.mem_of_mem_erase hm)⟩
  · refine List.nodup_cons.2 ⟨fun hm => ?_, h.nodD⟩
    obtain ⟨p, hp, he⟩ := List.mem_map.1 hm
    have := (h.inD p hp).2.2
    simp only at he
    rw [he] at this
    exact this hi
  · by_cases hij : i = j
    · subst hij; exact .inr ⟨k, by simp⟩
    · rcases h.all j hj hm with h1 | ⟨k', h1⟩
      · exact .inl ((List.mem_erase_of_ne (Ne.symm hij)).2 h1)
      · exact .inr ⟨k', by simp [h1]⟩
theorem AtV.store {m1 m2 d n i : Nat} {listed1 listed : Array Bool} {E U : List Nat} {D : List (Nat × Nat)} (hn : m2 + d = n) (h12 : m1 + d = m2) (h : AtV m1 m2 d n listed1 listed E U D) (hi : i ∈ U) (hE : E = []) : AtV m1 m2 d n listed1 (listed.setIfInBounds (i + d) true) E (U.erase i) D := by
  have hb := h.inU i hi
  subst hE
  refine ⟨h.size1, by simp [h.size], fun j hj => ?_, fun j hj hm => ?_, fun j hj hm => ?_, h.inE, h.nodE, fun j hj => h.inU j (List.mem_of_mem_erase hj), h.nodU.erase i, fun j hj => absurd hj (by simp), h.inD, h.nodD, h.all⟩
  · rw [Array.getElem?_setIfInBounds, if_neg (by omega)]; exact h.same j hj
  · rw [Array.getElem?_setIfInBounds, if_neg (by omega)]; exact h.mid j hj hm
  · by_cases hij : i = j
    · subst hij
      have : i ∉ U.erase i := fun hm => (List.Nodup.mem_erase_iff h.nodU).1 hm |>.1 rfl
      simp [this, h.size, show i + d < n by omega]
    · rw [Array.getElem?_setIfInBounds, if_neg (by omega), h.late j hj hm]
      simp [List.mem_erase_of_ne (Ne.symm hij)]
end
end Go.Proofs.YtdcpicbkemmakabDoor

/- A drawn region that makes three variables and stores into them, each as soon as it may. Over any program. -/
namespace Go.Proofs.YtdcpicbkemmakabDoor
open Go.RowKit
section
variable {P : Program}
theorem Kn.three {W w1 : World} {L : List (Nat × List Value)} {k1 k2 k3 : Nat} {v1 v2 v3 : List Value} {t1 t2 t3 : TypeId} (h : Kn W L) (hb : Below W.heap.size W w1) (g1 : W.heap.size ≤ k1) (g2 : W.heap.size ≤ k2) (g3 : W.heap.size ≤ k3) (hn : k1 ≠ k2 ∧ k1 ≠ k3 ∧ k2 ≠ k3) (c1 : w1.heap[k1]? = some (.cells v1.toArray t1)) (c2 : w1.heap[k2]? = some (.cells v2.toArray t2)) (c3 : w1.heap[k3]? = some (.cells v3.toArray t3)) : Kn w1 ((k1, v1) :: (k2, v2) :: (k3, v3) :: L) := by
  have h1 := h.two hb g2 g3 hn.2.2 c2 c3
  refine ⟨?_, fun p hp => ?_⟩
  · rw [List.map_cons, List.nodup_cons]
    refine ⟨fun hm => ?_, h1.nd⟩
    rcases List.mem_cons.1 hm with e | hm
    · exact hn.1 e
    · rcases List.mem_cons.1 hm with e | hm
      · exact hn.2.1 e
      · obtain ⟨p, hp, e⟩ := List.mem_map.1 hm
        have := (h.all p hp).lt
        omega
  · rcases List.mem_cons.1 hp with rfl | hp
    · exact KBlk.of c1
    · exact h1.all p hp
end
end Go.Proofs.YtdcpicbkemmakabDoor

/- Rows that are never opened, among the known blocks: thirty-two bytes, numbers modulo P, fractions. -/
namespace Go.Proofs.YtdcpicbkemmakabDoor
open Go.RowKit
set_option linter.unusedSimpArgs false
/-- The bytes of a number, the least first. -/
def bR (n : Nat) : List Value := (List.range 32).map fun i => .int .u8 ((n / 256 ^ i % 256 : Nat) : Int)
theorem bR_length (n : Nat) : (bR n).length = 32 := by simp [bR]
def bZ : List Value := List.replicate 32 (.int .u8 0)
theorem Kn.rng {w : World} {L : List (Nat × List Value)} (h : Kn w L) (i : Nat) {k : Nat} {vs : List Value} (hp : L[i]? = some (k, vs)) : w.rangeAt k 0 vs := fun j v hv => by
  rw [Nat.zero_add]
  exact (h.all _ (List.mem_of_getElem? hp)).cell j v hv
theorem Kn.there {w : World} {L : List (Nat × List Value)} (h : Kn w L) (i : Nat) {k : Nat} {vs us : List Value} (hp : L[i]? = some (k, vs)) (hl : us.length = vs.length) : w.there k 0 us.length := fun j hj => by
  have hb := h.all _ (List.mem_of_getElem? hp)
  rw [Nat.zero_add]
  refine ⟨?_, hb.fz _⟩
  have hj' : j < vs.length := by omega
  rw [hb.cell j vs[j] (List.getElem?_eq_getElem hj')]
  rfl
theorem Kn.put {w : World} {L : List (Nat × List Value)} {k : Nat} {vs us : List Value} (h : Kn w ((k, vs) :: L)) (hl : us.length = vs.length) : Kn (w.setCells k 0 us) ((k, us) :: L) := by
  have ht := h.there 0 rfl hl
  refine ⟨h.nd, fun p hp => ?_⟩
  rcases List.mem_cons.1 hp with rfl | hp
  · refine ⟨by rw [I.size_setCells]; exact (h.all _ List.mem_cons_self).lt, fun j v hv => ?_, fun j => by rw [World.frozen?_setCells]; exact (h.all _ List.mem_cons_self).fz j⟩
    have := World.rangeAt_setCells_same w k 0 us ht j v hv
    rwa [Nat.zero_add] at this
  · have hb := h.all p (List.mem_cons_of_mem _ hp)
    have hk : p.1 ≠ k := fun e => by
      have := (List.nodup_cons.1 h.nd).1
      exact this (List.mem_map.2 ⟨p, hp, e⟩)
    exact ⟨by rw [I.size_setCells]; exact hb.lt, fun j v hv => by rw [World.cell?_setCells_out k us 0 w ⟨p.1, j, none⟩ (fun e _ => absurd e hk)]; exact hb.cell j v hv, fun j => by rw [World.frozen?_setCells]; exact hb.fz j⟩
/-- A row read whole, behind a guard too. -/
theorem wp_ldW {P : Program} {ops : Array Oper} {rest : List Oper} {o : Oper} {a : Act} {w : World} {Q : Exit → Act → World → Prop} (hgd : Region.wanted o (yielded ops a.tmps) = true) (ty : TypeId) (x : Operand) (ho : o.op = .load ty x)
    (b f : Nat) (hx : a.eval x = .pointer (some ⟨b, f, none⟩)) (cs : List Value) (d : TypeDesc) (hc : w.rangeAt b f cs) (hu : P.underlying ty = some d) (hd : d.isRow = true) (hi : (P.info? ty).map (·.size) = some cs.length)
    (h : wpList P ops Q rest (a.put o.dst (.agg cs.toArray)) w) : wpList P ops Q (o :: rest) a w :=
  wpList_step fun K hK => by simp only [hgd, if_true]; exact wp_load_mid ty x ho b f hx cs d hc hu hd hi (hK _ _ h)
end Go.Proofs.YtdcpicbkemmakabDoor

/- Eight bytes as a word, the least first: no program in sight. -/
namespace Go.Proofs.YtdcpicbkemmakabDoor
open Go.RowKit

structure Oct where
  a : Int
  b : Int
  c : Int
  d : Int
  e : Int
  f : Int
  g : Int
  i : Int
def Byte (x : Int) : Prop := 0 ≤ x ∧ x < 256
structure Oct.ok (p : Oct) : Prop where
  a : Byte p.a
  b : Byte p.b
  c : Byte p.c
  d : Byte p.d
  e : Byte p.e
  f : Byte p.f
  g : Byte p.g
  i : Byte p.i
def Oct.val (p : Oct) : Int := p.a + 256 * p.b + 65536 * p.c + 16777216 * p.d + 4294967296 * p.e + 1099511627776 * p.f + 281474976710656 * p.g + 72057594037927936 * p.i
def Oct.of (n : Int) : Oct := ⟨n % 256, n / 256 % 256, n / 65536 % 256, n / 16777216 % 256, n / 4294967296 % 256, n / 1099511627776 % 256, n / 281474976710656 % 256, n / 72057594037927936 % 256⟩
theorem Oct.of_ok (n : Int) : (Oct.of n).ok := by
  refine ⟨⟨?_, ?_⟩, ⟨?_, ?_⟩, ⟨?_, ?_⟩, ⟨?_, ?_⟩, ⟨?_, ?_⟩, ⟨?_, ?_⟩, ⟨?_, ?_⟩, ⟨?_, ?_⟩⟩ <;> simp only [Oct.of] <;> omega
theorem Oct.of_val {n : Int} (h : Word n) : (Oct.of n).val = n := by
  obtain ⟨h0, h1⟩ := h
  simp only [Oct.of, Oct.val]
  omega
end Go.Proofs.YtdcpicbkemmakabDoor

/- The contract of limb.Bytes: the bytes of a number, the least first. -/
namespace Go.Proofs.YtdcpicbkemmakabDoor
open Go.RowKit

end Go.Proofs.YtdcpicbkemmakabDoor

/- Thirty-two bytes and their number; limb.Bytes by a number. -/
namespace Go.Proofs.YtdcpicbkemmakabDoor
open Go.RowKit
set_option linter.unusedSimpArgs false
end Go.Proofs.YtdcpicbkemmakabDoor

/- limb.Of and limb.Bytes of one number, told by that number. -/
namespace Go.Proofs.YtdcpicbkemmakabDoor
open Go.RowKit
set_option linter.unusedSimpArgs false
end Go.Proofs.YtdcpicbkemmakabDoor

/- Arrays of bytes as values: an element by its place; arrays that are loaded and stored whole. -/
namespace Go.Proofs.YtdcpicbkemmakabDoor
open Go.RowKit
set_option linter.unusedSimpArgs false
section
variable {P : Program}
end
section
open Go.BigFrame
variable {ops : Array Oper} {rest : List Oper} {o : Oper} {a : Act} {C : World → Prop} {Q : Act → Prop}
end
end Go.Proofs.YtdcpicbkemmakabDoor

/- copy of bytes out of a row, and out of a slice, into a range that may be written; an array sliced from a place on. -/
namespace Go.Proofs.YtdcpicbkemmakabDoor
open Go.RowKit
set_option linter.unusedSimpArgs false
theorem By.range {w : World} {a : Option Addr} {n c : Nat} {xs : List Nat} (h : By w (.slice a n c) xs) (hp : 0 < xs.length) : ∃ g q, a = some ⟨g, q, none⟩ ∧ n = xs.length ∧ w.rangeAt g q (xs.map b8) := by
  obtain ⟨a', c', e, h1, h2, h3⟩ := h
  cases e
  obtain ⟨g, q, e, hc⟩ := h3 hp
  refine ⟨g, q, e, rfl, fun j v hj => ?_⟩
  rw [List.getElem?_map] at hj
  rcases Nat.lt_or_ge j xs.length with h | h
  · rw [hc j h]
    simp [List.getD_eq_getElem?_getD, h] at hj ⊢
    exact hj
  · simp [List.getElem?_eq_none h] at hj
end Go.Proofs.YtdcpicbkemmakabDoor

/- Package scalar, as it landed: ofHalves, Of. -/
namespace Go.Proofs.YtdcpicbkemmakabDoor
open Go.RowKit
attribute [local go_sem] World.cell?_alloc_some cell_alloc2 cell_alloc3 cell_alloc4 frozen?_alloc_cells frozen_out
set_option linter.unusedSimpArgs false
/-- The number of bytes, the least first. -/
def S.le : List Nat → Nat
  | [] => 0
  | x :: xs => x + 256 * S.le xs
theorem S.le_append : ∀ xs ys : List Nat, S.le (xs ++ ys) = S.le xs + 256 ^ xs.length * S.le ys
  | [], ys => by simp [S.le]
  | x :: xs, ys => by
    rw [List.cons_append, S.le, S.le, S.le_append xs ys, List.length_cons, Nat.pow_succ, Nat.mul_comm (256 ^ xs.length) 256, Nat.mul_assoc]
    omega
theorem S.le_zeros : ∀ n, S.le (List.replicate n 0) = 0
  | 0 => rfl
  | n + 1 => by rw [List.replicate_succ, S.le, S.le_zeros n]
theorem S.le_lt : ∀ xs : List Nat, (∀ x ∈ xs, x < 256) → S.le xs < 256 ^ xs.length
  | [], _ => by simp [S.le]
  | x :: xs, h => by
    have h1 := S.le_lt xs fun y hy => h y (List.mem_cons_of_mem _ hy)
    have h2 := h x List.mem_cons_self
    rw [S.le, List.length_cons, Nat.pow_succ]
    omega
theorem S.le_at : ∀ (xs : List Nat), (∀ x ∈ xs, x < 256) → ∀ i, S.le xs / 256 ^ i % 256 = xs.getD i 0
  | [], _, i => by simp [S.le]
  | x :: xs, h, 0 => by
    have h2 := h x List.mem_cons_self
    rw [S.le, Nat.pow_zero, Nat.div_one]
    show _ = x
    omega
  | x :: xs, h, i + 1 => by
    have h2 := h x List.mem_cons_self
    rw [S.le, Nat.pow_succ, Nat.mul_comm (256 ^ i) 256, ← Nat.div_div_eq_div_mul, show (x + 256 * S.le xs) / 256 = S.le xs by omega, S.le_at xs (fun y hy => h y (List.mem_cons_of_mem _ hy)) i]
    simp
theorem S.row {xs : List Nat} (hl : xs.length = 32) (h : ∀ x ∈ xs, x < 256) : xs.map b8 = bR (S.le xs) := by
  apply List.ext_getElem?
  intro i
  by_cases hi : i < 32
  · have h1 := S.le_at xs h i
    rw [List.getD_eq_getElem?_getD, List.getElem?_eq_getElem (by omega)] at h1
    rw [List.getElem?_map, List.getElem?_eq_getElem (by omega)]
    simp only [Option.getD_some] at h1
    simp only [bR, List.getElem?_map, List.getElem?_range hi, Option.map_some]
    rw [h1]
  · rw [List.getElem?_eq_none (by simp; omega), List.getElem?_eq_none (by rw [bR_length]; omega)]
theorem S.low {xs : List Nat} (hl : xs.length = 32) (h : ∀ x ∈ xs, x < 256) : S.le xs < 2 ^ 256 := Nat.lt_of_lt_of_le (S.le_lt xs h) (by rw [hl]; decide)
/-- Thirty-two bytes: these, and noughts behind them. -/
def S.pad (xs : List Nat) : List Nat := xs ++ List.replicate (32 - xs.length) 0
theorem S.pad_length {xs : List Nat} (h : xs.length ≤ 32) : (S.pad xs).length = 32 := by simp [S.pad]; omega
theorem S.pad_low {xs : List Nat} (h : ∀ x ∈ xs, x < 256) : ∀ x ∈ S.pad xs, x < 256 := low_app h (low_rep _)
theorem S.pad_le (xs : List Nat) : S.le (S.pad xs) = S.le xs := by rw [S.pad, S.le_append, S.le_zeros, Nat.mul_zero, Nat.add_zero]
theorem S.halves (xs : List Nat) : S.le xs = S.le (S.pad (xs.take 32)) + 2 ^ 256 * S.le (S.pad (xs.drop 32)) := by
  rw [S.pad_le, S.pad_le]
  rcases Nat.lt_or_ge 32 xs.length with h | h
  · conv => lhs; rw [← List.take_append_drop 32 xs]
    rw [S.le_append, List.length_take, Nat.min_eq_left (by omega), show (256 : Nat) ^ 32 = 2 ^ 256 by decide]
  · rw [List.take_of_length_le h, List.drop_of_length_le h, S.le, Nat.mul_zero, Nat.add_zero]
theorem Kn.fill {w : World} {L : List (Nat × List Value)} {k : Nat} {xs : List Nat} (h : Kn w ((k, bZ) :: L)) (hl : xs.length ≤ 32) (lo : ∀ x ∈ xs, x < 256) : Kn (w.setCells k 0 (xs.map b8)) ((k, bR (S.le (S.pad xs))) :: L) := by
  have hb0 := h.all _ List.mem_cons_self
  have ht : w.there k 0 (xs.map b8).length := fun j hj => by
    have hj' : j < 32 := by rw [List.length_map] at hj; omega
    rw [Nat.zero_add]
    refine ⟨?_, hb0.fz _⟩
    rw [hb0.cell j (.int .u8 0) (by show (List.replicate 32 (Value.int .u8 0))[j]? = _; rw [List.getElem?_replicate, if_pos hj'])]
    rfl
  refine ⟨h.nd, fun p hp => ?_⟩
  rcases List.mem_cons.1 hp with rfl | hp
  · refine ⟨by rw [I.size_setCells]; exact hb0.lt, fun j v hv => ?_, fun j => by rw [World.frozen?_setCells]; exact hb0.fz j⟩
    rw [← S.row (S.pad_length hl) (S.pad_low lo), S.pad, List.map_append] at hv
    by_cases hj : j < xs.length
    · have := World.rangeAt_setCells_same w k 0 (xs.map b8) ht j v (by rwa [List.getElem?_append_left (by simpa using hj)] at hv)
      rwa [Nat.zero_add] at this
    · rw [World.cell?_setCells_out k (xs.map b8) 0 w ⟨k, j, none⟩ (fun _ _ => Or.inr (by rw [List.length_map]; show 0 + xs.length ≤ j; omega))]
      rw [List.getElem?_append_right (by simpa using hj)] at hv
      refine hb0.cell j v ?_
      simp only [List.length_map, List.map_replicate, List.getElem?_replicate] at hv
      split at hv
      · rename_i hlt
        simp only [bZ, List.getElem?_replicate, show j < 32 by omega, if_true]
        exact hv
      · cases hv
  · have hb := h.all p (List.mem_cons_of_mem _ hp)
    have hk : p.1 ≠ k := fun e => by
      have := (List.nodup_cons.1 h.nd).1
      exact this (List.mem_map.2 ⟨p, hp, e⟩)
    exact ⟨by rw [I.size_setCells]; exact hb.lt, fun j v hv => by rw [World.cell?_setCells_out k _ 0 w ⟨p.1, j, none⟩ (fun e _ => absurd e hk)]; exact hb.cell j v hv, fun j => by rw [World.frozen?_setCells]; exact hb.fz j⟩
end Go.Proofs.YtdcpicbkemmakabDoor

/- The document's numbers: how often the base makes nothing; the number of bytes. -/
namespace Go.Proofs.YtdcpicbkemmakabDoor
open Go.RowKit
set_option linter.unusedSimpArgs false
attribute [local go_sem] YieldsP execOp
attribute [local simp] MP.eq_p MP.sl_p MP.sl2_p
end Go.Proofs.YtdcpicbkemmakabDoor

/- A call among the operations of a drawn region, its operands told by their values: the frame is not looked at. -/
namespace Go.Proofs.YtdcpicbkemmakabDoor
open Go.RowKit
set_option linter.unusedSimpArgs false
theorem cf_is {F : Nat} {fn : Func} (h : Tryd.prog.funcs[F]? = some fn) (hn : (fn.name == "runtime.NumGoroutine") = false) (hb : fn.body.isNone = false) (args : Array Value) (W : World) : (callFunc F args).run Tryd.prog W = .ok (.enter F args) W := by
  have hn' : ¬ fn.name = "runtime.NumGoroutine" := by simpa using hn
  have hb' : ¬ fn.body = none := fun h => by rw [h] at hb; cases hb
  simp [callFunc, h, hn', hb']
theorem yields_call0 {o : Oper} {a : Act} {w : World} {φ : Value → World → Prop} {F : Nat} (cf : ∀ (args : Array Value) (W : World), (callFunc F args).run Tryd.prog W = .ok (.enter F args) W) (tys : Array TypeId) (ho : o.op = .call { callee := .value (.func F), args := #[], argTypes := tys })
    (h : Calls Tryd.prog F #[] w fun e w' => ∃ u, e = .returned u ∧ φ u w' ∧ Below w.heap.size w w') : YieldsP Tryd.prog o a w φ := by
  have hF : a.eval (.func F) = .func (.func F) #[] #[] := rfl
  have e : (execOp a.eval o).run Tryd.prog w = .ok (.enter F #[]) w := by
    generalize a.eval = ev at *
    unfold execOp
    simp [ho, hF, go_sem, cf]
  unfold YieldsP
  rw [e]
  exact h
theorem yields_call1 {o : Oper} {a : Act} {w : World} {φ : Value → World → Prop} {F : Nat} (cf : ∀ (args : Array Value) (W : World), (callFunc F args).run Tryd.prog W = .ok (.enter F args) W) (x : Operand) (tys : Array TypeId) (ho : o.op = .call { callee := .value (.func F), args := #[x], argTypes := tys }) (v : Value) (hx : a.eval x = v)
    (h : Calls Tryd.prog F #[v] w fun e w' => ∃ u, e = .returned u ∧ φ u w' ∧ Below w.heap.size w w') : YieldsP Tryd.prog o a w φ := by
  have hF : a.eval (.func F) = .func (.func F) #[] #[] := rfl
  have e : (execOp a.eval o).run Tryd.prog w = .ok (.enter F #[v]) w := by
    generalize a.eval = ev at *
    unfold execOp
    simp [ho, hx, hF, go_sem, cf]
  unfold YieldsP
  rw [e]
  exact h
theorem yields_call2 {o : Oper} {a : Act} {w : World} {φ : Value → World → Prop} {F : Nat} (cf : ∀ (args : Array Value) (W : World), (callFunc F args).run Tryd.prog W = .ok (.enter F args) W) (x y : Operand) (tys : Array TypeId) (ho : o.op = .call { callee := .value (.func F), args := #[x, y], argTypes := tys }) (v u : Value) (hx : a.eval x = v) (hy : a.eval y = u)
    (h : Calls Tryd.prog F #[v, u] w fun e w' => ∃ u, e = .returned u ∧ φ u w' ∧ Below w.heap.size w w') : YieldsP Tryd.prog o a w φ := by
  have hF : a.eval (.func F) = .func (.func F) #[] #[] := rfl
  have e : (execOp a.eval o).run Tryd.prog w = .ok (.enter F #[v, u]) w := by
    generalize a.eval = ev at *
    unfold execOp
    simp [ho, hx, hy, hF, go_sem, cf]
  unfold YieldsP
  rw [e]
  exact h
end Go.Proofs.YtdcpicbkemmakabDoor

/- Small operations among those of a drawn region, their operands told by their values: the frame is not looked at. -/
namespace Go.Proofs.YtdcpicbkemmakabDoor
open Go.RowKit
set_option linter.unusedSimpArgs false
theorem yields_run {o : Oper} {a : Act} {w : World} {v : Value} (e : (execOp a.eval o).run Tryd.prog w = .ok (.value v) w) : YieldsP Tryd.prog o a w (MP.eq v).p := by
  unfold YieldsP
  rw [e]
  exact ⟨rfl, Below.refl _ _⟩
theorem yields_as {o : Oper} {a : Act} {w : World} {v : Value} (x : Operand) (ho : o.op = .assign x) (hx : a.eval x = v) : YieldsP Tryd.prog o a w (MP.eq v).p :=
  yields_run (by
    generalize a.eval = ev at *
    unfold execOp
    simp [ho, hx, go_sem])
end Go.Proofs.YtdcpicbkemmakabDoor

/- Rows of slices of digits; the document's differences modulo the order. -/
namespace Go.Proofs.YtdcpicbkemmakabDoor
open Go.RowKit
set_option linter.unusedSimpArgs false
/-- A store over a slice leaves all digits as they are. -/
theorem sl_set_slice {w : World} {v : Value} {xs : List Nat} {k u : Nat} {a : Option Addr} {n c : Nat} (h : Sl w v xs) (hc : w.cell? ⟨k, u, none⟩ = some (.slice a n c)) (z : Value) : Sl (w.setCell ⟨k, u, none⟩ z) v xs := by
  rcases h with h | ⟨b, o, c, e, hl, hcell⟩
  · exact .inl h
  · refine .inr ⟨b, o, c, e, hl, fun j hj => ?_⟩
    have h1 := hcell j hj
    have hne : ¬ (b = k ∧ o + j = u) := fun ⟨e1, e2⟩ => by
      rw [e1, e2, hc] at h1
      simp at h1
    rw [← h1]
    refine World.cell?_setCells_out k [z] u w ⟨b, o + j, none⟩ (fun e1 _ => ?_)
    have e1' : b = k := e1
    show o + j < u ∨ u + 1 ≤ o + j
    have : o + j ≠ u := fun e2 => hne ⟨e1', e2⟩
    omega
/-- Block g is a row of n slices, whose digits tell the numbers T; behind it the other blocks that are known. -/
def Rw2 (w : World) (g n : Nat) (T : Nat → Nat) (L : List (Nat × List Value)) : Prop := ∃ vs : List Value, vs.length = n ∧ Kn w ((g, vs) :: L) ∧ ∀ i v, vs[i]? = some v → Sl w v (P.dg (T i))
theorem Rw2.up {W w1 : World} {g n : Nat} {T : Nat → Nat} {L : List (Nat × List Value)} (h : Rw2 W g n T L) (hb : Below W.heap.size W w1) : Rw2 w1 g n T L := by
  obtain ⟨vs, h1, h2, h3⟩ := h
  exact ⟨vs, h1, h2.up hb, fun i v hv => Sl.up (h3 i v hv) hb⟩
theorem Rw2.congr {w : World} {g n : Nat} {T U : Nat → Nat} {L : List (Nat × List Value)} (h : Rw2 w g n T L) (e : ∀ i, i < n → T i = U i) : Rw2 w g n U L := by
  obtain ⟨vs, h1, h2, h3⟩ := h
  refine ⟨vs, h1, h2, fun i v hv => ?_⟩
  have := (List.getElem?_eq_some_iff.1 hv).1
  rw [← e i (by omega)]
  exact h3 i v hv
theorem Rw2.get {w : World} {g n : Nat} {T : Nat → Nat} {L : List (Nat × List Value)} (h : Rw2 w g n T L) (i : Nat) (hi : i < n) : ∃ v, w.cell? ⟨g, i, none⟩ = some v ∧ Sl w v (P.dg (T i)) := by
  obtain ⟨vs, h1, h2, h3⟩ := h
  have hv : vs[i]? = some vs[i] := List.getElem?_eq_getElem (by omega)
  exact ⟨vs[i], h2.get 0 i rfl hv, h3 i _ hv⟩
theorem Rw2.fz {w : World} {g n : Nat} {T : Nat → Nat} {L : List (Nat × List Value)} (h : Rw2 w g n T L) : ∀ j, w.frozen? ⟨g, j, none⟩ = false := by
  obtain ⟨vs, -, h2, -⟩ := h
  exact h2.fz 0 rfl
theorem Rw2.kn {w : World} {g n : Nat} {T : Nat → Nat} {L : List (Nat × List Value)} (h : Rw2 w g n T L) : Kn w L := by
  obtain ⟨vs, -, h2, -⟩ := h
  exact ⟨(List.nodup_cons.1 h2.nd).2, fun p hp => h2.all p (List.mem_cons_of_mem _ hp)⟩
theorem Rw2.set {w : World} {g n : Nat} {T : Nat → Nat} {L : List (Nat × List Value)} (h : Rw2 w g n T L) (i : Nat) (hi : i < n) {v : Value} {x : Nat} (hv : Sl w v (P.dg x)) : Rw2 (w.setCell ⟨g, i, none⟩ v) g n (fun j => if j = i then x else T j) L := by
  obtain ⟨u, hu, su⟩ := h.get i hi
  obtain ⟨a, c, rfl⟩ := su.parts
  obtain ⟨vs, h1, h2, h3⟩ := h
  refine ⟨vs.set i v, by rw [List.length_set]; exact h1, Kn.set h2 i v (by omega), fun j z hz => ?_⟩
  by_cases e : i = j
  · subst e
    rw [List.getElem?_set_self (by omega)] at hz
    cases hz
    show Sl _ _ (P.dg (if i = i then x else T i))
    rw [if_pos rfl]
    exact sl_set_slice hv hu v
  · rw [List.getElem?_set_ne e] at hz
    show Sl _ _ (P.dg (if j = i then x else T j))
    rw [if_neg (Ne.symm e)]
    exact sl_set_slice (h3 j z hz) hu v
/-- All empty as yet. -/
theorem Rw2.zero {w : World} {g n : Nat} {L : List (Nat × List Value)} (h : Kn w ((g, List.replicate n (Value.slice none 0 0)) :: L)) : Rw2 w g n (fun _ => 0) L :=
  ⟨_, List.length_replicate, h, fun i v hv => by
    have := (List.getElem?_eq_some_iff.1 hv).2
    rw [List.getElem_replicate] at this
    subst this
    exact .inl ⟨rfl, P.dg_zero⟩⟩
theorem o2 {n : Nat} (h : n < Cv.ord) : n < 2 ^ 256 := Nat.lt_trans h (by decide)
/-- A slice of one word that was made. -/
def MP.u1 (x : Nat) : MP := ⟨fun v w => ∃ b, v = .slice (some ⟨b, 0, none⟩) 1 1 ∧ w.cell? ⟨b, 0, none⟩ = some (.int .u64 (x : Int)), fun ⟨b, e, h⟩ hb => ⟨b, e, (hb.cell (p := ⟨b, 0, none⟩) (lt_of_cell h)).trans h⟩⟩
end Go.Proofs.YtdcpicbkemmakabDoor
