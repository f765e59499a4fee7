/- Texts that were joined: UpV, UpV3, KnO, Eq, Oct, Row, Bytes, ByN, Of, OfB. -/
import Derived.Test.YtdcpicbkemmakaaQUpA
import Derived.Test.YtdcpicbkemmakaaQStoreToKn
import Derived.Test.YtdcpicbkemmakaaQFMathToIB
import Derived.Test.YtdcpicbkemmakaaQNumToQMath
import Derived.Test.YtdcpicbkemmakaaRows
import Derived.ChangeKeysEq
import Derived.Deep.MidRow
import Derived.BigQuiet
import Derived.WalkKit
import Derived.WalkSpells
import Derived.WalkLawsBesides
import Derived.Test.YtdcpicbkemmakaaQMulWToNmN
import Derived.Test.YtdcpicbkemmakaaQUp
/- A region that draws its order of evaluation, makes variables and stores into them as soon as it may, ahead of readings that don't touch them: one walk of the readings and calls serves every order. Over any program. -/
namespace Go.Proofs.Ytdcpicbkemmakaa
open Go.RowKit
section
variable {P : Program} {ops ops1 : Array Oper} {md : Region.Mode}
theorem CD.bare {w0 w : World} {ob ob' : Nat → Obj} {D : List (Nat × Nat)} (h : CD w0 ob D w) : CD w0 ob' [] w := ⟨h.1, by simp, by simp⟩
/-- In each class of worlds the rest of the walk goes through, whatever lies in the variables. -/
def AllC (P : Program) (md : Region.Mode) (ops1 : Array Oper) (w0 : World) (aF : Act) (fuel : Nat) (listed1 : Array Bool) (a : Act) : Prop :=
  ∀ ct D, (∃ w, CD w0 ct D w) → wpAnyQ P md ops1 (CD w0 ct D) (fun a' => a' = aF) fuel listed1 a
def ct0 : Nat → Obj := fun _ => .cells #[] 0
theorem base0 (w0 : World) : CD w0 ct0 [] w0 := ⟨Below.refl _ _, by simp, by simp⟩
theorem AllC.step {w0 : World} {aF a : Act} {fuel i : Nat} {listed1 : Array Bool} {o : Oper} (h : AllC P md ops1 w0 aF (fuel + 1) listed1 a) (hi : i ∈ Region.ready md ops1 listed1) (ho : ops1[i]? = some o) :
    ∃ v, (∀ ct D, (∃ w, CD w0 ct D w) → YieldsIn P ops1 (CD w0 ct D) o v a) ∧ AllC P md ops1 w0 aF fuel (listed1.setIfInBounds i true) (a.put o.dst v) := by
  obtain ⟨v, hy, _⟩ := yieldsIn_of_qOp ho ((h ct0 [] ⟨w0, base0 w0⟩).2 i hi)
  have all : ∀ ct D, (∃ w, CD w0 ct D w) → YieldsIn P ops1 (CD w0 ct D) o v a ∧ wpAnyQ P md ops1 (CD w0 ct D) (fun a' => a' = aF) fuel (listed1.setIfInBounds i true) (a.put o.dst v) := by
    rintro ct D ⟨w, hw⟩
    obtain ⟨v', hy', hK⟩ := yieldsIn_of_qOp ho ((h ct D ⟨w, hw⟩).2 i hi)
    have e : v = v' := yields_unique (C := CD w0 ct0 []) (C' := CD w0 ct D) hw.bare hw hy hy'
    subst e
    exact ⟨hy', hK⟩
  exact ⟨v, fun ct D hD => (all ct D hD).1, fun ct D hD => (all ct D hD).2⟩
structure AtV (m1 m2 d n : Nat) (listed1 listed : Array Bool) (E U : List Nat) (D : List (Nat × Nat)) : Prop where
  size1 : listed1.size = m1
  size : listed.size = n
  same : ∀ i, i < m1 → listed[i]? = listed1[i]?
  mid : ∀ i, m1 ≤ i → i < m2 → listed[i]? = some (decide (i ∉ E))
  late : ∀ i, m1 ≤ i → i < m2 → listed[i + d]? = some (decide (i ∉ U))
  inE : ∀ i ∈ E, m1 ≤ i ∧ i < m2
  nodE : E.Nodup
  inU : ∀ i ∈ U, m1 ≤ i ∧ i < m2
  nodU : U.Nodup
  EU : ∀ i ∈ E, i ∈ U
  inD : ∀ p ∈ D, m1 ≤ p.1 ∧ p.1 < m2 ∧ p.1 ∉ E
  nodD : (D.map (·.1)).Nodup
  all : ∀ i, m1 ≤ i → i < m2 → i ∈ E ∨ ∃ k, (i, k) ∈ D
theorem AtV.set {m1 m2 d n i : Nat} {listed1 listed : Array Bool} {E U : List Nat} {D : List (Nat × Nat)} (hn : m2 + d = n) (h12 : m1 + d = m2) (h : AtV m1 m2 d n listed1 listed E U D) (hi : i < m1) : AtV m1 m2 d n (listed1.setIfInBounds i true) (listed.setIfInBounds i true) E U D := by
  refine ⟨by simp [h.size1], by simp [h.size], fun j hj => ?_, fun j hj hm => ?_, fun j hj hm => ?_, h.inE, h.nodE, h.inU, h.nodU, h.EU, h.inD, h.nodD, h.all⟩
  · rw [Array.getElem?_setIfInBounds, Array.getElem?_setIfInBounds, h.same j hj, h.size, h.size1]
    by_cases hij : i = j
    · subst hij; simp [hi, show i < n by omega]
    · simp [hij]
  · rw [Array.getElem?_setIfInBounds, if_neg (by omega)]; exact h.mid j hj hm
  · rw [Array.getElem?_setIfInBounds, if_neg (by omega)]; exact h.late j hj hm
theorem AtV.make {m1 m2 d n i k : Nat} {listed1 listed : Array Bool} {E U : List Nat} {D : List (Nat × Nat)} (hn : m2 + d = n) (h12 : m1 + d = m2) (h : AtV m1 m2 d n listed1 listed E U D) (hi : i ∈ E) : AtV m1 m2 d n listed1 (listed.setIfInBounds i true) (E.erase i) U ((i, k) :: D) := by
  have hb := h.inE i hi
  refine ⟨h.size1, by simp [h.size], fun j hj => ?_, fun j hj hm => ?_, fun j hj hm => ?_, fun j hj => h.inE j (List.mem_of_mem_erase hj), h.nodE.erase i, h.inU, h.nodU, fun j hj => h.EU j (List.mem_of_mem_erase hj), fun p hp => ?_, ?_, fun j hj hm => ?_⟩
  · rw [Array.getElem?_setIfInBounds, if_neg (by omega)]; exact h.same j hj
  · by_cases hij : i = j
    · subst hij
      have : i ∉ E.erase i := fun hm => (List.Nodup.mem_erase_iff h.nodE).1 hm |>.1 rfl
      simp [this, h.size, show i < n by omega]
    · rw [Array.getElem?_setIfInBounds, if_neg hij, h.mid j hj hm]
      simp [List.mem_erase_of_ne (Ne.symm hij)]
  · rw [Array.getElem?_setIfInBounds, if_neg (by omega)]; exact h.late j hj hm
  · rcases List.mem_cons.1 hp with rfl | hp
    · exact ⟨hb.1, hb.2, fun hm => (List.Nodup.mem_erase_iff h.nodE).1 hm |>.1 rfl⟩
    · have q := h.inD p hp
      exact ⟨q.1, q.2.1, fun hm => q.2.2 (List.mem_of_mem_erase hm)⟩
  · refine List.nodup_cons.2 ⟨fun hm => ?_, h.nodD⟩
    obtain ⟨p, hp, he⟩ := List.mem_map.1 hm
    have := (h.inD p hp).2.2
    simp only at he
    rw [he] at this
    exact this hi
  · by_cases hij : i = j
    · subst hij; exact .inr ⟨k, by simp⟩
    · rcases h.all j hj hm with h1 | ⟨k', h1⟩
      · exact .inl ((List.mem_erase_of_ne (Ne.symm hij)).2 h1)
      · exact .inr ⟨k', by simp [h1]⟩
theorem AtV.store {m1 m2 d n i : Nat} {listed1 listed : Array Bool} {E U : List Nat} {D : List (Nat × Nat)} (hn : m2 + d = n) (h12 : m1 + d = m2) (h : AtV m1 m2 d n listed1 listed E U D) (hi : i ∈ U) (hE : E = []) : AtV m1 m2 d n listed1 (listed.setIfInBounds (i + d) true) E (U.erase i) D := by
  have hb := h.inU i hi
  subst hE
  refine ⟨h.size1, by simp [h.size], fun j hj => ?_, fun j hj hm => ?_, fun j hj hm => ?_, h.inE, h.nodE, fun j hj => h.inU j (List.mem_of_mem_erase hj), h.nodU.erase i, fun j hj => absurd hj (by simp), h.inD, h.nodD, h.all⟩
  · rw [Array.getElem?_setIfInBounds, if_neg (by omega)]; exact h.same j hj
  · rw [Array.getElem?_setIfInBounds, if_neg (by omega)]; exact h.mid j hj hm
  · by_cases hij : i = j
    · subst hij
      have : i ∉ U.erase i := fun hm => (List.Nodup.mem_erase_iff h.nodU).1 hm |>.1 rfl
      simp [this, h.size, show i + d < n by omega]
    · rw [Array.getElem?_setIfInBounds, if_neg (by omega), h.late j hj hm]
      simp [List.mem_erase_of_ne (Ne.symm hij)]
end
end Go.Proofs.Ytdcpicbkemmakaa

/- A drawn region that makes three variables and stores into them, each as soon as it may. Over any program. -/
namespace Go.Proofs.Ytdcpicbkemmakaa
open Go.RowKit
section
variable {P : Program}
theorem Kn.three {W w1 : World} {L : List (Nat × List Value)} {k1 k2 k3 : Nat} {v1 v2 v3 : List Value} {t1 t2 t3 : TypeId} (h : Kn W L) (hb : Below W.heap.size W w1) (g1 : W.heap.size ≤ k1) (g2 : W.heap.size ≤ k2) (g3 : W.heap.size ≤ k3) (hn : k1 ≠ k2 ∧ k1 ≠ k3 ∧ k2 ≠ k3) (c1 : w1.heap[k1]? = some (.cells v1.toArray t1)) (c2 : w1.heap[k2]? = some (.cells v2.toArray t2)) (c3 : w1.heap[k3]? = some (.cells v3.toArray t3)) : Kn w1 ((k1, v1) :: (k2, v2) :: (k3, v3) :: L) := by
  have h1 := h.two hb g2 g3 hn.2.2 c2 c3
  refine ⟨?_, fun p hp => ?_⟩
  · rw [List.map_cons, List.nodup_cons]
    refine ⟨fun hm => ?_, h1.nd⟩
    rcases List.mem_cons.1 hm with e | hm
    · exact hn.1 e
    · rcases List.mem_cons.1 hm with e | hm
      · exact hn.2.1 e
      · obtain ⟨p, hp, e⟩ := List.mem_map.1 hm
        have := (h.all p hp).lt
        omega
  · rcases List.mem_cons.1 hp with rfl | hp
    · exact KBlk.of c1
    · exact h1.all p hp
end
end Go.Proofs.Ytdcpicbkemmakaa

/- Rows that are never opened, among the known blocks: thirty-two bytes, numbers modulo P, fractions. -/
namespace Go.Proofs.Ytdcpicbkemmakaa
open Go.RowKit
set_option linter.unusedSimpArgs false
/-- The bytes of a number, the least first. -/
def bR (n : Nat) : List Value := (List.range 32).map fun i => .int .u8 ((n / 256 ^ i % 256 : Nat) : Int)
theorem bR_length (n : Nat) : (bR n).length = 32 := by simp [bR]
theorem Kn.rng {w : World} {L : List (Nat × List Value)} (h : Kn w L) (i : Nat) {k : Nat} {vs : List Value} (hp : L[i]? = some (k, vs)) : w.rangeAt k 0 vs := fun j v hv => by
  rw [Nat.zero_add]
  exact (h.all _ (List.mem_of_getElem? hp)).cell j v hv
theorem Kn.there {w : World} {L : List (Nat × List Value)} (h : Kn w L) (i : Nat) {k : Nat} {vs us : List Value} (hp : L[i]? = some (k, vs)) (hl : us.length = vs.length) : w.there k 0 us.length := fun j hj => by
  have hb := h.all _ (List.mem_of_getElem? hp)
  rw [Nat.zero_add]
  refine ⟨?_, hb.fz _⟩
  have hj' : j < vs.length := by omega
  rw [hb.cell j vs[j] (List.getElem?_eq_getElem hj')]
  rfl
theorem Kn.put {w : World} {L : List (Nat × List Value)} {k : Nat} {vs us : List Value} (h : Kn w ((k, vs) :: L)) (hl : us.length = vs.length) : Kn (w.setCells k 0 us) ((k, us) :: L) := by
  have ht := h.there 0 rfl hl
  refine ⟨h.nd, fun p hp => ?_⟩
  rcases List.mem_cons.1 hp with rfl | hp
  · refine ⟨by rw [I.size_setCells]; exact (h.all _ List.mem_cons_self).lt, fun j v hv => ?_, fun j => by rw [World.frozen?_setCells]; exact (h.all _ List.mem_cons_self).fz j⟩
    have := World.rangeAt_setCells_same w k 0 us ht j v hv
    rwa [Nat.zero_add] at this
  · have hb := h.all p (List.mem_cons_of_mem _ hp)
    have hk : p.1 ≠ k := fun e => by
      have := (List.nodup_cons.1 h.nd).1
      exact this (List.mem_map.2 ⟨p, hp, e⟩)
    exact ⟨by rw [I.size_setCells]; exact hb.lt, fun j v hv => by rw [World.cell?_setCells_out k us 0 w ⟨p.1, j, none⟩ (fun e _ => absurd e hk)]; exact hb.cell j v hv, fun j => by rw [World.frozen?_setCells]; exact hb.fz j⟩
/-- A row read whole, behind a guard too. -/
theorem wp_ldW {P : Program} {ops : Array Oper} {rest : List Oper} {o : Oper} {a : Act} {w : World} {Q : Exit → Act → World → Prop} (hgd : Region.wanted o (yielded ops a.tmps) = true) (ty : TypeId) (x : Operand) (ho : o.op = .load ty x)
    (b f : Nat) (hx : a.eval x = .pointer (some ⟨b, f, none⟩)) (cs : List Value) (d : TypeDesc) (hc : w.rangeAt b f cs) (hu : P.underlying ty = some d) (hd : d.isRow = true) (hi : (P.info? ty).map (·.size) = some cs.length)
    (h : wpList P ops Q rest (a.put o.dst (.agg cs.toArray)) w) : wpList P ops Q (o :: rest) a w :=
  wpList_step fun K hK => by simp only [hgd, if_true]; exact wp_load_mid ty x ho b f hx cs d hc hu hd hi (hK _ _ h)
end Go.Proofs.Ytdcpicbkemmakaa

/- '==' and '!=' of two arrays of integers: as the rows of numbers are. Over any program. -/
namespace Go.Proofs.Ytdcpicbkemmakaa
open Go.RowKit
section
variable {P : Program}

theorem run_equalIn_intN (d : Nat) {e : TypeId} {k : IntKind} (hu : P.underlying e = some (.int k)) (a b : Int) (w : World) : (Op.equalIn (d + 1) e (.int k a) (.int k b)).run P w = .ok (a == b) w := by
  simp [Op.equalIn, run_underlying hu]
theorem run_eqItems_intsN (d : Nat) {e : TypeId} {k : IntKind} (hu : P.underlying e = some (.int k)) (hp : P.plainKey e = true) (f g : Nat → Int) (X Y : Array Value) (w : World) :
    ∀ is : List Nat, (∀ i ∈ is, X[i]? = some (.int k (f i))) → (∀ i ∈ is, Y[i]? = some (.int k (g i))) → (Op.eqItems (d + 1) e 1 X Y is).run P w = .ok (is.all fun i => f i == g i) w
  | [], _, _ => by simp [Op.eqItems]
  | i :: is, hX, hY => by
    have p1 := run_part_plain w hp (hX i (by simp))
    have p2 := run_part_plain w hp (hY i (by simp))
    have ih := run_eqItems_intsN d hu hp f g X Y w is (fun j hj => hX j (by simp [hj])) (fun j hj => hY j (by simp [hj]))
    simp only [Op.eqItems, Sem.run_bind, Nat.mul_one, p1, p2, Result.andThen_ok, run_equalIn_intN d hu]
    cases h : (f i == g i)
    · simp [h]
    · simp [h, ih]
theorem run_eql_intsN {t e : TypeId} {n : Nat} {i : TypeInfo} {k : IntKind} (ht : P.underlying t = some (.array n e)) (hi : P.info? e = some i) (hu : P.underlying e = some (.int k)) (hp : P.plainKey e = true) (hc : P.cellsOf e = 1)
    (f g : Nat → Int) (X Y : Array Value) (hX : ∀ j, j < n → X[j]? = some (.int k (f j))) (hY : ∀ j, j < n → Y[j]? = some (.int k (g j))) (w : World) :
    (binOp .eql t (.agg X) (.agg Y)).run P w = .ok (.bool ((List.range n).all fun j => f j == g j)) w := by
  simp only [binOp]
  have h := run_equalIn_array w 9999 X Y ht hi
  rw [hc, run_eqItems_intsN 9998 hu hp f g X Y w _ (fun j hj => hX j (List.mem_range.1 hj)) (fun j hj => hY j (List.mem_range.1 hj))] at h
  simp [Op.equal, Op.maxDepth, h]
theorem run_neq_intsN {t e : TypeId} {n : Nat} {i : TypeInfo} {k : IntKind} (ht : P.underlying t = some (.array n e)) (hi : P.info? e = some i) (hu : P.underlying e = some (.int k)) (hp : P.plainKey e = true) (hc : P.cellsOf e = 1)
    (f g : Nat → Int) (X Y : Array Value) (hX : ∀ j, j < n → X[j]? = some (.int k (f j))) (hY : ∀ j, j < n → Y[j]? = some (.int k (g j))) (w : World) :
    (binOp .neq t (.agg X) (.agg Y)).run P w = .ok (.bool !((List.range n).all fun j => f j == g j)) w := by
  simp only [binOp]
  have h := run_equalIn_array w 9999 X Y ht hi
  rw [hc, run_eqItems_intsN 9998 hu hp f g X Y w _ (fun j hj => hX j (List.mem_range.1 hj)) (fun j hj => hY j (List.mem_range.1 hj))] at h
  simp [Op.equal, Op.maxDepth, h]
end

/-- Are the two one? -/
def Nm.beq (x y : Nm) : Bool := (x.a == y.a) && ((x.b == y.b) && ((x.c == y.c) && (x.d == y.d)))
theorem Nm.beq_self (x : Nm) : Nm.beq x x = true := by simp [Nm.beq]
def Nm.get (x : Nm) : Nat → Int
  | 0 => x.a
  | 1 => x.b
  | 2 => x.c
  | _ => x.d
theorem Nm.get_N (x : Nm) (j : Nat) (h : j < 4) : (#[Value.int .u64 x.a, .int .u64 x.b, .int .u64 x.c, .int .u64 x.d] : Array Value)[j]? = some (.int .u64 (x.get j)) := by
  match j, h with
  | 0, _ => rfl
  | 1, _ => rfl
  | 2, _ => rfl
  | 3, _ => rfl
set_option maxRecDepth 100000 in
theorem eqN (x y : Nm) (w : World) : (binOp .eql 27 (N x) (N y)).run Try.prog w = .ok (.bool (Nm.beq x y)) w := by
  rw [run_eql_intsN (P := Try.prog) (t := 27) (e := 25) (n := 4) (k := .u64) Try.underlying27 rfl Try.underlying25 (by kernel_rfl) (by kernel_rfl) x.get y.get _ _ x.get_N y.get_N]
  simp [List.range_succ, Nm.get, Nm.beq]
set_option maxRecDepth 100000 in
theorem neN (x y : Nm) (w : World) : (binOp .neq 27 (N x) (N y)).run Try.prog w = .ok (.bool !(Nm.beq x y)) w := by
  rw [run_neq_intsN (P := Try.prog) (t := 27) (e := 25) (n := 4) (k := .u64) Try.underlying27 rfl Try.underlying25 (by kernel_rfl) (by kernel_rfl) x.get y.get _ _ x.get_N y.get_N]
  simp [List.range_succ, Nm.get, Nm.beq]
end Go.Proofs.Ytdcpicbkemmakaa

/- Eight bytes as a word, the least first: no program in sight. -/
namespace Go.Proofs.Ytdcpicbkemmakaa
open Go.RowKit

structure Oct where
  a : Int
  b : Int
  c : Int
  d : Int
  e : Int
  f : Int
  g : Int
  i : Int
def Byte (x : Int) : Prop := 0 ≤ x ∧ x < 256
structure Oct.ok (p : Oct) : Prop where
  a : Byte p.a
  b : Byte p.b
  c : Byte p.c
  d : Byte p.d
  e : Byte p.e
  f : Byte p.f
  g : Byte p.g
  i : Byte p.i
def Oct.val (p : Oct) : Int := p.a + 256 * p.b + 65536 * p.c + 16777216 * p.d + 4294967296 * p.e + 1099511627776 * p.f + 281474976710656 * p.g + 72057594037927936 * p.i
def Oct.of (n : Int) : Oct := ⟨n % 256, n / 256 % 256, n / 65536 % 256, n / 16777216 % 256, n / 4294967296 % 256, n / 1099511627776 % 256, n / 281474976710656 % 256, n / 72057594037927936 % 256⟩
theorem Oct.of_ok (n : Int) : (Oct.of n).ok := by
  refine ⟨⟨?_, ?_⟩, ⟨?_, ?_⟩, ⟨?_, ?_⟩, ⟨?_, ?_⟩, ⟨?_, ?_⟩, ⟨?_, ?_⟩, ⟨?_, ?_⟩, ⟨?_, ?_⟩⟩ <;> simp only [Oct.of] <;> omega
theorem Oct.of_val {n : Int} (h : Word n) : (Oct.of n).val = n := by
  obtain ⟨h0, h1⟩ := h
  simp only [Oct.of, Oct.val]
  omega
end Go.Proofs.Ytdcpicbkemmakaa

/- Rows of bytes: a value of thirty-two bytes, where it lies, how it is read and stored whole. -/
namespace Go.Proofs.Ytdcpicbkemmakaa
open Go.RowKit

/-- The bytes xs lie in block k. -/
def LiesB (w : World) (k : Nat) (xs : List Int) : Prop := w.rangeAt k 0 (xs.map (Value.int .u8))
theorem LiesB.cell {w : World} {k : Nat} {xs : List Int} (h : LiesB w k xs) {j : Nat} {v : Int} (hj : xs[j]? = some v) : w.cell? ⟨k, j, none⟩ = some (.int .u8 v) := by
  have := h j (.int .u8 v) (by simp [hj])
  simpa using this
theorem LiesB.up {W w1 : World} {k : Nat} {xs : List Int} (h : LiesB W k xs) (hb : Below W.heap.size W w1) : LiesB w1 k xs := by
  intro j v hv
  have := h j v hv
  rw [hb.cell (p := ⟨k, 0 + j, none⟩) (lt_of_cell this)]
  exact this
end Go.Proofs.Ytdcpicbkemmakaa

/- The contract of limb.Bytes: the bytes of a number, the least first. -/
namespace Go.Proofs.Ytdcpicbkemmakaa
open Go.RowKit

end Go.Proofs.Ytdcpicbkemmakaa

/- Thirty-two bytes and their number; limb.Bytes by a number. -/
namespace Go.Proofs.Ytdcpicbkemmakaa
open Go.RowKit
set_option linter.unusedSimpArgs false
end Go.Proofs.Ytdcpicbkemmakaa

/- The contract of limb.Of: a number of its bytes. -/
namespace Go.Proofs.Ytdcpicbkemmakaa
open Go.RowKit
attribute [local go_sem] setCell_drewN

/-- What word j is behind the first k bytes. -/
def acc (xs : List Int) : Nat → Nat → Int
  | 0, _ => 0
  | k + 1, j => acc xs k j + if k / 8 = j then xs.getD k 0 * 2 ^ (k % 8 * 8) else 0
end Go.Proofs.Ytdcpicbkemmakaa

/- limb.Of and limb.Bytes of one number, told by that number. -/
namespace Go.Proofs.Ytdcpicbkemmakaa
open Go.RowKit
set_option linter.unusedSimpArgs false
end Go.Proofs.Ytdcpicbkemmakaa
