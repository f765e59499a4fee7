/- Texts that were joined: DerW, DerWr, DerM, DerF, DerFi, AtBd, DerRF, UpS, UpX, UpR, KnE, AtA. -/
import Derived.Test.YtepaapiflkkghaaQBKToAtD
import Derived.Test.YtepaapiflkkghaaQAtOToAtCd
import Derived.Laws.IdiomStrings
import Derived.Test.YtepaapiflkkghaaQUpMToUpMG
import Derived.Deep.MidRow
import Derived.Laws.IdiomCopy
import Derived.Test.YtepaapiflkkghaaQNumToKn
import Derived.Test.YtepaapiflkkghaaQAtCw
/- Items: what a slice of them holds; the contract of der.Write. -/
namespace Go.Proofs.Ytepaapiflkkghaa
open Go.RowKit
structure It where
  tag : Nat
  body : List Nat
/-- The LENGTH of n bytes. -/
def lenB (n : Nat) : List Nat := if n < 128 then [n] else if n < 256 then [129, n] else [130, n / 256, n % 256]
def It.text (x : It) : List Nat := x.tag :: (lenB x.body.length ++ x.body)
def texts (l : List It) : List Nat := l.flatMap It.text
/-- The slice v holds the items l. -/
def Its (w : World) (v : Value) (l : List It) : Prop :=
  ∃ a c, v = .slice a l.length c ∧ l.length ≤ c ∧ (a = none → c = 0) ∧ (0 < l.length → ∃ b o, a = some ⟨b, o, none⟩ ∧ ∀ j x, l[j]? = some x → w.cell? ⟨b, o + j * 2, none⟩ = some (b8 x.tag) ∧ ∃ u, w.cell? ⟨b, o + j * 2 + 1, none⟩ = some u ∧ By w u x.body)
theorem Its.up {W w1 : World} {v : Value} {l : List It} {B : Nat} (h : Its W v l) (hb : Below B W w1) (hB : W.heap.size ≤ B) : Its w1 v l := by
  obtain ⟨a, c, e, h1, h2, h3⟩ := h
  refine ⟨a, c, e, h1, h2, fun hp => ?_⟩
  obtain ⟨b, o, e2, hc⟩ := h3 hp
  refine ⟨b, o, e2, fun j x hx => ?_⟩
  obtain ⟨t1, u, t2, t3⟩ := hc j x hx
  exact ⟨(hb.cell (p := ⟨b, _, none⟩) (Nat.lt_of_lt_of_le (lt_of_cellB t1) hB)).trans t1, u, (hb.cell (p := ⟨b, _, none⟩) (Nat.lt_of_lt_of_le (lt_of_cellB t2) hB)).trans t2, t3.up hb hB⟩
end Go.Proofs.Ytepaapiflkkghaa

/- The contract of der.Write. -/
namespace Go.Proofs.Ytepaapiflkkghaa
open Go.RowKit
theorem By.len {w : World} {v : Value} {xs : List Nat} (h : By w v xs) : ∃ a c, v = .slice a xs.length c := by
  obtain ⟨a, c, e, _⟩ := h
  exact ⟨a, c, e⟩
theorem Ob.below {w w' : World} {B : Nat} {v : Value} {xs : List Nat} (h : Ob w B v xs) (hg : w.grownBy w' v.ownBlock) (hB : B ≤ w.heap.size) : Below B w w' :=
  Below.grown (Below.refl _ _) hg hB fun k hk => (h.lt k hk).1
/-- One item in a slice. -/
theorem Its.one {w : World} {b : Nat} {x : It} {u : Value} (h0 : w.cell? ⟨b, 0, none⟩ = some (b8 x.tag)) (h1 : w.cell? ⟨b, 1, none⟩ = some u) (hb : By w u x.body) : Its w (.slice (some ⟨b, 0, none⟩) 1 1) [x] :=
  ⟨_, 1, rfl, Nat.le_refl _, (fun h => by cases h), fun _ => ⟨b, 0, rfl, fun j y hy => by
    match j, hy with
    | 0, hy =>
      obtain rfl : x = y := by simpa using hy
      exact ⟨by simpa using h0, u, by simpa using h1, hb⟩⟩⟩
end Go.Proofs.Ytepaapiflkkghaa

/- Items as texts: what is read of bytes, and that what was written is read as it was. -/
namespace Go.Proofs.Ytepaapiflkkghaa
end Go.Proofs.Ytepaapiflkkghaa

/- The contracts of der.readLength and der.First. -/
namespace Go.Proofs.Ytepaapiflkkghaa
open Go.RowKit
abbrev i64 (n : Nat) : Value := .int .i64 ((n : Nat) : Int)
set_option linter.unusedSimpArgs false
end Go.Proofs.Ytepaapiflkkghaa

/- The contract of der.First. -/
namespace Go.Proofs.Ytepaapiflkkghaa
open Go.RowKit
set_option linter.unusedSimpArgs false
/-- Bytes that lie in a block of bytes. -/
def Bk (w : World) (u : Value) (xs : List Nat) : Prop := By w u xs ∧ ∀ g, u.ownBlock = some g → ∃ cur m, w.heap[g]? = some (.cells cur 5 m)
theorem Ob.bk {w : World} {B : Nat} {v : Value} {xs : List Nat} (h : Ob w B v xs) : Bk w v xs := ⟨h.by, fun _ hg => let ⟨cur, e⟩ := h.obj hg; ⟨cur, _, e⟩⟩
theorem Bk.up {W w1 : World} {v : Value} {xs : List Nat} (h : Bk W v xs) (hb : Below W.heap.size W w1) : Bk w1 v xs :=
  ⟨h.1.up hb (Nat.le_refl _), fun g hg => let ⟨cur, m, e⟩ := h.2 g hg; ⟨cur, m, (hb.block g (Array.getElem?_eq_some_iff.1 e).1).trans e⟩⟩
theorem By.tail {w : World} {bk o c : Nat} {b : List Nat} (h : ∀ j, j < b.length → w.cell? ⟨bk, o + j, none⟩ = some (b8 (b.getD j 0))) (hl : 1 ≤ b.length) (hc : b.length ≤ c) (A : Option Addr) (hA : A = if c = 1 then some ⟨bk, o, none⟩ else some ⟨bk, o + 1, none⟩) : By w (.slice A (b.length - 1) (c - 1)) b.tail := by
  have e : b.tail.length = b.length - 1 := by simp
  refine ⟨A, c - 1, by rw [e], by omega, ?_, fun hp => ?_⟩
  · intro h0
    rw [h0] at hA
    split at hA <;> cases hA
  · rw [if_neg (by omega)] at hA
    refine ⟨bk, o + 1, hA, fun j hj => ?_⟩
    have := h (j + 1) (by omega)
    rw [Nat.add_assoc, Nat.add_comm 1 j, this]
    congr 2
    match b, hl with
    | t :: r, _ => simp
theorem By.mid {w : World} {bk o c s n : Nat} {b : List Nat} (h : ∀ j, j < b.length → w.cell? ⟨bk, o + j, none⟩ = some (b8 (b.getD j 0))) (hl : s + n ≤ b.length) (hc : b.length ≤ c) (A : Option Addr) (hA : A = if c = s then some ⟨bk, o, none⟩ else some ⟨bk, o + s, none⟩) : By w (.slice A n (c - s)) ((b.drop s).take n) := by
  have e : ((b.drop s).take n).length = n := by simp; omega
  refine ⟨A, c - s, by rw [e], by omega, ?_, fun hp => ?_⟩
  · intro h0
    rw [h0] at hA
    split at hA <;> cases hA
  · rw [if_neg (by omega)] at hA
    refine ⟨bk, o + s, hA, fun j hj => ?_⟩
    have := h (s + j) (by omega)
    rw [Nat.add_assoc, this]
    congr 2
    simp [List.getD_eq_getElem?_getD, List.getElem?_take, show j < n by omega]
theorem Ob.set {w : World} {B k j : Nat} {v y : Value} {xs : List Nat} (h : Ob w B v xs) (hne : some k ≠ v.ownBlock) : Ob (w.setCell ⟨k, j, none⟩ y) B v xs := by
  refine ⟨h.1, ?_⟩
  rcases h.2 with h' | ⟨g, cap, cur, e, hB, hg, rest⟩
  · exact .inl h'
  · refine .inr ⟨g, cap, cur, e, hB, ?_, rest⟩
    rw [Below.heap_setCell _ _ _ _ (fun e2 => hne (by rw [e]; exact congrArg some e2.symm))]
    exact hg
end Go.Proofs.Ytepaapiflkkghaa

/- One attribute built; bytes of a row of their own beside a row of attributes. -/
namespace Go.Proofs.Ytepaapiflkkghaa
open Go.RowKit
attribute [local go_sem] World.cell?_alloc_some cell_alloc2 cell_alloc3 cell_alloc4 frozen?_alloc_cells frozen_out
set_option linter.unusedSimpArgs false
theorem Bk.vk {w : World} {B : Nat} {u : Value} {xs : List Nat} (h : Bk w u xs) : Vk w B u xs := ⟨h.1, fun _ g hg => .inr (h.2 g hg)⟩
theorem wp_buildAt {ops : Array Oper} {rest : List Oper} {o : Oper} {a : Act} {Q : Exit → Act → World → Prop} {w : World} (hgd : o.guard = none) (x y : Operand) (ho : o.op = .build 64 #[(0, x), (1, y)]) (X : Int) (d : Option Addr) (n c : Nat) (hx : a.eval x = .int .i64 X) (hy : a.eval y = .slice d n c)
    (h : wpList Try.prog ops Q rest (a.put o.dst (.agg #[.int .i64 X, .slice d n c])) w) : wpList Try.prog ops Q (o :: rest) a w := by
  refine wpList_plain hgd fun K hK => ?_
  have hb : Try.prog.built 64 [(0, .int .i64 X), (1, .slice d n c)] = some #[.int .i64 X, .slice d n c] := by kernel_rfl
  have e : (Instr.build 64 ((#[(0, x), (1, y)] : Array (Nat × Operand)).map fun q => (q.fst, a.eval q.snd))).run Try.prog w = .ok (.agg #[.int .i64 X, .slice d n c]) w := run_build w 64 _ _ (by simpa [hx, hy] using hb)
  unfold Oper.wp
  simp only [execOp, ho, Sem.run_bind, e, Result.andThen_ok, Sem.run_pure]
  exact hK _ _ h
theorem run_bsA (X : Int) (d : Option Addr) (n c : Nat) (w : World) : (Instr.buildSlice 22 1 #[(0, .agg #[.int .i64 X, .slice d n c])]).run Try.prog w = .ok (.slice (some ⟨w.heap.size, 0, none⟩) 1 1) (w.alloc (.cells #[.int .i64 X, .slice d n c] 64)) := by kernel_rfl
theorem wp_bsA {ops : Array Oper} {rest : List Oper} {o : Oper} {a : Act} {Q : Exit → Act → World → Prop} {w : World} (hgd : o.guard = none) (x : Operand) (ho : o.op = .buildSlice 22 1 #[(0, x)]) (X : Int) (d : Option Addr) (n c : Nat) (hx : a.eval x = .agg #[.int .i64 X, .slice d n c])
    (h : wpList Try.prog ops Q rest (a.put o.dst (.slice (some ⟨w.heap.size, 0, none⟩) 1 1)) (w.alloc (.cells #[.int .i64 X, .slice d n c] 64))) : wpList Try.prog ops Q (o :: rest) a w := by
  refine wpList_plain hgd fun K hK => ?_
  have e := run_bsA X d n c w
  unfold Oper.wp
  simp only [execOp, ho, Sem.run_bind, Array.map, hx]
  simp [hx, e]
  exact hK _ _ h
theorem ats_one {W : World} {b : Nat} {x : Ar} {u : Value} (c0 : W.cell? ⟨b, 0, none⟩ = some (.int .i64 x.k)) (c1 : W.cell? ⟨b, 1, none⟩ = some u) (hu : By W u x.v) : Ats W (.slice (some ⟨b, 0, none⟩) 1 1) [x] :=
  ⟨_, 1, rfl, Nat.le_refl _, (fun h => by cases h), fun _ => ⟨b, 0, rfl, fun j y hy => by
    have hj := (List.getElem?_eq_some_iff.1 hy).1
    obtain rfl : j = 0 := by simp only [List.length_cons, List.length_nil] at hj; omega
    obtain rfl := Option.some.inj hy
    exact ⟨c0, u, c1, hu⟩⟩⟩
end Go.Proofs.Ytepaapiflkkghaa

/- The contract of sealringref.FirstItem. -/
namespace Go.Proofs.Ytepaapiflkkghaa
open Go.RowKit
set_option linter.unusedSimpArgs false
theorem by_row {w : World} {k cap : Nat} {xs : List Nat} {m : Nat × Nat} (low : ∀ x ∈ xs, x < 256) (h : w.heap[k]? = some (.cells (bytesRow (sOf xs) cap) 5 m)) (hc : xs.length ≤ cap) : Bk w (.slice (some ⟨k, 0, none⟩) xs.length cap) xs := by
  refine ⟨By.of_cells hc fun j hj => ?_, fun g hg => ?_⟩
  · have hlow := low _ (List.getElem_mem hj)
    unfold World.cell?
    rw [h]
    unfold bytesRow
    simp only
    rw [Array.getElem?_append_left (by simp [sOf]; exact hj)]
    simp [sOf, hj, Nat.mod_eq_of_lt hlow]
  · obtain rfl : k = g := Option.some.inj hg
    exact ⟨_, _, h⟩
end Go.Proofs.Ytepaapiflkkghaa

/- A drawn region whose operations each yield a value with a property that stays, and whose last ones wait for all others, by whatever chain, and come one by one. -/
namespace Go.Proofs.Ytepaapiflkkghaa
open Go.RowKit
section
variable {P : Program}
end
end Go.Proofs.Ytepaapiflkkghaa

/- As UpS's law, where one operation that reads no memory (an extract, a move) may come late: it is taken as soon as it can be. -/
namespace Go.Proofs.Ytepaapiflkkghaa
open Go.RowKit
section
variable {P : Program}
end
end Go.Proofs.Ytepaapiflkkghaa

/- A drawn region that ends in two rows stored whole (as in 'return f(x), y'): each early operation yields a value with a property that stays; some of them (loads of rows that nobody here writes, builds) may come behind the first store: they are taken as soon as they can be. -/
namespace Go.Proofs.Ytepaapiflkkghaa
open Go.RowKit
section
variable {P : Program}
/-- The blocks that stood are as they were, but two. -/
def SameBut (w : World) (k1 k2 : Nat) (W : World) : Prop := ∀ k, k < w.heap.size → k ≠ k1 → k ≠ k2 → W.heap[k]? = w.heap[k]?
theorem heap_setCells_ne (k j : Nat) (hj : j ≠ k) : ∀ (vs : List Value) (o : Nat) (w : World), (w.setCells k o vs).heap[j]? = w.heap[j]?
  | [], _, _ => rfl
  | v :: r, o, w => by
    rw [World.setCells, heap_setCells_ne k j hj r]
    simp [World.setCell, Array.getElem?_modify, Ne.symm hj]
theorem SameBut.put {w W : World} {k1 k2 k : Nat} (h : SameBut w k1 k2 W) (hk : k = k1 ∨ k = k2) (o : Nat) (vs : List Value) : SameBut w k1 k2 (W.setCells k o vs) := fun j hj h1 h2 => by
  rw [heap_setCells_ne k j (by rcases hk with rfl | rfl <;> assumption)]
  exact h j hj h1 h2
/-- What the last two are. -/
structure TwoSt (P : Program) (o1 o2 : Oper) (t1 t2 : TypeId) (x1 y1 x2 y2 : Operand) (c1 c2 : List Value) : Prop where
  g1 : o1.guard = none
  g2 : o2.guard = none
  d1 : o1.dst = none
  d2 : o2.dst = none
  e1 : o1.op = .store t1 x1 y1
  e2 : o2.op = .store t2 x2 y2
  i1 : (P.info? t1).map (·.size) = some c1.length
  i2 : (P.info? t2).map (·.size) = some c2.length
  s1 : ∀ v ∈ c1, v.oneCell' = true
  s2 : ∀ v ∈ c2, v.oneCell' = true
structure TwoAt (a : Act) (w : World) (x1 y1 x2 y2 : Operand) (k1 k2 : Nat) (c1 c2 : List Value) : Prop where
  x1 : a.eval x1 = .pointer (some ⟨k1, 0, none⟩)
  y1 : a.eval y1 = .agg c1.toArray
  x2 : a.eval x2 = .pointer (some ⟨k2, 0, none⟩)
  y2 : a.eval y2 = .agg c2.toArray
  t1 : w.there k1 0 c1.length
  t2 : w.there k2 0 c2.length
end
end Go.Proofs.Ytepaapiflkkghaa

/- Two known blocks are not one; what stays where two blocks change. -/
namespace Go.Proofs.Ytepaapiflkkghaa
open Go.RowKit
set_option linter.unusedSimpArgs false
theorem Kn.ne {w : World} {L : List (Nat × List Value)} (h : Kn w L) (i j : Nat) {a b : Nat} {x y : List Value} (hi : L[i]? = some (a, x)) (hj : L[j]? = some (b, y)) (hij : i ≠ j) : a ≠ b := fun e => by
  subst e
  have h1 : (L.map Prod.fst)[i]? = some a := by rw [List.getElem?_map, hi]; rfl
  have h2 : (L.map Prod.fst)[j]? = some a := by rw [List.getElem?_map, hj]; rfl
  exact hij ((List.getElem?_inj (List.getElem?_eq_some_iff.1 h1).1 h.nd).1 (h1.trans h2.symm))
theorem SameBut.rng {w W : World} {k1 k2 k : Nat} {vs : List Value} (h : SameBut w k1 k2 W) (hr : w.rangeAt k 0 vs) (h1 : k ≠ k1) (h2 : k ≠ k2) (hl : k < w.heap.size) : W.rangeAt k 0 vs := fun j v hv => by
  have e := h k hl h1 h2
  have := hr j v hv
  unfold World.cell? at this ⊢
  simp only [e]
  exact this
/-- What is known of blocks that are as they were. -/
theorem Kn.stay {W w1 : World} {L : List (Nat × List Value)} (h : Kn W L) (e : ∀ p ∈ L, w1.heap[p.1]? = W.heap[p.1]?) : Kn w1 L :=
  ⟨h.nd, fun p hp => by
    have hB := h.all p hp
    have he := e p hp
    refine ⟨?_, fun j v hv => ?_, fun j => ?_⟩
    · have h1 := hB.lt
      exact (Array.getElem?_eq_some_iff.1 (he.trans (Array.getElem?_eq_getElem h1))).1
    · rw [← hB.cell j v hv]
      simp [World.cell?, he]
    · rw [← hB.fz j]
      simp [World.frozen?, he]⟩
end Go.Proofs.Ytepaapiflkkghaa

/- The document's card of attributes: Attrs. -/
namespace Go.Proofs.Ytepaapiflkkghaa
open Go.RowKit
attribute [local go_sem] World.cell?_alloc_some cell_alloc2 cell_alloc3 cell_alloc4 frozen?_alloc_cells frozen_out
set_option linter.unusedSimpArgs false
/-- []byte(s). -/
theorem wp_toB {ops : Array Oper} {rest : List Oper} {o : Oper} {a : Act} {Q : Exit → Act → World → Prop} {w : World} (hgd : o.guard = none) (x : Operand) (ho : o.op = .convert 9 42 x) (xs : List Nat) (low : ∀ y ∈ xs, y < 256) (hx : a.eval x = .string (sOf xs))
    (h : ∀ c w', Bk w' (.slice (some ⟨w.heap.size, 0, none⟩) xs.length c) xs → Below w.heap.size w w' → w'.heap.size = w.heap.size + 1 → wpList Try.prog ops Q rest (a.put o.dst (.slice (some ⟨w.heap.size, 0, none⟩) xs.length c)) w') : wpList Try.prog ops Q (o :: rest) a w := by
  refine wpList_plain hgd fun K hK => ?_
  have e0 := run_bytes_of_string (P := Try.prog) w 9 42 5 (sOf xs) Try.uStr Try.uBytes Try.uU8
  rw [sOf_size] at e0
  have e : (execOp a.eval o).run Try.prog w = .ok (.value (.slice (some ⟨w.heap.size, 0, none⟩) xs.length (grownCap w xs.length 0 5))) (w.drew.alloc (.cells (bytesRow (sOf xs) (grownCap w xs.length 0 5)) 5 ((bytesRow (sOf xs) (grownCap w xs.length 0 5)).size, (bytesRow (sOf xs) (grownCap w xs.length 0 5)).size + 1))) := by
    generalize a.eval = ev at *
    unfold execOp
    simp [ho, hx, e0]
  have hc : xs.length ≤ grownCap w xs.length 0 5 := by
    have := grownCap_ge w xs.length 0 5
    omega
  unfold Oper.wp
  rw [e]
  refine hK _ _ (h _ _ ?_ ?_ ?_)
  · generalize hrow : bytesRow (sOf xs) (grownCap w xs.length 0 5) = row
    refine by_row (m := (row.size, row.size + 1)) low ?_ hc
    rw [← hrow]
    have := heap_alloc_new w.drew (.cells (bytesRow (sOf xs) (grownCap w xs.length 0 5)) 5 ((bytesRow (sOf xs) (grownCap w xs.length 0 5)).size, (bytesRow (sOf xs) (grownCap w xs.length 0 5)).size + 1))
    exact this
  · exact ((Below.refl _ _).drew).alloc (Nat.le_refl _) _
  · simp
set_option maxRecDepth 20000 in
set_option maxHeartbeats 4000000 in
theorem attrs_walk (f : Nat → Option (List Nat)) (lo : ∀ i v, f i = some v → lowB v) (w : World) :
    Calls Try.prog 19 #[.agg (crdC f).toArray] w fun e w' => (∃ v, e = .returned v ∧ Oa w' (w.heap.size + 1) v (atsF f 19)) ∧ Below w.heap.size w w' := by
  have LO : Hid (∀ i v, f i = some v → lowB v) := lo
  clear lo
  have s0 : Hid (Kn (w.alloc (.cells (crdC f).toArray 31)) [(w.heap.size, crdC f)]) := (Kn.nil w).al (crdC f) 31 rfl
  have b0 : Hid (Below w.heap.size w (w.alloc (.cells (crdC f).toArray 31))) := (Below.refl _ _).alloc (Nat.le_refl _) _
  have o0 : Hid (Oa (w.alloc (.cells (crdC f).toArray 31)) (w.heap.size + 1) (.slice none 0 0) (atsF f 0)) := Oa.nil _ _
  go_enter Try.func19, Try.ntmps19
  go_wp2_with fail
  go_loopw [3, 5] (fun u i wr => ∃ j : Nat, j ≤ 19 ∧ i = .int .i64 (j : Int) ∧ Hid (Oa wr (w.heap.size + 1) u (atsF f j)) ∧ Hid (Kn wr [(w.heap.size, crdC f)]) ∧ Hid (Below w.heap.size w wr)) (fun _ i _ => 19 - (intOf i).toNat)
  case atStart => exact ⟨0, Nat.zero_le _, rfl, o0, s0, b0⟩
  case round =>
    clear s0 b0 o0
    obtain ⟨j, hj, rfl, ok, sk, bk⟩ := hrel
    obtain ⟨ua, uc, eu⟩ := ats_parts ok.out.ats
    by_cases hlt : j < 19
    · have i1 : (j : Int) < 19 := by omega
      have i0 : (0 : Int) ≤ (j : Int) := by omega
      have HJ : Hid (j < 19) := hlt
      have c0 := Kn.get sk.out 0 j rfl (crdC_has f hlt)
      have c1 := Kn.get sk.out 0 (19 + j) rfl (crdC_val f hlt)
      clear hlt hj
      cases hf : f j with
      | none =>
        rw [hf] at c0
        have e : atsF f (j + 1) = atsF f j := by rw [atsF, hf, List.append_nil]
        rw [← e] at ok
        clear c1 e eu
        go_wp2_with fail
        clear c0
        go_roundw
        case rel => exact ⟨j + 1, HJ.out, by go_num, ok, sk, bk⟩
        case measure => simp [intOf]; have := HJ.out; omega
      | some v =>
        rw [hf] at c0 c1
        have low := LO.out j v hf
        have e : Hid (atsF f (j + 1) = atsF f j ++ [⟨(j : Int), v⟩]) := by show _ = _; rw [atsF, hf]
        have LN : Hid ((atsF f j).length ≤ 19) := Nat.le_trans (atsF_len f j) (Nat.le_of_lt HJ.out)
        subst eu
        have W1 : Hid (w.heap.size + 1 ≤ wr.heap.size) := (sk.out.all (w.heap.size, crdC f) (by simp)).lt
        generalize (atsF f j).length = nn at *
        clear hf
        go_wp2_with (refine wp_toB rfl _ rfl v low rfl ?_)
        intro c w1 hu1 hb1 hz1
        have U1 : Hid (Bk w1 (.slice (some ⟨wr.heap.size, 0, none⟩) v.length c) v) := hu1
        have s1 : Hid (Kn w1 [(w.heap.size, crdC f)]) := sk.out.up hb1
        have ok1 : Hid (Oa w1 (w.heap.size + 1) (.slice ua nn uc) (atsF f j)) := ok.out.up hb1
        have b1 : Hid (Below w.heap.size w w1) := bk.out.trans (hb1.mono bk.out.size)
        have W2 : Hid (w.heap.size + 1 ≤ w1.heap.size) := Nat.le_trans W1.out hb1.size
        clear hu1 hb1 hz1 sk ok bk c0 c1 W1 low
        generalize v.length = m at *
        have ba : Below w1.heap.size w1 (w1.alloc (.cells #[.int .i64 (j : Int), .slice (some ⟨wr.heap.size, 0, none⟩) m c] 64)) := (Below.refl _ _).alloc (Nat.le_refl _) _
        have s2 : Hid (Kn (w1.alloc (.cells #[.int .i64 (j : Int), .slice (some ⟨wr.heap.size, 0, none⟩) m c] 64)) [(w.heap.size, crdC f)]) := s1.out.up ba
        have ok2 : Hid (Oa (w1.alloc (.cells #[.int .i64 (j : Int), .slice (some ⟨wr.heap.size, 0, none⟩) m c] 64)) (w.heap.size + 1) (.slice ua nn uc) (atsF f j)) := ok1.out.up ba
        have b2 : Hid (Below w.heap.size w (w1.alloc (.cells #[.int .i64 (j : Int), .slice (some ⟨wr.heap.size, 0, none⟩) m c] 64))) := b1.out.trans (ba.mono b1.out.size)
        have one : Hid (As (w1.alloc (.cells #[.int .i64 (j : Int), .slice (some ⟨wr.heap.size, 0, none⟩) m c] 64)) (w.heap.size + 1) (.slice (some ⟨w1.heap.size, 0, none⟩) 1 1) [⟨(j : Int), v⟩]) := As.one ⟨(j : Int), v⟩ _ ((U1.out.up ba).vk) w1.heap.size (cell_top rfl) (cell_top rfl)
        have W3 : Hid (w.heap.size + 1 ≤ (w1.alloc (.cells #[.int .i64 (j : Int), .slice (some ⟨wr.heap.size, 0, none⟩) m c] 64)).heap.size) := Nat.le_trans W2.out ba.size
        clear s1 ok1 b1 ba U1 W2
        go_wp2_with (first | refine wp_buildAt rfl _ _ rfl (j : Int) _ _ _ rfl rfl ?_ | refine wp_bsA rfl _ rfl (j : Int) _ _ _ rfl ?_ | refine wp_appA rfl _ _ rfl (w.heap.size + 1) _ _ (atsF f j) [⟨(j : Int), v⟩] rfl ok2.out rfl one.out (by have := atsF_len f j; have := HJ.out; simp only [List.length_cons, List.length_nil]; omega) W3.out ?_)
        intro v4 w4 o4 hg4
        have ok4 : Hid (Oa w4 (w.heap.size + 1) v4 (atsF f (j + 1))) := by rw [e.out]; exact o4
        have s4 : Hid (Kn w4 [(w.heap.size, crdC f)]) := s2.out.stay fun p hp => by
          have h1 := (s2.out.all p hp).lt
          obtain rfl := List.mem_singleton.1 hp
          exact hg4.block _ h1 fun h => by
            have := ok2.out.ge _ h.symm
            simp only at this
            omega
        have b4 : Hid (Below w.heap.size w w4) := Below.grown b2.out hg4 b2.out.size fun g hg => by
          have := ok2.out.ge g hg
          omega
        clear o4 hg4 s2 ok2 b2 one W3 e LN
        go_wp2_with fail
        go_roundw
        case rel => exact ⟨j + 1, HJ.out, by go_num, ok4, s4, b4⟩
        case measure => simp [intOf]; have := HJ.out; omega
    · have ej : j = 19 := by omega
      have i1 : ¬ (j : Int) < 19 := by omega
      rw [ej] at ok
      clear hlt hj ej
      subst eu
      go_wp2_with fail
      go_ret
      exact ⟨⟨_, rfl, ok.out⟩, bk.out⟩
end Go.Proofs.Ytepaapiflkkghaa
