/- Texts that were joined: DerW, DerWr, DerM, DerF, DerFi, AtBd, DerRF, UpS, UpX, UpR, KnE, AtA. -/
import Derived.Test.YtepaapiflkkghabQBs
import Derived.Test.YtepaapiflkkghabQAtO
import Derived.Laws.IdiomStrings
import Derived.Test.YtepaapiflkkghabQUpM
import Derived.Deep.MidRow
import Derived.Laws.IdiomCopy
import Derived.Test.YtepaapiflkkghabQKn
import Derived.Test.YtepaapiflkkghabQUpGToAtU
/- Items: what a slice of them holds; the contract of der.Write. -/
namespace Go.Proofs.Ytepaapiflkkghab
open Go.RowKit
structure It where
  tag : Nat
  body : List Nat
/-- The LENGTH of n bytes. -/
def lenB (n : Nat) : List Nat := if n < 128 then [n] else if n < 256 then [129, n] else [130, n / 256, n % 256]
def It.text (x : It) : List Nat := x.tag :: (lenB x.body.length ++ x.body)
def texts (l : List It) : List Nat := l.flatMap It.text
/-- The slice v holds the items l. -/
def Its (w : World) (v : Value) (l : List It) : Prop :=
  ∃ a c, v = .slice a l.length c ∧ l.length ≤ c ∧ (a = none → c = 0) ∧ (0 < l.length → ∃ b o, a = some ⟨b, o, none⟩ ∧ ∀ j x, l[j]? = some x → w.cell? ⟨b, o + j * 2, none⟩ = some (b8 x.tag) ∧ ∃ u, w.cell? ⟨b, o + j * 2 + 1, none⟩ = some u ∧ By w u x.body)
theorem Its.up {W w1 : World} {v : Value} {l : List It} {B : Nat} (h : Its W v l) (hb : Below B W w1) (hB : W.heap.size ≤ B) : Its w1 v l := by
  obtain ⟨a, c, e, h1, h2, h3⟩ := h
  refine ⟨a, c, e, h1, h2, fun hp => ?_⟩
  obtain ⟨b, o, e2, hc⟩ := h3 hp
  refine ⟨b, o, e2, fun j x hx => ?_⟩
  obtain ⟨t1, u, t2, t3⟩ := hc j x hx
  exact ⟨(hb.cell (p := ⟨b, _, none⟩) (Nat.lt_of_lt_of_le (lt_of_cellB t1) hB)).trans t1, u, (hb.cell (p := ⟨b, _, none⟩) (Nat.lt_of_lt_of_le (lt_of_cellB t2) hB)).trans t2, t3.up hb hB⟩
end Go.Proofs.Ytepaapiflkkghab

/- The contract of der.Write. -/
namespace Go.Proofs.Ytepaapiflkkghab
open Go.RowKit
theorem By.len {w : World} {v : Value} {xs : List Nat} (h : By w v xs) : ∃ a c, v = .slice a xs.length c := by
  obtain ⟨a, c, e, _⟩ := h
  exact ⟨a, c, e⟩
theorem Ob.below {w w' : World} {B : Nat} {v : Value} {xs : List Nat} (h : Ob w B v xs) (hg : w.grownBy w' v.ownBlock) (hB : B ≤ w.heap.size) : Below B w w' :=
  Below.grown (Below.refl _ _) hg hB fun k hk => (h.lt k hk).1
/-- One item in a slice. -/
theorem Its.one {w : World} {b : Nat} {x : It} {u : Value} (h0 : w.cell? ⟨b, 0, none⟩ = some (b8 x.tag)) (h1 : w.cell? ⟨b, 1, none⟩ = some u) (hb : By w u x.body) : Its w (.slice (some ⟨b, 0, none⟩) 1 1) [x] :=
  ⟨_, 1, rfl, Nat.le_refl _, (fun h => by cases h), fun _ => ⟨b, 0, rfl, fun j y hy => by
    match j, hy with
    | 0, hy =>
      obtain rfl : x = y := by simpa using hy
      exact ⟨by simpa using h0, u, by simpa using h1, hb⟩⟩⟩
end Go.Proofs.Ytepaapiflkkghab

/- Items as texts: what is read of bytes, and that what was written is read as it was. -/
namespace Go.Proofs.Ytepaapiflkkghab
end Go.Proofs.Ytepaapiflkkghab

/- The contracts of der.readLength and der.First. -/
namespace Go.Proofs.Ytepaapiflkkghab
open Go.RowKit
abbrev i64 (n : Nat) : Value := .int .i64 ((n : Nat) : Int)
set_option linter.unusedSimpArgs false
end Go.Proofs.Ytepaapiflkkghab

/- The contract of der.First. -/
namespace Go.Proofs.Ytepaapiflkkghab
open Go.RowKit
set_option linter.unusedSimpArgs false
/-- Bytes that lie in a block of bytes. -/
def Bk (w : World) (u : Value) (xs : List Nat) : Prop := By w u xs ∧ ∀ g, u.ownBlock = some g → ∃ cur m, w.heap[g]? = some (.cells cur 5 m)
theorem Ob.bk {w : World} {B : Nat} {v : Value} {xs : List Nat} (h : Ob w B v xs) : Bk w v xs := ⟨h.by, fun _ hg => let ⟨cur, e⟩ := h.obj hg; ⟨cur, _, e⟩⟩
theorem Bk.up {W w1 : World} {v : Value} {xs : List Nat} (h : Bk W v xs) (hb : Below W.heap.size W w1) : Bk w1 v xs :=
  ⟨h.1.up hb (Nat.le_refl _), fun g hg => let ⟨cur, m, e⟩ := h.2 g hg; ⟨cur, m, (hb.block g (Array.getElem?_eq_some_iff.1 e).1).trans e⟩⟩
theorem By.tail {w : World} {bk o c : Nat} {b : List Nat} (h : ∀ j, j < b.length → w.cell? ⟨bk, o + j, none⟩ = some (b8 (b.getD j 0))) (hl : 1 ≤ b.length) (hc : b.length ≤ c) (A : Option Addr) (hA : A = if c = 1 then some ⟨bk, o, none⟩ else some ⟨bk, o + 1, none⟩) : By w (.slice A (b.length - 1) (c - 1)) b.tail := by
  have e : b.tail.length = b.length - 1 := by simp
  refine ⟨A, c - 1, by rw [e], by omega, ?_, fun hp => ?_⟩
  · intro h0
    rw [h0] at hA
    split at hA <;> cases hA
  · rw [if_neg (by omega)] at hA
    refine ⟨bk, o + 1, hA, fun j hj => ?_⟩
    have := h (j + 1) (by omega)
    rw [Nat.add_assoc, Nat.add_comm 1 j, this]
    congr 2
    match b, hl with
    | t :: r, _ => simp
theorem By.mid {w : World} {bk o c s n : Nat} {b : List Nat} (h : ∀ j, j < b.length → w.cell? ⟨bk, o + j, none⟩ = some (b8 (b.getD j 0))) (hl : s + n ≤ b.length) (hc : b.length ≤ c) (A : Option Addr) (hA : A = if c = s then some ⟨bk, o, none⟩ else some ⟨bk, o + s, none⟩) : By w (.slice A n (c - s)) ((b.drop s).take n) := by
  have e : ((b.drop s).take n).length = n := by simp; omega
  refine ⟨A, c - s, by rw [e], by omega, ?_, fun hp => ?_⟩
  · intro h0
    rw [h0] at hA
    split at hA <;> cases hA
  · rw [if_neg (by omega)] at hA
    refine ⟨bk, o + s, hA, fun j hj => ?_⟩
    have := h (s + j) (by omega)
    rw [Nat.add_assoc, this]
    congr 2
    simp [List.getD_eq_getElem?_getD, List.getElem?_take, show j < n by omega]
theorem Ob.set {w : World} {B k j : Nat} {v y : Value} {xs : List Nat} (h : Ob w B v xs) (hne : some k ≠ v.ownBlock) : Ob (w.setCell ⟨k, j, none⟩ y) B v xs := by
  refine ⟨h.1, ?_⟩
  rcases h.2 with h' | ⟨g, cap, cur, e, hB, hg, rest⟩
  · exact .inl h'
  · refine .inr ⟨g, cap, cur, e, hB, ?_, rest⟩
    rw [Below.heap_setCell _ _ _ _ (fun e2 => hne (by rw [e]; exact congrArg some e2.symm))]
    exact hg
end Go.Proofs.Ytepaapiflkkghab

/- One attribute built; bytes of a row of their own beside a row of attributes. -/
namespace Go.Proofs.Ytepaapiflkkghab
open Go.RowKit
attribute [local go_sem] World.cell?_alloc_some cell_alloc2 cell_alloc3 cell_alloc4 frozen?_alloc_cells frozen_out
set_option linter.unusedSimpArgs false
theorem Bk.vk {w : World} {B : Nat} {u : Value} {xs : List Nat} (h : Bk w u xs) : Vk w B u xs := ⟨h.1, fun _ g hg => .inr (h.2 g hg)⟩
theorem wp_buildAt {ops : Array Oper} {rest : List Oper} {o : Oper} {a : Act} {Q : Exit → Act → World → Prop} {w : World} (hgd : o.guard = none) (x y : Operand) (ho : o.op = .build 38 #[(0, x), (1, y)]) (X : Int) (d : Option Addr) (n c : Nat) (hx : a.eval x = .int .i64 X) (hy : a.eval y = .slice d n c)
    (h : wpList Try.prog ops Q rest (a.put o.dst (.agg #[.int .i64 X, .slice d n c])) w) : wpList Try.prog ops Q (o :: rest) a w := by
  refine wpList_plain hgd fun K hK => ?_
  have hb : Try.prog.built 38 [(0, .int .i64 X), (1, .slice d n c)] = some #[.int .i64 X, .slice d n c] := by kernel_rfl
  have e : (Instr.build 38 ((#[(0, x), (1, y)] : Array (Nat × Operand)).map fun q => (q.fst, a.eval q.snd))).run Try.prog w = .ok (.agg #[.int .i64 X, .slice d n c]) w := run_build w 38 _ _ (by simpa [hx, hy] using hb)
  unfold Oper.wp
  simp only [execOp, ho, Sem.run_bind, e, Result.andThen_ok, Sem.run_pure]
  exact hK _ _ h
theorem run_bsA (X : Int) (d : Option Addr) (n c : Nat) (w : World) : (Instr.buildSlice 22 1 #[(0, .agg #[.int .i64 X, .slice d n c])]).run Try.prog w = .ok (.slice (some ⟨w.heap.size, 0, none⟩) 1 1) (w.alloc (.cells #[.int .i64 X, .slice d n c] 38)) := by kernel_rfl
theorem wp_bsA {ops : Array Oper} {rest : List Oper} {o : Oper} {a : Act} {Q : Exit → Act → World → Prop} {w : World} (hgd : o.guard = none) (x : Operand) (ho : o.op = .buildSlice 22 1 #[(0, x)]) (X : Int) (d : Option Addr) (n c : Nat) (hx : a.eval x = .agg #[.int .i64 X, .slice d n c])
    (h : wpList Try.prog ops Q rest (a.put o.dst (.slice (some ⟨w.heap.size, 0, none⟩) 1 1)) (w.alloc (.cells #[.int .i64 X, .slice d n c] 38))) : wpList Try.prog ops Q (o :: rest) a w := by
  refine wpList_plain hgd fun K hK => ?_
  have e := run_bsA X d n c w
  unfold Oper.wp
  simp only [execOp, ho, Sem.run_bind, Array.map, hx]
  simp [hx, e]
  exact hK _ _ h
theorem ats_one {W : World} {b : Nat} {x : Ar} {u : Value} (c0 : W.cell? ⟨b, 0, none⟩ = some (.int .i64 x.k)) (c1 : W.cell? ⟨b, 1, none⟩ = some u) (hu : By W u x.v) : Ats W (.slice (some ⟨b, 0, none⟩) 1 1) [x] :=
  ⟨_, 1, rfl, Nat.le_refl _, (fun h => by cases h), fun _ => ⟨b, 0, rfl, fun j y hy => by
    have hj := (List.getElem?_eq_some_iff.1 hy).1
    obtain rfl : j = 0 := by simp only [List.length_cons, List.length_nil] at hj; omega
    obtain rfl := Option.some.inj hy
    exact ⟨c0, u, c1, hu⟩⟩⟩
end Go.Proofs.Ytepaapiflkkghab

/- The contract of sealringref.FirstItem. -/
namespace Go.Proofs.Ytepaapiflkkghab
open Go.RowKit
set_option linter.unusedSimpArgs false
end Go.Proofs.Ytepaapiflkkghab

/- A drawn region whose operations each yield a value with a property that stays, and whose last ones wait for all others, by whatever chain, and come one by one. -/
namespace Go.Proofs.Ytepaapiflkkghab
open Go.RowKit
section
variable {P : Program}
end
end Go.Proofs.Ytepaapiflkkghab

/- As UpS's law, where one operation that reads no memory (an extract, a move) may come late: it is taken as soon as it can be. -/
namespace Go.Proofs.Ytepaapiflkkghab
open Go.RowKit
section
variable {P : Program}
end
end Go.Proofs.Ytepaapiflkkghab

/- A drawn region that ends in two rows stored whole (as in 'return f(x), y'): each early operation yields a value with a property that stays; some of them (loads of rows that nobody here writes, builds) may come behind the first store: they are taken as soon as they can be. -/
namespace Go.Proofs.Ytepaapiflkkghab
open Go.RowKit
section
variable {P : Program}
/-- The blocks that stood are as they were, but two. -/
def SameBut (w : World) (k1 k2 : Nat) (W : World) : Prop := ∀ k, k < w.heap.size → k ≠ k1 → k ≠ k2 → W.heap[k]? = w.heap[k]?
theorem heap_setCells_ne (k j : Nat) (hj : j ≠ k) : ∀ (vs : List Value) (o : Nat) (w : World), (w.setCells k o vs).heap[j]? = w.heap[j]?
  | [], _, _ => rfl
  | v :: r, o, w => by
    rw [World.setCells, heap_setCells_ne k j hj r]
    simp [World.setCell, Array.getElem?_modify, Ne.symm hj]
theorem SameBut.put {w W : World} {k1 k2 k : Nat} (h : SameBut w k1 k2 W) (hk : k = k1 ∨ k = k2) (o : Nat) (vs : List Value) : SameBut w k1 k2 (W.setCells k o vs) := fun j hj h1 h2 => by
  rw [heap_setCells_ne k j (by rcases hk with rfl | rfl <;> assumption)]
  exact h j hj h1 h2
/-- What the last two are. -/
structure TwoSt (P : Program) (o1 o2 : Oper) (t1 t2 : TypeId) (x1 y1 x2 y2 : Operand) (c1 c2 : List Value) : Prop where
  g1 : o1.guard = none
  g2 : o2.guard = none
  d1 : o1.dst = none
  d2 : o2.dst = none
  e1 : o1.op = .store t1 x1 y1
  e2 : o2.op = .store t2 x2 y2
  i1 : (P.info? t1).map (·.size) = some c1.length
  i2 : (P.info? t2).map (·.size) = some c2.length
  s1 : ∀ v ∈ c1, v.oneCell' = true
  s2 : ∀ v ∈ c2, v.oneCell' = true
structure TwoAt (a : Act) (w : World) (x1 y1 x2 y2 : Operand) (k1 k2 : Nat) (c1 c2 : List Value) : Prop where
  x1 : a.eval x1 = .pointer (some ⟨k1, 0, none⟩)
  y1 : a.eval y1 = .agg c1.toArray
  x2 : a.eval x2 = .pointer (some ⟨k2, 0, none⟩)
  y2 : a.eval y2 = .agg c2.toArray
  t1 : w.there k1 0 c1.length
  t2 : w.there k2 0 c2.length
end
end Go.Proofs.Ytepaapiflkkghab

/- Two known blocks are not one; what stays where two blocks change. -/
namespace Go.Proofs.Ytepaapiflkkghab
open Go.RowKit
set_option linter.unusedSimpArgs false
theorem Kn.ne {w : World} {L : List (Nat × List Value)} (h : Kn w L) (i j : Nat) {a b : Nat} {x y : List Value} (hi : L[i]? = some (a, x)) (hj : L[j]? = some (b, y)) (hij : i ≠ j) : a ≠ b := fun e => by
  subst e
  have h1 : (L.map Prod.fst)[i]? = some a := by rw [List.getElem?_map, hi]; rfl
  have h2 : (L.map Prod.fst)[j]? = some a := by rw [List.getElem?_map, hj]; rfl
  exact hij ((List.getElem?_inj (List.getElem?_eq_some_iff.1 h1).1 h.nd).1 (h1.trans h2.symm))
theorem SameBut.rng {w W : World} {k1 k2 k : Nat} {vs : List Value} (h : SameBut w k1 k2 W) (hr : w.rangeAt k 0 vs) (h1 : k ≠ k1) (h2 : k ≠ k2) (hl : k < w.heap.size) : W.rangeAt k 0 vs := fun j v hv => by
  have e := h k hl h1 h2
  have := hr j v hv
  unfold World.cell? at this ⊢
  simp only [e]
  exact this
/-- What is known of blocks that are as they were. -/
theorem Kn.stay {W w1 : World} {L : List (Nat × List Value)} (h : Kn W L) (e : ∀ p ∈ L, w1.heap[p.1]? = W.heap[p.1]?) : Kn w1 L :=
  ⟨h.nd, fun p hp => by
    have hB := h.all p hp
    have he := e p hp
    refine ⟨?_, fun j v hv => ?_, fun j => ?_⟩
    · have h1 := hB.lt
      exact (Array.getElem?_eq_some_iff.1 (he.trans (Array.getElem?_eq_getElem h1))).1
    · rw [← hB.cell j v hv]
      simp [World.cell?, he]
    · rw [← hB.fz j]
      simp [World.frozen?, he]⟩
end Go.Proofs.Ytepaapiflkkghab

/- The document's card of attributes: Attrs. -/
namespace Go.Proofs.Ytepaapiflkkghab
open Go.RowKit
attribute [local go_sem] World.cell?_alloc_some cell_alloc2 cell_alloc3 cell_alloc4 frozen?_alloc_cells frozen_out
set_option linter.unusedSimpArgs false
end Go.Proofs.Ytepaapiflkkghab
