/- Texts that were joined: Kn, DWords, DNum, DDigP, DDig, UpMS, RBel, DrawCB. -/
import Derived.Test.YtdcpicbkemmakabDoorQNumToQMath
import Derived.Test.YtdcpicbkemmakabDoorQAddSubToMulV
import Derived.Test.YtdcpicbkemmakabDoorQUpA
import Derived.Deep.RegionHeld
import Derived.Test.YtdcpicbkemmakabDoorQUpMToUpS
import Derived.Test.YtdcpicbkemmakabDoorQMFitToDrawC
/- What is known of the blocks of memory, told as a list: which cells lie in which block. -/
namespace Go.Proofs.YtdcpicbkemmakabDoor
open Go.RowKit
/-- Block k holds these cells, and none of it is frozen. -/
structure KBlk (w : World) (k : Nat) (vs : List Value) : Prop where
  lt : k < w.heap.size
  cell : ∀ j v, vs[j]? = some v → w.cell? ⟨k, j, none⟩ = some v
  fz : ∀ j, w.frozen? ⟨k, j, none⟩ = false
abbrev c4 (x : Nm) : List Value := [.int .u64 x.a, .int .u64 x.b, .int .u64 x.c, .int .u64 x.d]
abbrev c8 (l h : Nm) : List Value := [.int .u64 l.a, .int .u64 l.b, .int .u64 l.c, .int .u64 l.d, .int .u64 h.a, .int .u64 h.b, .int .u64 h.c, .int .u64 h.d]
abbrev zz4 : List Value := [.int .u64 0, .int .u64 0, .int .u64 0, .int .u64 0]
theorem KBlk.up {W w1 : World} {k : Nat} {vs : List Value} (h : KBlk W k vs) (hb : Below W.heap.size W w1) : KBlk w1 k vs :=
  ⟨Nat.lt_of_lt_of_le h.lt hb.size, fun j v hv => (hb.cell (p := ⟨k, j, none⟩) h.lt).trans (h.cell j v hv), fun j => ((bcell hb).2 k j h.lt).trans (h.fz j)⟩
theorem KBlk.of {w : World} {k : Nat} {vs : List Value} {t : TypeId} (h : w.heap[k]? = some (.cells vs.toArray t)) : KBlk w k vs := by
  refine ⟨?_, fun j v hv => ?_, fun j => (cells_of_block h j).2⟩
  · rcases Nat.lt_or_ge k w.heap.size with h' | h'
    · exact h'
    · rw [Array.getElem?_eq_none h'] at h; cases h
  · rw [(cells_of_block h j).1]; simpa using hv
theorem size_set (w : World) (a : Addr) (v : Value) : (w.setCell a v).heap.size = w.heap.size := by simp [World.setCell]
theorem KBlk.set_ne {w : World} {k k' j : Nat} {vs : List Value} {v : Value} (h : KBlk w k vs) (hk : k' ≠ k) : KBlk (w.setCell ⟨k', j, none⟩ v) k vs :=
  ⟨by rw [size_set]; exact h.lt, fun i u hu => (cell_set_ne hk).trans (h.cell i u hu), fun i => frozen_set.trans (h.fz i)⟩
theorem KBlk.set {w : World} {k : Nat} {vs : List Value} (h : KBlk w k vs) (j : Nat) (v : Value) (hj : j < vs.length) : KBlk (w.setCell ⟨k, j, none⟩ v) k (vs.set j v) := by
  refine ⟨by rw [size_set]; exact h.lt, fun i u hu => ?_, fun i => frozen_set.trans (h.fz i)⟩
  have hc : w.cell? ⟨k, j, none⟩ = some vs[j] := h.cell j _ (List.getElem?_eq_getElem hj)
  by_cases e : j = i
  · subst e
    rw [List.getElem?_set_self hj] at hu
    cases hu
    exact cell_same hc _
  · rw [List.getElem?_set_ne e] at hu
    exact cell_set_at (h.cell i u hu) e
/-- The blocks that are known. -/
structure Kn (w : World) (L : List (Nat × List Value)) : Prop where
  nd : (L.map (·.1)).Nodup
  all : ∀ p ∈ L, KBlk w p.1 p.2
theorem Kn.nil (w : World) : Kn w [] := ⟨List.nodup_nil, fun _ hp => absurd hp List.not_mem_nil⟩
theorem Kn.up {W w1 : World} {L : List (Nat × List Value)} (h : Kn W L) (hb : Below W.heap.size W w1) : Kn w1 L := ⟨h.nd, fun p hp => (h.all p hp).up hb⟩
theorem Kn.fresh {W w1 : World} {L : List (Nat × List Value)} {k : Nat} {vs : List Value} {t : TypeId} (h : Kn W L) (hb : Below W.heap.size W w1) (hk : W.heap.size ≤ k) (hc : w1.heap[k]? = some (.cells vs.toArray t)) : Kn w1 ((k, vs) :: L) := by
  refine ⟨?_, fun p hp => ?_⟩
  · rw [List.map_cons, List.nodup_cons]
    refine ⟨fun hm => ?_, h.nd⟩
    obtain ⟨p, hp, e⟩ := List.mem_map.1 hm
    have := (h.all p hp).lt
    omega
  · rcases List.mem_cons.1 hp with rfl | hp
    · exact KBlk.of hc
    · exact (h.all p hp).up hb
theorem Kn.fresh_of {W w1 : World} {L : List (Nat × List Value)} {k : Nat} {vs : List Value} (h : Kn W L) (hb : Below W.heap.size W w1) (hk : W.heap.size ≤ k) (hc : KBlk w1 k vs) : Kn w1 ((k, vs) :: L) := by
  refine ⟨?_, fun p hp => ?_⟩
  · rw [List.map_cons, List.nodup_cons]
    refine ⟨fun hm => ?_, h.nd⟩
    obtain ⟨p, hp, e⟩ := List.mem_map.1 hm
    have := (h.all p hp).lt
    omega
  · rcases List.mem_cons.1 hp with rfl | hp
    · exact hc
    · exact (h.all p hp).up hb
theorem Kn.al {w : World} {L : List (Nat × List Value)} (h : Kn w L) (vs : List Value) (t : TypeId) {k : Nat} (hk : k = w.heap.size) : Kn (w.alloc (.cells vs.toArray t)) ((k, vs) :: L) := by
  subst hk
  exact h.fresh (t := t) ((Below.refl _ _).alloc (Nat.le_refl _) _) (Nat.le_refl _) (by show (w.heap.push _)[w.heap.size]? = _; simp)
theorem Kn.set {w : World} {L : List (Nat × List Value)} {k : Nat} {vs : List Value} (h : Kn w ((k, vs) :: L)) (j : Nat) (v : Value) (hj : j < vs.length) : Kn (w.setCell ⟨k, j, none⟩ v) ((k, vs.set j v) :: L) := by
  refine ⟨h.nd, fun p hp => ?_⟩
  rcases List.mem_cons.1 hp with rfl | hp
  · exact (h.all _ List.mem_cons_self).set j v hj
  · refine (h.all p (List.mem_cons_of_mem _ hp)).set_ne fun e => ?_
    have := (List.nodup_cons.1 h.nd).1
    exact this (List.mem_map.2 ⟨p, hp, e.symm⟩)
theorem Kn.st4 {w : World} {L : List (Nat × List Value)} {k : Nat} {a b c d : Value} (h : Kn w ((k, [a, b, c, d]) :: L)) (x : Nm) : Kn (st4 w k x) ((k, c4 x) :: L) :=
  (((h.set 0 _ (by simp)).set 1 _ (by simp)).set 2 _ (by simp)).set 3 _ (by simp)
theorem erase_perm {α : Type} : ∀ (l : List α) (i : Nat) (x : α), l[i]? = some x → (x :: l.eraseIdx i).Perm l
  | [], _, _, h => by simp at h
  | y :: l, 0, x, h => by simp at h; subst h; exact List.Perm.refl _
  | y :: l, i + 1, x, h => by
    have := erase_perm l i x (by simpa using h)
    exact (List.Perm.swap _ _ _).trans (this.cons y)
theorem Kn.front {w : World} {L : List (Nat × List Value)} (h : Kn w L) (i : Nat) {p : Nat × List Value} (hp : L[i]? = some p) : Kn w (p :: L.eraseIdx i) := by
  have P := erase_perm L i p hp
  exact ⟨(P.map _).nodup_iff.2 h.nd, fun q hq => h.all q (P.mem_iff.1 hq)⟩
theorem Kn.drop {w : World} {L : List (Nat × List Value)} (h : Kn w L) (i : Nat) : Kn w (L.eraseIdx i) :=
  ⟨(List.Sublist.map _ (List.eraseIdx_sublist L i)).nodup h.nd, fun p hp => h.all p ((List.eraseIdx_sublist L i).subset hp)⟩
theorem Kn.two {W w1 : World} {L : List (Nat × List Value)} {k k' : Nat} {vs us : List Value} {t t' : TypeId} (h : Kn W L) (hb : Below W.heap.size W w1) (hk : W.heap.size ≤ k) (hj : W.heap.size ≤ k') (hn : k ≠ k') (hc : w1.heap[k]? = some (.cells vs.toArray t)) (hd : w1.heap[k']? = some (.cells us.toArray t')) : Kn w1 ((k, vs) :: (k', us) :: L) := by
  have h1 := h.fresh hb hj hd
  refine ⟨?_, fun p hp => ?_⟩
  · rw [List.map_cons, List.nodup_cons]
    refine ⟨fun hm => ?_, h1.nd⟩
    rcases List.mem_cons.1 hm with e | hm
    · exact hn e
    · obtain ⟨p, hp, e⟩ := List.mem_map.1 hm
      have := (h.all p hp).lt
      omega
  · rcases List.mem_cons.1 hp with rfl | hp
    · exact KBlk.of hc
    · exact h1.all p hp
theorem Kn.get {w : World} {L : List (Nat × List Value)} (h : Kn w L) (i j : Nat) {k : Nat} {vs : List Value} {v : Value} (hp : L[i]? = some (k, vs)) (hv : vs[j]? = some v) : w.cell? ⟨k, j, none⟩ = some v :=
  (h.all _ (List.mem_of_getElem? hp)).cell j v hv
theorem Kn.fz {w : World} {L : List (Nat × List Value)} (h : Kn w L) (i : Nat) {k : Nat} {vs : List Value} (hp : L[i]? = some (k, vs)) : ∀ j, w.frozen? ⟨k, j, none⟩ = false :=
  (h.all _ (List.mem_of_getElem? hp)).fz
abbrev kal4 (w : World) (x : Nm) : World := w.alloc (.cells #[.int .u64 x.a, .int .u64 x.b, .int .u64 x.c, .int .u64 x.d] 26)
abbrev kal8 (w : World) (l h : Nm) : World := w.alloc (.cells #[.int .u64 l.a, .int .u64 l.b, .int .u64 l.c, .int .u64 l.d, .int .u64 h.a, .int .u64 h.b, .int .u64 h.c, .int .u64 h.d] 57)
abbrev kz4 (w : World) : World := w.alloc (.cells #[.int .u64 0, .int .u64 0, .int .u64 0, .int .u64 0] 26)
end Go.Proofs.YtdcpicbkemmakabDoor

/- The contracts of sealringref.words, ToNum and ToWide: the words of digits. -/
namespace Go.Proofs.YtdcpicbkemmakabDoor
open Go.RowKit
attribute [local go_sem] World.cell?_alloc_some frozen?_alloc_cells frozen_out
abbrev uv (x : Nat) : Value := .int .u64 ((x : Nat) : Int)
def OwU (w : World) (B : Nat) (v : Value) (xs : List Nat) : Prop := w.ownsRow B 24 1 v xs.length (xs.map uv)
theorem OwU.up {W w1 : World} {B : Nat} {v : Value} {xs : List Nat} (h : OwU W B v xs) (hb : Below W.heap.size W w1) : OwU w1 B v xs := by
  refine ⟨h.1, ?_⟩
  rcases h.2 with h' | ⟨g, cap, cur, e, hB, hg, rest⟩
  · exact .inl h'
  · exact .inr ⟨g, cap, cur, e, hB, (hb.block g (Array.getElem?_eq_some_iff.1 hg).1).trans hg, rest⟩
theorem OwU.cell {w : World} {B g n c : Nat} {xs : List Nat} (h : OwU w B (.slice (some ⟨g, 0, none⟩) n c) xs) (hn : n = xs.length) (j : Nat) (hj : j < xs.length) : w.cell? ⟨g, j, none⟩ = some (.int .u64 ((xs.getD j 0 : Nat) : Int)) ∧ w.frozen? ⟨g, j, none⟩ = false := by
  subst hn
  have h2 : w.ownsRow B 24 1 (.slice (some ⟨g, 0, none⟩) xs.length c) xs.length (xs.map uv) := h
  refine ⟨?_, h2.frozenAt j⟩
  rw [h2.cellAt j (by omega)]
  simp [hj, uv]
theorem OwU.set {w : World} {B g n c : Nat} {xs : List Nat} (h : OwU w B (.slice (some ⟨g, 0, none⟩) n c) xs) (hn : n = xs.length) (hg : B ≤ g) (j y : Nat) (z : Int) (hz : z = ((y : Nat) : Int)) : OwU (w.setCell ⟨g, j, none⟩ (.int .u64 z)) B (.slice (some ⟨g, 0, none⟩) n c) (xs.set j y) ∧ Below B w (w.setCell ⟨g, j, none⟩ (.int .u64 z)) := by
  subst hn hz
  have h2 : w.ownsRow B 24 1 (.slice (some ⟨g, 0, none⟩) xs.length c) xs.length (xs.map uv) := h
  refine ⟨?_, (Below.refl _ _).setCell hg _⟩
  have := (h2.stored j (uv y)).1
  unfold OwU
  rw [List.length_set, List.map_set]
  exact this
/-- Of word j what has come when the digits from k on are in. -/
def wf (X k j : Nat) : Nat := X / 65536 ^ (max k (4 * j)) % 65536 ^ (4 * j + 4 - max k (4 * j))
end Go.Proofs.YtdcpicbkemmakabDoor

/- The contracts of sealringref's numbers, told by numbers: ToNum. -/
namespace Go.Proofs.YtdcpicbkemmakabDoor
open Go.RowKit
set_option linter.unusedSimpArgs false
end Go.Proofs.YtdcpicbkemmakabDoor

/- The contract of sealringref.Digits: a row of words' digits. -/
namespace Go.Proofs.YtdcpicbkemmakabDoor
open Go.RowKit
attribute [local go_sem] World.cell?_alloc_some
set_option maxHeartbeats 2000000 in
/-- The slice lies in a block of ints (or is nil). -/
def Tg (w : World) (v : Value) : Prop := blkP (fun b => ∃ cur fz, w.heap[b]? = some (.cells cur 3 fz)) v
theorem Tg.up {W w1 : World} {v : Value} (h : Tg W v) (hb : Below W.heap.size W w1) : Tg w1 v := by
  cases v with
  | slice a _ _ =>
    cases a with
    | none => exact trivial
    | some a =>
      obtain ⟨cur, fz, hg⟩ := h
      exact ⟨cur, fz, (hb.block a.block (Array.getElem?_eq_some_iff.1 hg).1).trans hg⟩
  | _ => exact trivial
end Go.Proofs.YtdcpicbkemmakabDoor

/- The contract of sealringref.OfNum and OfWide. -/
namespace Go.Proofs.YtdcpicbkemmakabDoor
open Go.RowKit
attribute [local go_sem] World.cell?_alloc_some
end Go.Proofs.YtdcpicbkemmakabDoor

/- The properties of slices of digits, for UpM's law. -/
namespace Go.Proofs.YtdcpicbkemmakabDoor
open Go.RowKit
def MP.sl (xs : List Nat) : MP := ⟨fun v w => Sl w v xs, fun h hb => Sl.up h hb⟩
def MP.sl2 (xs ys : List Nat) : MP := ⟨fun v w => ∃ x y, v = .tuple #[x, y] ∧ Sl w x xs ∧ Sl w y ys, fun ⟨x, y, e, h1, h2⟩ hb => ⟨x, y, e, Sl.up h1 hb, Sl.up h2 hb⟩⟩
theorem MP.sl_p (xs : List Nat) (v : Value) (w : World) : (MP.sl xs).p v w = Sl w v xs := rfl
theorem MP.sl2_p (xs ys : List Nat) (v : Value) (w : World) : (MP.sl2 xs ys).p v w = ∃ x y, v = .tuple #[x, y] ∧ Sl w x xs ∧ Sl w y ys := rfl
end Go.Proofs.YtdcpicbkemmakabDoor

/- Numbers that are drawn below one; the contract of sealringref.DrawnBelow. -/
namespace Go.Proofs.YtdcpicbkemmakabDoor
open Go.RowKit
set_option linter.unusedSimpArgs false
attribute [local go_sem] YieldsP execOp
attribute [local simp] MP.eq_p MP.sl_p MP.sl2_p
/-- A number of bytes, the least first. -/
def leN : List Nat → Nat
  | [] => 0
  | x :: xs => x + 256 * leN xs
theorem leN_lt : ∀ (xs : List Nat), (∀ x ∈ xs, x < 256) → leN xs < 256 ^ xs.length
  | [], _ => by simp [leN]
  | x :: xs, h => by
    have h1 := leN_lt xs (fun y hy => h y (by simp [hy]))
    have h2 := h x (by simp)
    rw [leN, List.length_cons, Nat.pow_succ]
    omega
theorem leN_drop {xs : List Nat} {i : Nat} (h : i < xs.length) : leN (xs.drop i) = leN (xs.drop (i + 1)) * 256 + xs.getD i 0 := by
  rw [List.drop_eq_getElem_cons h, leN, List.getD_eq_getElem?_getD, List.getElem?_eq_getElem h, Option.getD_some]
  omega
/-- So many bits are needed below M. -/
def BL (M n : Nat) : Prop := M ≤ 2 ^ n ∧ ∀ j, j < n → 2 ^ j < M
theorem BL.only {M n k : Nat} (h : BL M n) (h1 : ∀ j, j < k → 2 ^ j < M) (h2 : ¬ 2 ^ k < M) : k = n := by
  rcases Nat.lt_trichotomy k n with g | g | g
  · exact absurd (h.2 k g) h2
  · exact g
  · have := h1 n g
    have := h.1
    omega
theorem BL.le {M n : Nat} (h : BL M n) (hM : M ≤ 2 ^ 256) : n ≤ 256 := by
  apply Classical.byContradiction
  intro hn
  have := h.2 256 (by omega)
  omega
/-- What the bytes of one try are. -/
def tryS (seed : List Nat) (pl n t : Nat) : Nat := leN (drawS seed ((pl + 32 * t) % 18446744073709551616) 32) % 2 ^ n
/-- Which try it is. -/
def belS (seed : List Nat) (pl n M : Nat) : Option Nat := (List.range 100).find? fun t => decide (tryS seed pl n t < M)
theorem belS_some {seed : List Nat} {pl n M t : Nat} (ht : t < 100) (h1 : ∀ j, j < t → ¬ tryS seed pl n j < M) (h2 : tryS seed pl n t < M) : belS seed pl n M = some t := by
  rw [belS, List.find?_range_eq_some]
  refine ⟨by simpa using h2, by simpa using ht, fun j hj => ?_⟩
  simpa using h1 j hj
theorem belS_none {seed : List Nat} {pl n M : Nat} (h1 : ∀ j, j < 100 → ¬ tryS seed pl n j < M) : belS seed pl n M = none := by
  rw [belS, List.find?_eq_none]
  intro j hj
  simpa using h1 j (List.mem_range.1 hj)
def nC (x : Nm) : List Value := [.int .u64 x.a, .int .u64 x.b, .int .u64 x.c, .int .u64 x.d]
theorem info_num : (Tryd.prog.info? 26).map (·.size) = some 4 := by kernel_rfl
theorem u_num : Tryd.prog.underlying 26 = some (.array 4 24) := by kernel_rfl
theorem one_nC (x : Nm) : ∀ v ∈ nC x, v.oneCell' = true := by
  intro v hv
  simp only [nC, List.mem_cons, List.not_mem_nil, or_false] at hv
  rcases hv with rfl | rfl | rfl | rfl <;> rfl
end Go.Proofs.YtdcpicbkemmakabDoor

/- What is asked of a source where numbers are drawn below one: the contract of draw.Source.Below as a premise. -/
namespace Go.Proofs.YtdcpicbkemmakabDoor
open Go.RowKit
structure SrcB (Src : World → Nat → (Nat → Prop) → List Nat → Nat → Prop) : Prop where
  below : ∀ {seed : List Nat} {F : Nat → Prop} {k p : Nat} (x : Nm) (_ : x.ok) (M n : Nat) (_ : x.nat = M) (_ : 0 < M) (_ : BL M n) (w : World) (_ : Src w k F seed p) (_ : KTab w) (_ : 0 < k), Calls Tryd.prog 18 #[ptr k, N x] w fun e w' => e = .returned (match belS seed p n M with | some t => .tuple #[N (Nm.of ((tryS seed p n t : Nat) : Int)), .int .i64 0] | none => .tuple #[N ⟨0, 0, 0, 0⟩, .int .i64 6]) ∧ Src w' k F seed ((p + (match belS seed p n M with | some t => 32 * (t + 1) | none => 3200)) % 18446744073709551616) ∧ Fr w k w'
  belowZero : ∀ {seed : List Nat} {F : Nat → Prop} {k p : Nat} (w : World) (_ : Src w k F seed p), Calls Tryd.prog 18 #[ptr k, N ⟨0, 0, 0, 0⟩] w fun e w' => e = .returned (.tuple #[N ⟨0, 0, 0, 0⟩, .int .i64 1]) ∧ Below w.heap.size w w'
end Go.Proofs.YtdcpicbkemmakabDoor
