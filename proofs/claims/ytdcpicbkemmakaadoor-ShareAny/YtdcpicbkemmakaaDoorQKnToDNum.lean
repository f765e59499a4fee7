/- Texts that were joined: Kn, DWords, DNum. -/
import Derived.Test.YtdcpicbkemmakaaDoorQNumToDTimes
import Derived.Test.YtdcpicbkemmakaaDoorQQMathToMulV
import Derived.Test.YtdcpicbkemmakaaDoorQUpAToUp3
import Derived.Deep.RegionHeld
import Derived.Test.YtdcpicbkemmakaaDoorQDMinusToDNumP
/- What is known of the blocks of memory, told as a list: which cells lie in which block. -/
namespace Go.Proofs.YtdcpicbkemmakaaDoor
open Go.RowKit
/-- Block k holds these cells, and none of it is frozen. -/
structure KBlk (w : World) (k : Nat) (vs : List Value) : Prop where
  lt : k < w.heap.size
  cell : ∀ j v, vs[j]? = some v → w.cell? ⟨k, j, none⟩ = some v
  fz : ∀ j, w.frozen? ⟨k, j, none⟩ = false
abbrev c4 (x : Nm) : List Value := [.int .u64 x.a, .int .u64 x.b, .int .u64 x.c, .int .u64 x.d]
abbrev c8 (l h : Nm) : List Value := [.int .u64 l.a, .int .u64 l.b, .int .u64 l.c, .int .u64 l.d, .int .u64 h.a, .int .u64 h.b, .int .u64 h.c, .int .u64 h.d]
abbrev zz4 : List Value := [.int .u64 0, .int .u64 0, .int .u64 0, .int .u64 0]
theorem KBlk.up {W w1 : World} {k : Nat} {vs : List Value} (h : KBlk W k vs) (hb : Below W.heap.size W w1) : KBlk w1 k vs :=
  ⟨Nat.lt_of_lt_of_le h.lt hb.size, fun j v hv => (hb.cell (p := ⟨k, j, none⟩) h.lt).trans (h.cell j v hv), fun j => ((bcell hb).2 k j h.lt).trans (h.fz j)⟩
theorem KBlk.of {w : World} {k : Nat} {vs : List Value} {t : TypeId} (h : w.heap[k]? = some (.cells vs.toArray t)) : KBlk w k vs := by
  refine ⟨?_, fun j v hv => ?_, fun j => (cells_of_block h j).2⟩
  · rcases Nat.lt_or_ge k w.heap.size with h' | h'
    · exact h'
    · rw [Array.getElem?_eq_none h'] at h; cases h
  · rw [(cells_of_block h j).1]; simpa using hv
theorem size_set (w : World) (a : Addr) (v : Value) : (w.setCell a v).heap.size = w.heap.size := by simp [World.setCell]
theorem KBlk.set_ne {w : World} {k k' j : Nat} {vs : List Value} {v : Value} (h : KBlk w k vs) (hk : k' ≠ k) : KBlk (w.setCell ⟨k', j, none⟩ v) k vs :=
  ⟨by rw [size_set]; exact h.lt, fun i u hu => (cell_set_ne hk).trans (h.cell i u hu), fun i => frozen_set.trans (h.fz i)⟩
theorem KBlk.set {w : World} {k : Nat} {vs : List Value} (h : KBlk w k vs) (j : Nat) (v : Value) (hj : j < vs.length) : KBlk (w.setCell ⟨k, j, none⟩ v) k (vs.set j v) := by
  refine ⟨by rw [size_set]; exact h.lt, fun i u hu => ?_, fun i => frozen_set.trans (h.fz i)⟩
  have hc : w.cell? ⟨k, j, none⟩ = some vs[j] := h.cell j _ (List.getElem?_eq_getElem hj)
  by_cases e : j = i
  · subst e
    rw [List.getElem?_set_self hj] at hu
    cases hu
    exact cell_same hc _
  · rw [List.getElem?_set_ne e] at hu
    exact cell_set_at (h.cell i u hu) e
/-- The blocks that are known. -/
structure Kn (w : World) (L : List (Nat × List Value)) : Prop where
  nd : (L.map (·.1)).Nodup
  all : ∀ p ∈ L, KBlk w p.1 p.2
theorem Kn.nil (w : World) : Kn w [] := ⟨List.nodup_nil, fun _ hp => absurd hp List.not_mem_nil⟩
theorem Kn.up {W w1 : World} {L : List (Nat × List Value)} (h : Kn W L) (hb : Below W.heap.size W w1) : Kn w1 L := ⟨h.nd, fun p hp => (h.all p hp).up hb⟩
theorem Kn.fresh {W w1 : World} {L : List (Nat × List Value)} {k : Nat} {vs : List Value} {t : TypeId} (h : Kn W L) (hb : Below W.heap.size W w1) (hk : W.heap.size ≤ k) (hc : w1.heap[k]? = some (.cells vs.toArray t)) : Kn w1 ((k, vs) :: L) := by
  refine ⟨?_, fun p hp => ?_⟩
  · rw [List.map_cons, List.nodup_cons]
    refine ⟨fun hm => ?_, h.nd⟩
    obtain ⟨p, hp, e⟩ := List.mem_map.1 hm
    have := (h.all p hp).lt
    omega
  · rcases List.mem_cons.1 hp with rfl | hp
    · exact KBlk.of hc
    · exact (h.all p hp).up hb
theorem Kn.fresh_of {W w1 : World} {L : List (Nat × List Value)} {k : Nat} {vs : List Value} (h : Kn W L) (hb : Below W.heap.size W w1) (hk : W.heap.size ≤ k) (hc : KBlk w1 k vs) : Kn w1 ((k, vs) :: L) := by
  refine ⟨?_, fun p hp => ?_⟩
  · rw [List.map_cons, List.nodup_cons]
    refine ⟨fun hm => ?_, h.nd⟩
    obtain ⟨p, hp, e⟩ := List.mem_map.1 hm
    have := (h.all p hp).lt
    omega
  · rcases List.mem_cons.1 hp with rfl | hp
    · exact hc
    · exact (h.all p hp).up hb
theorem Kn.al {w : World} {L : List (Nat × List Value)} (h : Kn w L) (vs : List Value) (t : TypeId) {k : Nat} (hk : k = w.heap.size) : Kn (w.alloc (.cells vs.toArray t)) ((k, vs) :: L) := by
  subst hk
  exact h.fresh (t := t) ((Below.refl _ _).alloc (Nat.le_refl _) _) (Nat.le_refl _) (by show (w.heap.push _)[w.heap.size]? = _; simp)
theorem Kn.set {w : World} {L : List (Nat × List Value)} {k : Nat} {vs : List Value} (h : Kn w ((k, vs) :: L)) (j : Nat) (v : Value) (hj : j < vs.length) : Kn (w.setCell ⟨k, j, none⟩ v) ((k, vs.set j v) :: L) := by
  refine ⟨h.nd, fun p hp => ?_⟩
  rcases List.mem_cons.1 hp with rfl | hp
  · exact (h.all _ List.mem_cons_self).set j v hj
  · refine (h.all p (List.mem_cons_of_mem _ hp)).set_ne fun e => ?_
    have := (List.nodup_cons.1 h.nd).1
    exact this (List.mem_map.2 ⟨p, hp, e.symm⟩)
theorem Kn.st4 {w : World} {L : List (Nat × List Value)} {k : Nat} {a b c d : Value} (h : Kn w ((k, [a, b, c, d]) :: L)) (x : Nm) : Kn (st4 w k x) ((k, c4 x) :: L) :=
  (((h.set 0 _ (by simp)).set 1 _ (by simp)).set 2 _ (by simp)).set 3 _ (by simp)
theorem erase_perm {α : Type} : ∀ (l : List α) (i : Nat) (x : α), l[i]? = some x → (x :: l.eraseIdx i).Perm l
  | [], _, _, h => by simp at h
  | y :: l, 0, x, h => by simp at h; subst h; exact List.Perm.refl _
  | y :: l, i + 1, x, h => by
    have := erase_perm l i x (by simpa using h)
    exact (List.Perm.swap _ _ _).trans (this.cons y)
theorem Kn.front {w : World} {L : List (Nat × List Value)} (h : Kn w L) (i : Nat) {p : Nat × List Value} (hp : L[i]? = some p) : Kn w (p :: L.eraseIdx i) := by
  have P := erase_perm L i p hp
  exact ⟨(P.map _).nodup_iff.2 h.nd, fun q hq => h.all q (P.mem_iff.1 hq)⟩
theorem Kn.drop {w : World} {L : List (Nat × List Value)} (h : Kn w L) (i : Nat) : Kn w (L.eraseIdx i) :=
  ⟨(List.Sublist.map _ (List.eraseIdx_sublist L i)).nodup h.nd, fun p hp => h.all p ((List.eraseIdx_sublist L i).subset hp)⟩
theorem Kn.two {W w1 : World} {L : List (Nat × List Value)} {k k' : Nat} {vs us : List Value} {t t' : TypeId} (h : Kn W L) (hb : Below W.heap.size W w1) (hk : W.heap.size ≤ k) (hj : W.heap.size ≤ k') (hn : k ≠ k') (hc : w1.heap[k]? = some (.cells vs.toArray t)) (hd : w1.heap[k']? = some (.cells us.toArray t')) : Kn w1 ((k, vs) :: (k', us) :: L) := by
  have h1 := h.fresh hb hj hd
  refine ⟨?_, fun p hp => ?_⟩
  · rw [List.map_cons, List.nodup_cons]
    refine ⟨fun hm => ?_, h1.nd⟩
    rcases List.mem_cons.1 hm with e | hm
    · exact hn e
    · obtain ⟨p, hp, e⟩ := List.mem_map.1 hm
      have := (h.all p hp).lt
      omega
  · rcases List.mem_cons.1 hp with rfl | hp
    · exact KBlk.of hc
    · exact h1.all p hp
theorem Kn.get {w : World} {L : List (Nat × List Value)} (h : Kn w L) (i j : Nat) {k : Nat} {vs : List Value} {v : Value} (hp : L[i]? = some (k, vs)) (hv : vs[j]? = some v) : w.cell? ⟨k, j, none⟩ = some v :=
  (h.all _ (List.mem_of_getElem? hp)).cell j v hv
theorem Kn.fz {w : World} {L : List (Nat × List Value)} (h : Kn w L) (i : Nat) {k : Nat} {vs : List Value} (hp : L[i]? = some (k, vs)) : ∀ j, w.frozen? ⟨k, j, none⟩ = false :=
  (h.all _ (List.mem_of_getElem? hp)).fz
abbrev kal4 (w : World) (x : Nm) : World := w.alloc (.cells #[.int .u64 x.a, .int .u64 x.b, .int .u64 x.c, .int .u64 x.d] 24)
abbrev kal8 (w : World) (l h : Nm) : World := w.alloc (.cells #[.int .u64 l.a, .int .u64 l.b, .int .u64 l.c, .int .u64 l.d, .int .u64 h.a, .int .u64 h.b, .int .u64 h.c, .int .u64 h.d] 74)
abbrev kz4 (w : World) : World := w.alloc (.cells #[.int .u64 0, .int .u64 0, .int .u64 0, .int .u64 0] 24)
end Go.Proofs.YtdcpicbkemmakaaDoor

/- The contracts of sealringref.words, ToNum and ToWide: the words of digits. -/
namespace Go.Proofs.YtdcpicbkemmakaaDoor
open Go.RowKit
attribute [local go_sem] World.cell?_alloc_some frozen?_alloc_cells frozen_out
theorem Tryd.uU64s : Tryd.prog.underlying 84 = some (.slice 22) := by kernel_rfl
theorem Tryd.iU64 : (Tryd.prog.info? 22).map (fun i => (i.zero, i.size, i.bytes)) = some (some (.int .u64 0), 1, 8) := by kernel_rfl
abbrev uv (x : Nat) : Value := .int .u64 ((x : Nat) : Int)
def OwU (w : World) (B : Nat) (v : Value) (xs : List Nat) : Prop := w.ownsRow B 22 1 v xs.length (xs.map uv)
theorem OwU.up {W w1 : World} {B : Nat} {v : Value} {xs : List Nat} (h : OwU W B v xs) (hb : Below W.heap.size W w1) : OwU w1 B v xs := by
  refine ⟨h.1, ?_⟩
  rcases h.2 with h' | ⟨g, cap, cur, e, hB, hg, rest⟩
  · exact .inl h'
  · exact .inr ⟨g, cap, cur, e, hB, (hb.block g (Array.getElem?_eq_some_iff.1 hg).1).trans hg, rest⟩
theorem made_zerosU (n : Nat) : (madeCells (Value.int .u64 0).cells (n * 1)).toList = (List.replicate n 0).map uv := by
  refine List.ext_getElem (by simp [madeCells]) fun i h1 h2 => ?_
  simp [madeCells, Value.cells, Nat.mod_one]
theorem wp_mkU {ops : Array Oper} {rest : List Oper} {o : Oper} {a : Act} {Q : Exit → Act → World → Prop} {w : World} (hg : o.guard = none) (l c : Operand) (hop : o.op = Op.makeSlice 84 l c)
    (B n : Nat) (L C : Int) (hl : a.eval l = .int .i64 L) (hc : a.eval c = .int .i64 C) (hL : L = (n : Int)) (hC : C = (n : Int)) (hn : n < 1099511627776) (hB : B ≤ w.heap.size)
    (h : ∀ w', OwU w' B (.slice (some ⟨w.heap.size, 0, none⟩) n n) (List.replicate n 0) → Below B w w' → wpList Tryd.prog ops Q rest (a.put o.dst (.slice (some ⟨w.heap.size, 0, none⟩) n n)) w') : wpList Tryd.prog ops Q (o :: rest) a w := by
  obtain ⟨i0, hi, hz0, hz1, hz2⟩ := info_parts Tryd.iU64
  refine wpList_make_full w hg l c 84 hop B 22 i0 (.int .u64 0) 1 Tryd.uU64s hi hz0 hz1 .i64 .i64 L C n hl hc hL hC (by rw [hz2]; omega) (by unfold maxLen; omega) hB ?_
  intro w' r1 r2
  refine h w' ?_ (Below.grown (Below.refl _ _) r2 hB (fun k hk => by cases hk))
  unfold OwU
  rw [← made_zerosU, List.length_replicate]
  exact r1
theorem OwU.cell {w : World} {B g n c : Nat} {xs : List Nat} (h : OwU w B (.slice (some ⟨g, 0, none⟩) n c) xs) (hn : n = xs.length) (j : Nat) (hj : j < xs.length) : w.cell? ⟨g, j, none⟩ = some (.int .u64 ((xs.getD j 0 : Nat) : Int)) ∧ w.frozen? ⟨g, j, none⟩ = false := by
  subst hn
  have h2 : w.ownsRow B 22 1 (.slice (some ⟨g, 0, none⟩) xs.length c) xs.length (xs.map uv) := h
  refine ⟨?_, h2.frozenAt j⟩
  rw [h2.cellAt j (by omega)]
  simp [hj, uv]
theorem OwU.set {w : World} {B g n c : Nat} {xs : List Nat} (h : OwU w B (.slice (some ⟨g, 0, none⟩) n c) xs) (hn : n = xs.length) (hg : B ≤ g) (j y : Nat) (z : Int) (hz : z = ((y : Nat) : Int)) : OwU (w.setCell ⟨g, j, none⟩ (.int .u64 z)) B (.slice (some ⟨g, 0, none⟩) n c) (xs.set j y) ∧ Below B w (w.setCell ⟨g, j, none⟩ (.int .u64 z)) := by
  subst hn hz
  have h2 : w.ownsRow B 22 1 (.slice (some ⟨g, 0, none⟩) xs.length c) xs.length (xs.map uv) := h
  refine ⟨?_, (Below.refl _ _).setCell hg _⟩
  have := (h2.stored j (uv y)).1
  unfold OwU
  rw [List.length_set, List.map_set]
  exact this
/-- Of word j what has come when the digits from k on are in. -/
def wf (X k j : Nat) : Nat := X / 65536 ^ (max k (4 * j)) % 65536 ^ (4 * j + 4 - max k (4 * j))
theorem wf_other {X k j : Nat} (h : j ≠ k / 4) : wf X k j = wf X (k + 1) j := by
  unfold wf
  rcases Nat.lt_or_gt_of_ne h with h | h
  · rw [show 4 * j + 4 - max k (4 * j) = 0 by omega, show 4 * j + 4 - max (k + 1) (4 * j) = 0 by omega, Nat.pow_zero, Nat.mod_one, Nat.mod_one]
  · rw [show max k (4 * j) = 4 * j by omega, show max (k + 1) (4 * j) = 4 * j by omega]
theorem wf_step (X k : Nat) : wf X k (k / 4) = wf X (k + 1) (k / 4) * 65536 + X / 65536 ^ k % 65536 ∧ wf X (k + 1) (k / 4) < 281474976710656 := by
  unfold wf
  obtain ⟨m, hm⟩ : ∃ m, 4 * (k / 4) + 4 - max (k + 1) (4 * (k / 4)) = m := ⟨_, rfl⟩
  have hm3 : m ≤ 3 := by omega
  rw [show max k (4 * (k / 4)) = k by omega, show max (k + 1) (4 * (k / 4)) = k + 1 by omega] at *
  rw [hm, show 4 * (k / 4) + 4 - k = m + 1 by omega]
  constructor
  · have e : X / 65536 ^ (k + 1) = X / 65536 ^ k / 65536 := by rw [Nat.pow_succ, Nat.div_div_eq_div_mul]
    rw [e, Nat.pow_succ, Nat.mul_comm (65536 ^ m), Nat.mod_mul, Nat.add_comm, Nat.mul_comm]
  · refine Nat.lt_of_lt_of_le (Nat.mod_lt _ (Nat.pow_pos (by decide))) ?_
    exact Nat.le_trans (Nat.pow_le_pow_right (by decide) hm3) (by decide)
set_option maxHeartbeats 2000000 in
theorem words_fun (u : Value) (xs : List Nat) (hx : P.Dg xs) (lx : xs.length < 1048576) (n : Nat) (hn : n < 65536) (w : World) (su : Sl w u xs) :
    Calls Tryd.prog 54 #[u, .int .i64 ((n : Nat) : Int)] w fun e w' => (∃ ws, e = .returned (.slice (some ⟨w.heap.size, 0, none⟩) n n) ∧ ws.length = n ∧ (∀ j, j < n → ws.getD j 0 = wf (P.dv xs) 0 j) ∧ OwU w' w.heap.size (.slice (some ⟨w.heap.size, 0, none⟩) n n) ws) ∧ Below w.heap.size w w' := by
  obtain ⟨ax, cx, rfl⟩ := su.parts
  have SU : Hid (Sl w (.slice ax xs.length cx) xs) := su
  clear su
  obtain ⟨m, hm⟩ : ∃ m, m = xs.length := ⟨_, rfl⟩
  have HM : Hid _ := hm
  rw [← hm] at SU lx ⊢
  clear hm
  have m1 : (m : Int) < 1048576 := by omega
  have n1 : (n : Int) < 65536 := by omega
  have n0 : (0 : Int) ≤ (n : Int) := by omega
  go_enter Tryd.func54, Tryd.ntmps54
  go_wp2_with (at_make; refine wp_mkU rfl _ _ rfl w.heap.size n _ _ rfl rfl rfl rfl (by omega) (Nat.le_refl _) ?_)
  intro w1 o1 hb1
  have s1 : Hid (OwU w1 w.heap.size (.slice (some ⟨w.heap.size, 0, none⟩) n n) (List.replicate n 0)) := o1
  have b1 : Hid (Below w.heap.size w w1) := hb1
  clear o1 hb1
  go_wp2_with fail
  go_loopw [6] (fun i wr => ∃ (k : Nat) (os : List Nat), k ≤ m ∧ i = .int .i64 ((k : Int) - 1) ∧ os.length = n ∧ Hid (∀ j, j < n → os.getD j 0 = wf (P.dv xs) k j) ∧ Hid (OwU wr w.heap.size (.slice (some ⟨w.heap.size, 0, none⟩) n n) os) ∧ Hid (Below w.heap.size w wr)) (fun i _ => (intOf i + 1).toNat)
  case atStart =>
    refine ⟨m, List.replicate n 0, Nat.le_refl _, by go_num, by simp, ?_, s1, b1⟩
    have z : P.dv xs / 65536 ^ m = 0 := by rw [HM.out]; exact Nat.div_eq_of_lt (P.dv_lt xs hx)
    refine (fun j hj => ?_ : ∀ j, j < n → (List.replicate n 0).getD j 0 = wf (P.dv xs) m j)
    rw [List.getD_eq_getElem?_getD, List.getElem?_replicate, if_pos hj]
    unfold wf
    have : P.dv xs / 65536 ^ (max m (4 * j)) = 0 := Nat.div_eq_of_lt (Nat.lt_of_lt_of_le (by rw [HM.out]; exact P.dv_lt xs hx) (Nat.pow_le_pow_right (by decide) (Nat.le_max_left _ _)))
    rw [this, Nat.zero_mod]
    rfl
  case round =>
    clear s1 b1
    obtain ⟨k, os, hk, rfl, hlen, HV, ho, hb⟩ := hrel
    by_cases h0 : 0 < k
    · obtain ⟨k, rfl⟩ : ∃ j, k = j + 1 := ⟨k - 1, by omega⟩
      rw [show ((k + 1 : Nat) : Int) - 1 = k by omega]
      have i0 : (k : Int) ≥ 0 := by omega
      have i1 : (k : Int) < (m : Int) := by omega
      by_cases h1 : k < 4 * n
      · have i2 : (k : Int) < 4 * (n : Int) := by omega
        obtain ⟨bx, ox, hax, hcx⟩ := Sl.some (xs := xs) SU.out (by rw [← HM.out]; omega)
        subst hax
        have c1 : wr.cell? ⟨bx, ox + k, none⟩ = _ := (hb.out.cell (p := ⟨bx, ox + k, none⟩) (lt_of_cell (hcx k (by rw [← HM.out]; omega)))).trans (hcx k (by rw [← HM.out]; omega))
        obtain ⟨q, hq⟩ : ∃ q, q = k / 4 := ⟨_, rfl⟩
        have q1 : q < n := by omega
        obtain ⟨c3, c4⟩ := OwU.cell ho.out hlen.symm q (by omega)
        rw [HV.out q q1] at c3
        have xl := P.dig_lt hx k
        have dx := P.dig hx k
        have WS := wf_step (P.dv xs) k
        rw [← hq, ← dx] at WS
        have WO : Hid (∀ j, j ≠ q → wf (P.dv xs) k j = wf (P.dv xs) (k + 1) j) := (fun j hj => wf_other (by rw [← hq]; exact hj) : ∀ j, j ≠ q → wf (P.dv xs) k j = wf (P.dv xs) (k + 1) j)
        have WE : Hid _ := WS.1
        have zl := WS.2
        have KQ : (k : Int) / 4 = (q : Int) := by omega
        have HQ : Hid _ := hq
        clear hcx dx WS hq
        generalize xs.getD k 0 = x at *
        generalize hz : wf (P.dv xs) (k + 1) q = z at *
        have HZ : Hid _ := hz
        clear hz
        have x0 : (0 : Int) ≤ (x : Int) := by omega
        have x1 : (x : Int) ≤ 65535 := by omega
        have z0 : (0 : Int) ≤ (z : Int) := by omega
        have z1 : (z : Int) < 281474976710656 := by omega
        have q0 : (0 : Int) ≤ (q : Int) := by omega
        have q2 : (q : Int) < (n : Int) := by omega
        go_wp2_with fail
        refine wp_region_up_then 16 (by kernel_rfl) (by kernel_rfl) (by kernel_rfl) (by kernel_rfl) (by decide) (fun _ _ d _ _ h => by cases d <;> exact h) (fun U hU f hf hcl => ?_)
        have C1 : ∀ n', (f n').cell? ⟨bx, ox + k, none⟩ = some (.int .i64 (x : Int)) := fun n' => ((hf n').out.cell (p := ⟨bx, ox + k, none⟩) (lt_of_cell c1)).trans c1
        have C3 : ∀ n', (f n').cell? ⟨w.heap.size, q, none⟩ = some (.int .u64 (z : Int)) := fun n' => ((hf n').out.cell (p := ⟨w.heap.size, q, none⟩) (lt_of_cell c3)).trans c3
        clear c1 c3 c4
        simp only [List.take_succ_cons, List.take_zero, List.drop_succ_cons, List.drop_zero]
        repeat (go_big_quiet_step (fail))
        refine wpQuiet_nil ?_
        intro nx
        have hb1 := (hf nx).out
        clear hf hcl C1 C3
        generalize f nx = w2 at hb1 ⊢
        have o2 : Hid (OwU w2 w.heap.size (.slice (some ⟨w.heap.size, 0, none⟩) n n) os) := OwU.up ho.out hb1
        have b2 : Hid (Below w.heap.size w w2) := hb.out.trans (hb1.mono hb.out.size)
        clear hb1 hb ho
        obtain ⟨d3, d4⟩ := OwU.cell o2.out hlen.symm q (by omega)
        have SS : Hid _ := OwU.set o2.out hlen.symm (Nat.le_refl _) q (z * 65536 + x) ((z : Int) * 65536 + (x : Int)) (by omega)
        go_wp2_with fail
        go_roundw
        case rel =>
          refine ⟨k, os.set q (z * 65536 + x), by omega, by go_num, by rw [List.length_set]; exact hlen, ?_, SS.out.1, b2.out.trans SS.out.2⟩
          refine (fun j hj => ?_ : ∀ j, j < n → (os.set q (z * 65536 + x)).getD j 0 = wf (P.dv xs) k j)
          by_cases e : j = q
          · subst e
            rw [List.getD_eq_getElem?_getD, List.getElem?_set_self (by omega)]
            exact WE.out.symm
          · rw [List.getD_eq_getElem?_getD, List.getElem?_set_ne (Ne.symm e), ← List.getD_eq_getElem?_getD, HV.out j hj, WO.out j e]
        case measure => simp [intOf]
      · have i2 : ¬ (k : Int) < 4 * (n : Int) := by omega
        go_wp2_with fail
        go_roundw
        case rel =>
          refine ⟨k, os, by omega, by go_num, hlen, (fun j hj => ?_ : ∀ j, j < n → os.getD j 0 = wf (P.dv xs) k j), ho, hb⟩
          rw [HV.out j hj]
          exact (wf_other (by omega)).symm
        case measure => simp [intOf]
    · have k0 : k = 0 := by omega
      subst k0
      rw [show ((0 : Nat) : Int) - 1 = -1 by omega]
      go_wp2_with fail
      go_ret
      exact ⟨⟨os, rfl, hlen, HV.out, ho.out⟩, hb.out⟩
theorem wf_num {X : Nat} (j : Nat) : wf X 0 j = X / 18446744073709551616 ^ j % 18446744073709551616 := by
  unfold wf
  rw [show max 0 (4 * j) = 4 * j by omega, show 4 * j + 4 - 4 * j = 4 by omega, Nat.pow_mul]
theorem word_ok (n : Nat) : Word ((n % 18446744073709551616 : Nat) : Int) := ⟨Int.natCast_nonneg _, Int.ofNat_lt.2 (Nat.mod_lt _ (by decide))⟩
theorem num_words (X : Nat) : (⟨((wf X 0 0 : Nat) : Int), ((wf X 0 1 : Nat) : Int), ((wf X 0 2 : Nat) : Int), ((wf X 0 3 : Nat) : Int)⟩ : Nm) = Nm.of ((X % 2 ^ 256 : Nat) : Int) := by
  refine Nm.eq_of ⟨by rw [wf_num]; exact word_ok _, by rw [wf_num]; exact word_ok _, by rw [wf_num]; exact word_ok _, by rw [wf_num]; exact word_ok _⟩ ?_
  unfold Nm.val
  rw [wf_num, wf_num, wf_num, wf_num]
  rw [show (2 : Nat) ^ 256 = 18446744073709551616 * (18446744073709551616 * (18446744073709551616 * 18446744073709551616)) from rfl]
  rw [show X / 18446744073709551616 ^ 0 = X by rw [Nat.pow_zero, Nat.div_one], show X / 18446744073709551616 ^ 1 = X / 18446744073709551616 by rw [Nat.pow_one],
    show X / 18446744073709551616 ^ 2 = X / 18446744073709551616 / 18446744073709551616 by rw [Nat.div_div_eq_div_mul],
    show X / 18446744073709551616 ^ 3 = X / 18446744073709551616 / 18446744073709551616 / 18446744073709551616 by rw [Nat.div_div_eq_div_mul, Nat.div_div_eq_div_mul]]
  rw [Nat.mod_mul, Nat.mod_mul, Nat.mod_mul]
  dsimp only
  omega
set_option maxHeartbeats 1000000 in
theorem toNum_walk (u : Value) (x : Nm) (W0 : Nat → World → Prop)
    (SW : ∀ w, W0 0 w → Calls Tryd.prog 54 #[u, .int .i64 4] w fun e w' => (e = .returned (.slice (some ⟨w.heap.size, 0, none⟩) 4 4) ∧ w'.cell? ⟨w.heap.size, 0, none⟩ = some (.int .u64 x.a) ∧ w'.cell? ⟨w.heap.size, 1, none⟩ = some (.int .u64 x.b) ∧ w'.cell? ⟨w.heap.size, 2, none⟩ = some (.int .u64 x.c) ∧ w'.cell? ⟨w.heap.size, 3, none⟩ = some (.int .u64 x.d)) ∧ Below w.heap.size w w')
    (w : World) (h0 : W0 0 (kz4 w)) :
    Calls Tryd.prog 31 #[u] w fun e w' => e = .returned (N x) ∧ Below w.heap.size w w' := by
  have H0 : Hid _ := h0
  clear h0
  go_enter Tryd.func31, Tryd.ntmps31
  have s0 : Hid (Kn (kz4 w) [(w.heap.size, zz4)]) := ((Kn.nil w).al zz4 24 rfl)
  have b0 : Hid (Below w.heap.size w (kz4 w)) := ((Below.refl _ _).alloc (Nat.le_refl _) _)
  go_wp2_with fail
  refine (SW _ H0.out).mono ?_
  rintro e w1 ⟨⟨rfl, c0, c1, c2, c3⟩, hb1⟩
  have s1 : Hid (Kn w1 [(w.heap.size, zz4)]) := s0.out.up hb1
  have b1 : Hid (Below w.heap.size w w1) := b0.out.trans (hb1.mono b0.out.size)
  have z1 := b1.out.size
  clear hb1 s0 b0
  go_wp2_with fail
  refine wp_region_up_then 13 (by kernel_rfl) (by kernel_rfl) (by kernel_rfl) (by kernel_rfl) (by decide) (fun _ _ d _ _ h => by cases d <;> exact h) (fun U hU f hf hcl => ?_)
  have C0 : ∀ n', (f n').cell? ⟨w.heap.size + 1, 0, none⟩ = some (.int .u64 x.a) := fun n' => ((hf n').out.cell (p := ⟨w.heap.size + 1, 0, none⟩) (lt_of_cell (by simpa using c0))).trans (by simpa using c0)
  have C1 : ∀ n', (f n').cell? ⟨w.heap.size + 1, 1, none⟩ = some (.int .u64 x.b) := fun n' => ((hf n').out.cell (p := ⟨w.heap.size + 1, 1, none⟩) (lt_of_cell (by simpa using c1))).trans (by simpa using c1)
  have C2 : ∀ n', (f n').cell? ⟨w.heap.size + 1, 2, none⟩ = some (.int .u64 x.c) := fun n' => ((hf n').out.cell (p := ⟨w.heap.size + 1, 2, none⟩) (lt_of_cell (by simpa using c2))).trans (by simpa using c2)
  have C3 : ∀ n', (f n').cell? ⟨w.heap.size + 1, 3, none⟩ = some (.int .u64 x.d) := fun n' => ((hf n').out.cell (p := ⟨w.heap.size + 1, 3, none⟩) (lt_of_cell (by simpa using c3))).trans (by simpa using c3)
  clear c0 c1 c2 c3
  simp only [List.take_succ_cons, List.take_zero, List.drop_succ_cons, List.drop_zero]
  repeat (go_big_quiet_step (fail))
  refine wpQuiet_nil ?_
  intro nx
  have hb2 := (hf nx).out
  clear hf hcl C0 C1 C2 C3
  generalize f nx = w2 at hb2 ⊢
  have s2 : Hid (Kn w2 [(w.heap.size, zz4)]) := s1.out.up hb2
  have b2 : Hid (Below w.heap.size w w2) := b1.out.trans (hb2.mono b1.out.size)
  clear hb2 s1 b1
  have uro_0 : w2.cell? ⟨w.heap.size, 0, none⟩ = some (.int .u64 0) := Kn.get s2.out 0 0 rfl rfl
  have uro_1 : w2.cell? ⟨w.heap.size, 1, none⟩ = some (.int .u64 0) := Kn.get s2.out 0 1 rfl rfl
  have uro_2 : w2.cell? ⟨w.heap.size, 2, none⟩ = some (.int .u64 0) := Kn.get s2.out 0 2 rfl rfl
  have uro_3 : w2.cell? ⟨w.heap.size, 3, none⟩ = some (.int .u64 0) := Kn.get s2.out 0 3 rfl rfl
  have uro_z : ∀ j, w2.frozen? ⟨w.heap.size, j, none⟩ = false := Kn.fz s2.out 0 rfl
  have s3 : Hid (Kn (st4 w2 (w.heap.size) (x)) [(w.heap.size, (c4 (x)))]) := Kn.st4 (L := []) (s2.out.front 0 rfl) (x)
  have b3 : Hid (Below w.heap.size w (st4 w2 (w.heap.size) (x))) := below_st4 b2.out (by omega)
  clear s2 b2
  go_wp2_with fail
  clear uro_0 uro_1 uro_2 uro_3 uro_z
  have urr_0 : (st4 w2 (w.heap.size) (x)).cell? ⟨w.heap.size, 0, none⟩ = some (.int .u64 (x).a) := Kn.get s3.out 0 0 rfl rfl
  have urr_1 : (st4 w2 (w.heap.size) (x)).cell? ⟨w.heap.size, 1, none⟩ = some (.int .u64 (x).b) := Kn.get s3.out 0 1 rfl rfl
  have urr_2 : (st4 w2 (w.heap.size) (x)).cell? ⟨w.heap.size, 2, none⟩ = some (.int .u64 (x).c) := Kn.get s3.out 0 2 rfl rfl
  have urr_3 : (st4 w2 (w.heap.size) (x)).cell? ⟨w.heap.size, 3, none⟩ = some (.int .u64 (x).d) := Kn.get s3.out 0 3 rfl rfl
  refine bodyPost_ret (v := N x) ?_ rfl ⟨rfl, b3.out⟩
  show (results Tryd.f31 _).run Tryd.prog (st4 w2 (w.heap.size) (x)) = .ok _ (st4 w2 (w.heap.size) (x))
  clear s3 b3
  generalize (st4 w2 (w.heap.size) (x)) = W9 at *
  simp [results, Tryd.results31, go_sem, urr_0, urr_1, urr_2, urr_3]
/-- sealringref.ToNum: modulo 2^256. -/
theorem toNum_fun (u : Value) (xs : List Nat) (hx : P.Dg xs) (lx : xs.length < 1048576) (w : World) (su : Sl w u xs) :
    Calls Tryd.prog 31 #[u] w fun e w' => e = .returned (N (Nm.of ((P.dv xs % 2 ^ 256 : Nat) : Int))) ∧ Below w.heap.size w w' := by
  rw [← num_words]
  refine toNum_walk u _ (fun _ w => Sl w u xs) (fun w h => ?_) w (Sl.up (xs := xs) su ((Below.refl _ _).alloc (Nat.le_refl _) _))
  refine (words_fun u xs hx lx 4 (by decide) w h).mono ?_
  rintro e w' ⟨⟨ws, rfl, hl, hv, ho⟩, hb⟩
  have c := fun j (hj : j < 4) => (OwU.cell ho hl.symm j (by omega)).1
  refine ⟨⟨rfl, ?_, ?_, ?_, ?_⟩, hb⟩
  · rw [c 0 (by decide), hv 0 (by decide)]
  · rw [c 1 (by decide), hv 1 (by decide)]
  · rw [c 2 (by decide), hv 2 (by decide)]
  · rw [c 3 (by decide), hv 3 (by decide)]
end Go.Proofs.YtdcpicbkemmakaaDoor

/- The contracts of sealringref's numbers, told by numbers: ToNum. -/
namespace Go.Proofs.YtdcpicbkemmakaaDoor
open Go.RowKit
set_option linter.unusedSimpArgs false
theorem toNum_of (X : Nat) (hX : X < 2 ^ 256) (u : Value) (w : World) (su : Sl w u (P.dg X)) :
    Calls Tryd.prog 31 #[u] w fun e w' => e = .returned (N (Nm.of ((X : Nat) : Int))) ∧ Below w.heap.size w w' := by
  have := toNum_fun u _ (P.dg_Dg X) (dshort (Nat.lt_trans hX (by decide))) w su
  rwa [P.dv_dg, Nat.mod_eq_of_lt hX] at this
end Go.Proofs.YtdcpicbkemmakaaDoor
