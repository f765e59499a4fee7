/- Texts that were joined: KnP, BsMk, MkR. -/
import Derived.Test.YtohliojdmmbcdaaQNumToKn
import Derived.Test.YtohliojdmmbcdaaQUpToKnO
import Derived.Test.YtohliojdmmbcdaaQBKToBs
import Derived.Deep.RegionLaw
/- Part of a known block is stored; a block of rows, one after another. -/
namespace Go.Proofs.Ytohliojdmmbcdaa
open Go.RowKit
set_option linter.unusedSimpArgs false
theorem Kn.putAt {w : World} {L : List (Nat × List Value)} {k o : Nat} {a b c b' : List Value} (h : Kn w ((k, a ++ (b ++ c)) :: L)) (ho : o = a.length) (hl : b'.length = b.length) : Kn (w.setCells k o b') ((k, a ++ (b' ++ c)) :: L) := by
  refine ⟨h.nd, fun p hp => ?_⟩
  rcases List.mem_cons.1 hp with rfl | hp
  · have h0 := h.all _ List.mem_cons_self
    have h1 : Blk w k (a ++ (b ++ c)) := ⟨h0.lt, h0.cell, h0.fz⟩
    have h2 := h1.store (b' := b') ho hl
    exact ⟨h2.lt, h2.cell, h2.fz⟩
  · have hb := h.all p (List.mem_cons_of_mem _ hp)
    have hk : p.1 ≠ k := fun e => by
      have := (List.nodup_cons.1 h.nd).1
      exact this (List.mem_map.2 ⟨p, hp, e⟩)
    exact ⟨by rw [I.size_setCells]; exact hb.lt, fun j v hv => by rw [World.cell?_setCells_out k b' o w ⟨p.1, j, none⟩ (fun e _ => absurd e hk)]; exact hb.cell j v hv, fun j => by rw [World.frozen?_setCells]; exact hb.fz j⟩
/-- Rows of sz cells each. -/
def rowL (sz : Nat) (f : Nat → Nat → Value) (n : Nat) : List Value := (List.range (n * sz)).map fun q => f (q / sz) (q % sz)
theorem rowL_length (sz : Nat) (f : Nat → Nat → Value) (n : Nat) : (rowL sz f n).length = n * sz := by rw [rowL, List.length_map, List.length_range]
theorem row_lt {sz n i r : Nat} (hi : i < n) (hr : r < sz) : i * sz + r < n * sz := by
  have h : (i + 1) * sz ≤ n * sz := Nat.mul_le_mul_right _ hi
  rw [Nat.add_mul, Nat.one_mul] at h
  omega
theorem rowL_get {sz n i r : Nat} (f : Nat → Nat → Value) (hi : i < n) (hr : r < sz) : (rowL sz f n)[i * sz + r]? = some (f i r) := by
  have hs : 0 < sz := by omega
  rw [rowL, List.getElem?_map, List.getElem?_range (row_lt hi hr)]
  have e1 : (i * sz + r) / sz = i := by rw [Nat.mul_comm, Nat.mul_add_div hs, Nat.div_eq_of_lt hr, Nat.add_zero]
  have e2 : (i * sz + r) % sz = r := by rw [Nat.mul_comm, Nat.mul_add_mod, Nat.mod_eq_of_lt hr]
  simp only [Option.map_some, e1, e2]
theorem rowL_congr {sz n : Nat} {f g : Nat → Nat → Value} (h : ∀ i, i < n → ∀ r, r < sz → f i r = g i r) : rowL sz f n = rowL sz g n := by
  unfold rowL
  refine List.map_congr_left fun q hq => ?_
  have hq := List.mem_range.1 hq
  have hs : 0 < sz := by
    rcases Nat.eq_zero_or_pos sz with e | e
    · rw [e, Nat.mul_zero] at hq; omega
    · exact e
  exact h _ (Nat.div_lt_of_lt_mul (by rw [Nat.mul_comm]; exact hq)) _ (Nat.mod_lt _ hs)
theorem Kn.row {w : World} {L : List (Nat × List Value)} {k sz n i : Nat} {f : Nat → Nat → Value} (h : Kn w ((k, rowL sz f n) :: L)) (hi : i < n) (vs : List Value) (hl : vs.length = sz) (hv : ∀ r v, vs[r]? = some v → f i r = v) : w.rangeAt k (i * sz) vs := fun r v hr => by
  have hr' : r < sz := by rw [← hl]; exact (List.getElem?_eq_some_iff.1 hr).1
  have := Kn.get h 0 (i * sz + r) rfl (rowL_get f hi hr')
  rw [hv r v hr] at this
  exact this
/-- One row is stored. -/
theorem Kn.rowPut {w : World} {L : List (Nat × List Value)} {k sz n i : Nat} {f : Nat → Nat → Value} (h : Kn w ((k, rowL sz f n) :: L)) (hi : i < n) (vs : List Value) (hl : vs.length = sz) : Kn (w.setCells k (i * sz) vs) ((k, rowL sz (fun j r => if j = i then vs.getD r (.bool false) else f j r) n) :: L) := by
  have hb : i * sz + sz ≤ n * sz := by
    have h : (i + 1) * sz ≤ n * sz := Nat.mul_le_mul_right _ hi
    rw [Nat.add_mul, Nat.one_mul] at h
    exact h
  have e : rowL sz f n = (rowL sz f n).take (i * sz) ++ (((rowL sz f n).drop (i * sz)).take sz ++ (rowL sz f n).drop (i * sz + sz)) := by
    rw [← List.drop_drop, List.take_append_drop, List.take_append_drop]
  have e2 : (rowL sz f n).take (i * sz) ++ (vs ++ (rowL sz f n).drop (i * sz + sz)) = rowL sz (fun j r => if j = i then vs.getD r (.bool false) else f j r) n := by
    have l1 : ((rowL sz f n).take (i * sz)).length = i * sz := by rw [List.length_take, rowL_length]; omega
    refine List.ext_getElem (by rw [List.length_append, List.length_append, l1, List.length_drop, rowL_length, rowL_length, hl]; omega) fun q h1 h2 => ?_
    have hq : q < n * sz := by rw [rowL_length] at h2; exact h2
    have hs : 0 < sz := by
      rcases Nat.eq_zero_or_pos sz with e | e
      · rw [e, Nat.mul_zero] at hq; omega
      · exact e
    have hd := Nat.div_add_mod q sz
    have hm := Nat.mod_lt q hs
    have er : (rowL sz (fun j r => if j = i then vs.getD r (.bool false) else f j r) n)[q] = if q / sz = i then vs.getD (q % sz) (.bool false) else f (q / sz) (q % sz) := by
      simp only [rowL, List.getElem_map, List.getElem_range]
    have ef : ∀ hq', (rowL sz f n)[q]'hq' = f (q / sz) (q % sz) := fun hq' => by simp only [rowL, List.getElem_map, List.getElem_range]
    rw [er]
    rw [Nat.mul_comm] at hd
    by_cases c1 : q < i * sz
    · rw [List.getElem_append_left (by rw [l1]; exact c1), List.getElem_take, ef, if_neg]
      intro e
      rw [e] at hd
      omega
    · rw [List.getElem_append_right (by rw [l1]; omega)]
      by_cases c2 : q < i * sz + sz
      · have ei : q / sz = i := by
          have h1 : i ≤ q / sz := (Nat.le_div_iff_mul_le hs).2 (by omega)
          have h2 : q / sz < i + 1 := (Nat.div_lt_iff_lt_mul hs).2 (by rw [Nat.add_mul, Nat.one_mul]; omega)
          omega
        rw [if_pos ei, List.getElem_append_left (by rw [l1, hl]; omega)]
        have em : q - i * sz = q % sz := by rw [ei] at hd; omega
        rw [List.getD_eq_getElem?_getD, List.getElem?_eq_getElem (by rw [hl]; exact hm)]
        simp only [l1, em, Option.getD_some]
      · rw [List.getElem_append_right (by rw [l1, hl]; omega), List.getElem_drop]
        have eq : i * sz + sz + (q - ((rowL sz f n).take (i * sz)).length - vs.length) = q := by rw [l1, hl]; omega
        simp only [eq]
        rw [ef, if_neg]
        intro e
        rw [e] at hd
        omega
  rw [e] at h
  have := Kn.putAt (b' := vs) h (show i * sz = _ by rw [List.length_take, rowL_length]; omega) (by rw [hl, List.length_take, List.length_drop, rowL_length]; omega)
  rw [e2] at this
  exact this
theorem Kn.rowThere {w : World} {L : List (Nat × List Value)} {k sz n i : Nat} {f : Nat → Nat → Value} (h : Kn w ((k, rowL sz f n) :: L)) (hi : i < n) (vs : List Value) (hl : vs.length = sz) : w.there k (i * sz) vs.length := fun r hr => by
  rw [hl] at hr
  have := Kn.get h 0 (i * sz + r) rfl (rowL_get f hi hr)
  have hf := Kn.fz h 0 rfl (i * sz + r)
  exact ⟨by rw [this]; rfl, hf⟩
end Go.Proofs.Ytohliojdmmbcdaa

/- Rows of bytes that a call makes by make: their cells, and a store into one. -/
namespace Go.Proofs.Ytohliojdmmbcdaa
open Go.RowKit
theorem Ob.cell {w : World} {B g n c : Nat} {xs : List Nat} (h : Ob w B (.slice (some ⟨g, 0, none⟩) n c) xs) (hn : n = xs.length) (j : Nat) (hj : j < xs.length) : w.cell? ⟨g, j, none⟩ = some (.int .u8 ((xs.getD j 0 : Nat) : Int)) ∧ w.frozen? ⟨g, j, none⟩ = false := by
  subst hn
  have h2 : w.ownsRow B 5 1 (.slice (some ⟨g, 0, none⟩) xs.length c) xs.length (xs.map b8) := h
  refine ⟨?_, h2.frozenAt j⟩
  rw [h2.cellAt j (by omega)]
  simp [hj, b8]
end Go.Proofs.Ytohliojdmmbcdaa

/- Rows made, of any kind, and filled one after another. -/
namespace Go.Proofs.Ytohliojdmmbcdaa
open Go.RowKit
set_option linter.unusedSimpArgs false
theorem made_rows (zs : List Value) (n : Nat) : (madeCells (Value.agg zs.toArray).cells (n * zs.length)).toList = rowL zs.length (fun _ r => zs.getD r (.bool false)) n := by
  refine List.ext_getElem (by simp [madeCells, rowL_length]) fun i h1 h2 => ?_
  rw [rowL_length] at h2
  have hs : 0 < zs.length := by
    rcases Nat.eq_zero_or_pos zs.length with e | e
    · rw [e, Nat.mul_zero] at h2; omega
    · exact e
  have hm := Nat.mod_lt i hs
  simp [madeCells, Value.cells, rowL, List.getD_eq_getElem?_getD, hm]
theorem wp_mkRow {ops : Array Oper} {rest : List Oper} {o : Oper} {a : Act} {Q : Exit → Act → World → Prop} {w : World} (hg : o.guard = none) (T e : TypeId) (zs : List Value) (by_ : Nat) (uT : Try.prog.underlying T = some (.slice e)) (iT : (Try.prog.info? e).map (fun i => (i.zero, i.size, i.bytes)) = some (some (.agg zs.toArray), zs.length, by_)) (hb : by_ ≤ 1000) (l c : Operand) (hop : o.op = Op.makeSlice T l c)
    (n : Nat) (L : Int) (hl : a.eval l = .int .i64 L) (hc : a.eval c = .int .i64 L) (hL : L = (n : Int)) (hn : n ≤ 65536)
    (h : ∀ w', KBlk w' w.heap.size (rowL zs.length (fun _ r => zs.getD r (.bool false)) n) → Below w.heap.size w w' → wpList Try.prog ops Q rest (a.put o.dst (.slice (some ⟨w.heap.size, 0, none⟩) n n)) w') : wpList Try.prog ops Q (o :: rest) a w := by
  obtain ⟨i0, hi, hz0, hz1, hz2⟩ := info_parts iT
  have hbn : by_ * n ≤ 1000 * 65536 := Nat.mul_le_mul hb hn
  refine wpList_make_full w hg l c T hop w.heap.size e i0 (.agg zs.toArray) zs.length uT hi hz0 hz1 .i64 .i64 L L n hl hc hL hL (by rw [hz2]; omega) (by unfold maxLen; omega) (Nat.le_refl _) ?_
  intro w' r1 r2
  refine h w' ?_ (Below.grown (Below.refl _ _) r2 (Nat.le_refl _) (fun k hk => by cases hk))
  rcases r1.2 with ⟨e', _⟩ | ⟨g, cap, cur, e', _, hgg, _, _, hsz, htk⟩
  · cases e'
  · cases e'
    have e2 : cur.toList = rowL zs.length (fun _ r => zs.getD r (.bool false)) n := by
      rw [List.take_of_length_le (by rw [Array.length_toList, hsz]; omega)] at htk
      rw [htk, made_rows]
    refine KBlk.of (t := e) ?_
    rw [← e2]
    exact hgg
/-- The cells of a row's elements, so many of which are there. -/
def flR (zs : List Value) (c : Nat → List Value) (m n : Nat) : List Value := rowL zs.length (fun i r => if i < m then (c i).getD r (.bool false) else zs.getD r (.bool false)) n
theorem flR_zero (zs : List Value) (c : Nat → List Value) (n : Nat) : rowL zs.length (fun _ r => zs.getD r (.bool false)) n = flR zs c 0 n := rowL_congr fun i _ r _ => by rw [if_neg (Nat.not_lt_zero _)]
theorem flR_put {w : World} {L : List (Nat × List Value)} {g m n : Nat} {zs : List Value} {c : Nat → List Value} (h : Kn w ((g, flR zs c m n) :: L)) (hm : m < n) (hl : (c m).length = zs.length) : Kn (w.setCells g (m * zs.length) (c m)) ((g, flR zs c (m + 1) n) :: L) := by
  have := h.rowPut hm (c m) hl
  have e : rowL zs.length (fun j r => if j = m then (c m).getD r (.bool false) else if j < m then (c j).getD r (.bool false) else zs.getD r (.bool false)) n = flR zs c (m + 1) n := rowL_congr fun i _ r _ => by
    by_cases h1 : i = m
    · rw [if_pos h1, if_pos (by omega), h1]
    · rw [if_neg h1]
      by_cases h2 : i < m
      · rw [if_pos h2, if_pos (by omega)]
      · rw [if_neg h2, if_neg (by omega)]
  rw [e] at this
  exact this
theorem flR_rng {w : World} {L : List (Nat × List Value)} {g i m n : Nat} {zs : List Value} {c : Nat → List Value} (h : Kn w ((g, flR zs c m n) :: L)) (hi : i < m) (hm : m ≤ n) (hl : (c i).length = zs.length) : w.rangeAt g (i * zs.length) (c i) :=
  h.row (by omega) (c i) hl fun r v hv => by
    rw [if_pos hi, List.getD_eq_getElem?_getD, hv]
    rfl
theorem flR_there {w : World} {L : List (Nat × List Value)} {g m n k : Nat} {zs : List Value} {c : Nat → List Value} (h : Kn w ((g, flR zs c k n) :: L)) (hm : m < n) (vs : List Value) (hl : vs.length = zs.length) : w.there g (m * zs.length) vs.length := Kn.rowThere h hm vs hl
end Go.Proofs.Ytohliojdmmbcdaa
