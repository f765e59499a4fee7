/- Rows made, of any kind, and filled one after another. -/
import Derived.Test.YtohliojdmmbcdabQKnP
import Derived.Test.YtohliojdmmbcdabQBsMk
namespace Go.Proofs.Ytohliojdmmbcdab
open Go.RowKit
set_option linter.unusedSimpArgs false
theorem made_rows (zs : List Value) (n : Nat) : (madeCells (Value.agg zs.toArray).cells (n * zs.length)).toList = rowL zs.length (fun _ r => zs.getD r (.bool false)) n := by
  refine List.ext_getElem (by simp [madeCells, rowL_length]) fun i h1 h2 => ?_
  rw [rowL_length] at h2
  have hs : 0 < zs.length := by
    rcases Nat.eq_zero_or_pos zs.length with e | e
    · rw [e, Nat.mul_zero] at h2; omega
    · exact e
  have hm := Nat.mod_lt i hs
  simp [madeCells, Value.cells, rowL, List.getD_eq_getElem?_getD, hm]
theorem wp_mkRow {ops : Array Oper} {rest : List Oper} {o : Oper} {a : Act} {Q : Exit → Act → World → Prop} {w : World} (hg : o.guard = none) (T e : TypeId) (zs : List Value) (by_ : Nat) (uT : Try.prog.underlying T = some (.slice e)) (iT : (Try.prog.info? e).map (fun i => (i.zero, i.size, i.bytes)) = some (some (.agg zs.toArray), zs.length, by_)) (hb : by_ ≤ 1000) (l c : Operand) (hop : o.op = Op.makeSlice T l c)
    (n : Nat) (L : Int) (hl : a.eval l = .int .i64 L) (hc : a.eval c = .int .i64 L) (hL : L = (n : Int)) (hn : n ≤ 65536)
    (h : ∀ w', KBlk w' w.heap.size (rowL zs.length (fun _ r => zs.getD r (.bool false)) n) → Below w.heap.size w w' → wpList Try.prog ops Q rest (a.put o.dst (.slice (some ⟨w.heap.size, 0, none⟩) n n)) w') : wpList Try.prog ops Q (o :: rest) a w := by
  obtain ⟨i0, hi, hz0, hz1, hz2⟩ := info_parts iT
  have hbn : by_ * n ≤ 1000 * 65536 := Nat.mul_le_mul hb hn
  refine wpList_make_full w hg l c T hop w.heap.size e i0 (.agg zs.toArray) zs.length uT hi hz0 hz1 .i64 .i64 L L n hl hc hL hL (by rw [hz2]; omega) (by unfold maxLen; omega) (Nat.le_refl _) ?_
  intro w' r1 r2
  refine h w' ?_ (Below.grown (Below.refl _ _) r2 (Nat.le_refl _) (fun k hk => by cases hk))
  rcases r1.2 with ⟨e', _⟩ | ⟨g, cap, cur, e', _, hgg, _, _, hsz, htk⟩
  · cases e'
  · cases e'
    have e2 : cur.toList = rowL zs.length (fun _ r => zs.getD r (.bool false)) n := by
      rw [List.take_of_length_le (by rw [Array.length_toList, hsz]; omega)] at htk
      rw [htk, made_rows]
    refine KBlk.of (t := e) ?_
    rw [← e2]
    exact hgg
/-- The cells of a row's elements, so many of which are there. -/
def flR (zs : List Value) (c : Nat → List Value) (m n : Nat) : List Value := rowL zs.length (fun i r => if i < m then (c i).getD r (.bool false) else zs.getD r (.bool false)) n
theorem flR_zero (zs : List Value) (c : Nat → List Value) (n : Nat) : rowL zs.length (fun _ r => zs.getD r (.bool false)) n = flR zs c 0 n := rowL_congr fun i _ r _ => by rw [if_neg (Nat.not_lt_zero _)]
theorem flR_put {w : World} {L : List (Nat × List Value)} {g m n : Nat} {zs : List Value} {c : Nat → List Value} (h : Kn w ((g, flR zs c m n) :: L)) (hm : m < n) (hl : (c m).length = zs.length) : Kn (w.setCells g (m * zs.length) (c m)) ((g, flR zs c (m + 1) n) :: L) := by
  have := h.rowPut hm (c m) hl
  have e : rowL zs.length (fun j r => if j = m then (c m).getD r (.bool false) else if j < m then (c j).getD r (.bool false) else zs.getD r (.bool false)) n = flR zs c (m + 1) n := rowL_congr fun i _ r _ => by
    by_cases h1 : i = m
    · rw [if_pos h1, if_pos (by omega), h1]
    · rw [if_neg h1]
      by_cases h2 : i < m
      · rw [if_pos h2, if_pos (by omega)]
      · rw [if_neg h2, if_neg (by omega)]
  rw [e] at this
  exact this
theorem flR_rng {w : World} {L : List (Nat × List Value)} {g i m n : Nat} {zs : List Value} {c : Nat → List Value} (h : Kn w ((g, flR zs c m n) :: L)) (hi : i < m) (hm : m ≤ n) (hl : (c i).length = zs.length) : w.rangeAt g (i * zs.length) (c i) :=
  h.row (by omega) (c i) hl fun r v hv => by
    rw [if_pos hi, List.getD_eq_getElem?_getD, hv]
    rfl
theorem flR_there {w : World} {L : List (Nat × List Value)} {g m n k : Nat} {zs : List Value} {c : Nat → List Value} (h : Kn w ((g, flR zs c k n) :: L)) (hm : m < n) (vs : List Value) (hl : vs.length = zs.length) : w.there g (m * zs.length) vs.length := Kn.rowThere h hm vs hl
end Go.Proofs.Ytohliojdmmbcdab
