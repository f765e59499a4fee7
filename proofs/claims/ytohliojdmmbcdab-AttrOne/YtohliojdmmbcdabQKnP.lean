/- Part of a known block is stored; a block of rows, one after another. -/
import Derived.Test.YtohliojdmmbcdabQKn
import Derived.Test.YtohliojdmmbcdabQKnO
import Derived.Test.YtohliojdmmbcdabQBK
namespace Go.Proofs.Ytohliojdmmbcdab
open Go.RowKit
set_option linter.unusedSimpArgs false
theorem Kn.putAt {w : World} {L : List (Nat × List Value)} {k o : Nat} {a b c b' : List Value} (h : Kn w ((k, a ++ (b ++ c)) :: L)) (ho : o = a.length) (hl : b'.length = b.length) : Kn (w.setCells k o b') ((k, a ++ (b' ++ c)) :: L) := by
  refine ⟨h.nd, fun p hp => ?_⟩
  rcases List.mem_cons.1 hp with rfl | hp
  · have h0 := h.all _ List.mem_cons_self
    have h1 : Blk w k (a ++ (b ++ c)) := ⟨h0.lt, h0.cell, h0.fz⟩
    have h2 := h1.store (b' := b') ho hl
    exact ⟨h2.lt, h2.cell, h2.fz⟩
  · have hb := h.all p (List.mem_cons_of_mem _ hp)
    have hk : p.1 ≠ k := fun e => by
      have := (List.nodup_cons.1 h.nd).1
      exact this (List.mem_map.2 ⟨p, hp, e⟩)
    exact ⟨by rw [I.size_setCells]; exact hb.lt, fun j v hv => by rw [World.cell?_setCells_out k b' o w ⟨p.1, j, none⟩ (fun e _ => absurd e hk)]; exact hb.cell j v hv, fun j => by rw [World.frozen?_setCells]; exact hb.fz j⟩
/-- Rows of sz cells each. -/
def rowL (sz : Nat) (f : Nat → Nat → Value) (n : Nat) : List Value := (List.range (n * sz)).map fun q => f (q / sz) (q % sz)
theorem rowL_length (sz : Nat) (f : Nat → Nat → Value) (n : Nat) : (rowL sz f n).length = n * sz := by rw [rowL, List.length_map, List.length_range]
theorem row_lt {sz n i r : Nat} (hi : i < n) (hr : r < sz) : i * sz + r < n * sz := by
  have h : (i + 1) * sz ≤ n * sz := Nat.mul_le_mul_right _ hi
  rw [Nat.add_mul, Nat.one_mul] at h
  omega
theorem rowL_get {sz n i r : Nat} (f : Nat → Nat → Value) (hi : i < n) (hr : r < sz) : (rowL sz f n)[i * sz + r]? = some (f i r) := by
  have hs : 0 < sz := by omega
  rw [rowL, List.getElem?_map, List.getElem?_range (row_lt hi hr)]
  have e1 : (i * sz + r) / sz = i := by rw [Nat.mul_comm, Nat.mul_add_div hs, Nat.div_eq_of_lt hr, Nat.add_zero]
  have e2 : (i * sz + r) % sz = r := by rw [Nat.mul_comm, Nat.mul_add_mod, Nat.mod_eq_of_lt hr]
  simp only [Option.map_some, e1, e2]
theorem rowL_congr {sz n : Nat} {f g : Nat → Nat → Value} (h : ∀ i, i < n → ∀ r, r < sz → f i r = g i r) : rowL sz f n = rowL sz g n := by
  unfold rowL
  refine List.map_congr_left fun q hq => ?_
  have hq := List.mem_range.1 hq
  have hs : 0 < sz := by
    rcases Nat.eq_zero_or_pos sz with e | e
    · rw [e, Nat.mul_zero] at hq; omega
    · exact e
  exact h _ (Nat.div_lt_of_lt_mul (by rw [Nat.mul_comm]; exact hq)) _ (Nat.mod_lt _ hs)
theorem Kn.row {w : World} {L : List (Nat × List Value)} {k sz n i : Nat} {f : Nat → Nat → Value} (h : Kn w ((k, rowL sz f n) :: L)) (hi : i < n) (vs : List Value) (hl : vs.length = sz) (hv : ∀ r v, vs[r]? = some v → f i r = v) : w.rangeAt k (i * sz) vs := fun r v hr => by
  have hr' : r < sz := by rw [← hl]; exact (List.getElem?_eq_some_iff.1 hr).1
  have := Kn.get h 0 (i * sz + r) rfl (rowL_get f hi hr')
  rw [hv r v hr] at this
  exact this
/-- One row is stored. -/
theorem Kn.rowPut {w : World} {L : List (Nat × List Value)} {k sz n i : Nat} {f : Nat → Nat → Value} (h : Kn w ((k, rowL sz f n) :: L)) (hi : i < n) (vs : List Value) (hl : vs.length = sz) : Kn (w.setCells k (i * sz) vs) ((k, rowL sz (fun j r => if j = i then vs.getD r (.bool false) else f j r) n) :: L) := by
  have hb : i * sz + sz ≤ n * sz := by
    have h : (i + 1) * sz ≤ n * sz := Nat.mul_le_mul_right _ hi
    rw [Nat.add_mul, Nat.one_mul] at h
    exact h
  have e : rowL sz f n = (rowL sz f n).take (i * sz) ++ (((rowL sz f n).drop (i * sz)).take sz ++ (rowL sz f n).drop (i * sz + sz)) := by
    rw [← List.drop_drop, List.take_append_drop, List.take_append_drop]
  have e2 : (rowL sz f n).take (i * sz) ++ (vs ++ (rowL sz f n).drop (i * sz + sz)) = rowL sz (fun j r => if j = i then vs.getD r (.bool false) else f j r) n := by
    have l1 : ((rowL sz f n).take (i * sz)).length = i * sz := by rw [List.length_take, rowL_length]; omega
    refine List.ext_getElem (by rw [List.length_append, List.length_append, l1, List.length_drop, rowL_length, rowL_length, hl]; omega) fun q h1 h2 => ?_
    have hq : q < n * sz := by rw [rowL_length] at h2; exact h2
    have hs : 0 < sz := by
      rcases Nat.eq_zero_or_pos sz with e | e
      · rw [e, Nat.mul_zero] at hq; omega
      · exact e
    have hd := Nat.div_add_mod q sz
    have hm := Nat.mod_lt q hs
    have er : (rowL sz (fun j r => if j = i then vs.getD r (.bool false) else f j r) n)[q] = if q / sz = i then vs.getD (q % sz) (.bool false) else f (q / sz) (q % sz) := by
      simp only [rowL, List.getElem_map, List.getElem_range]
    have ef : ∀ hq', (rowL sz f n)[q]'hq' = f (q / sz) (q % sz) := fun hq' => by simp only [rowL, List.getElem_map, List.getElem_range]
    rw [er]
    rw [Nat.mul_comm] at hd
    by_cases c1 : q < i * sz
    · rw [List.getElem_append_left (by rw [l1]; exact c1), List.getElem_take, ef, if_neg]
      intro e
      rw [e] at hd
      omega
    · rw [List.getElem_append_right (by rw [l1]; omega)]
      by_cases c2 : q < i * sz + sz
      · have ei : q / sz = i := by
          have h1 : i ≤ q / sz := (Nat.le_div_iff_mul_le hs).2 (by omega)
          have h2 : q / sz < i + 1 := (Nat.div_lt_iff_lt_mul hs).2 (by rw [Nat.add_mul, Nat.one_mul]; omega)
          omega
        rw [if_pos ei, List.getElem_append_left (by rw [l1, hl]; omega)]
        have em : q - i * sz = q % sz := by rw [ei] at hd; omega
        rw [List.getD_eq_getElem?_getD, List.getElem?_eq_getElem (by rw [hl]; exact hm)]
        simp only [l1, em, Option.getD_some]
      · rw [List.getElem_append_right (by rw [l1, hl]; omega), List.getElem_drop]
        have eq : i * sz + sz + (q - ((rowL sz f n).take (i * sz)).length - vs.length) = q := by rw [l1, hl]; omega
        simp only [eq]
        rw [ef, if_neg]
        intro e
        rw [e] at hd
        omega
  rw [e] at h
  have := Kn.putAt (b' := vs) h (show i * sz = _ by rw [List.length_take, rowL_length]; omega) (by rw [hl, List.length_take, List.length_drop, rowL_length]; omega)
  rw [e2] at this
  exact this
theorem Kn.rowThere {w : World} {L : List (Nat × List Value)} {k sz n i : Nat} {f : Nat → Nat → Value} (h : Kn w ((k, rowL sz f n) :: L)) (hi : i < n) (vs : List Value) (hl : vs.length = sz) : w.there k (i * sz) vs.length := fun r hr => by
  rw [hl] at hr
  have := Kn.get h 0 (i * sz + r) rfl (rowL_get f hi hr)
  have hf := Kn.fz h 0 rfl (i * sz + r)
  exact ⟨by rw [this]; rfl, hf⟩
end Go.Proofs.Ytohliojdmmbcdab
