/- A point among the arguments: its value and its datum out of its reading, and its reading again in whatever world. -/
import Derived.Test.YtpnfopakkaoibaaQArr
import Derived.Test.YtpnfopakkaoibaaQOwn
namespace Go.Proofs.Ytpnfopakkaoibaa
open Go.ChangeShapes Go.WideShapes Go.ChangeAt Go.RowKit
section
variable {P : Program} {H : Type} {enc : TypeId × Value → H} {w : World} {base : Nat} {spare : Nat → Bool} {held : Bool}
theorem trod_arr_mk {t e : TypeId} {n : Nat} {k : IntKind} (ht : P.underlying t = some (.array n e)) (hu : P.underlying e = some (.int k)) (hce : P.cellsOf e = 1) (hct : P.cellsOf t = n)
    {xs : List Int} (hl : xs.length = n) (hwf : ∀ i ∈ xs, (Lit.int k i).wf = true) :
    DataW.trod enc P w base spare held 2 t (xs.map (Value.int k)) = some (.agg (xs.map fun i => .lit (.int k i)), []) := by
  unfold DataW.trod
  rw [ht]
  simp only [List.length_map, hl, hct, if_true]
  rw [mapM_some (g := fun i => (DataW.lit (Lit.int k (xs.getD i 0)), ([] : List MemPlace)))]
  · simp only [Option.map_some, List.map_map]
    have e1 : (List.range n).map (fun i => DataW.lit (H := H) (Lit.int k (xs.getD i 0))) = xs.map fun i => .lit (.int k i) := by
      apply List.ext_getElem?
      intro i
      by_cases hi : i < n
      · simp [hi, List.getElem?_eq_getElem (hl ▸ hi : i < xs.length)]
      · rw [List.getElem?_eq_none (by simp; omega), List.getElem?_eq_none (by simp; omega)]
    simp only [Function.comp_def, e1]
    simp [List.flatMap]
  · intro i hi
    have hi : i < xs.length := by rw [hl]; exact List.mem_range.1 hi
    have hd : ((xs.map (Value.int k)).drop (i * P.cellsOf e)).take (P.cellsOf e) = [.int k (xs.getD i 0)] := by
      rw [hce, Nat.mul_one, List.take_one, List.head?_drop]
      simp [hi]
    rw [hd]
    unfold DataW.trod
    rw [hu]
    have hw := hwf (xs.getD i 0) (by simp [List.getD, List.getElem?_eq_getElem hi])
    simpa using hw
end
section
variable {H : Type} {enc : TypeId × Value → H} {w : World} {base : Nat} {spare : Nat → Bool} {held : Bool}
theorem Try.cellsPoint : Try.prog.cellsOf 35 = 8 := by kernel_rfl

set_option maxRecDepth 20000 in
theorem open_point {W : World} {b0 : Nat} {v : Value} {d : DataW H} {p : List MemPlace} (hv : Value.okWide Try.prog W .any b0 35 v) (h : DataW.Trod enc Try.prog w base spare held 35 v d p) :
    ∃ xs ys : List Int, xs.length = 4 ∧ ys.length = 4 ∧ v = .agg ((xs ++ ys).map (Value.int .u64)).toArray ∧ d = .agg [.agg (xs.map fun i => .lit (.int .u64 i)), .agg (ys.map fun i => .lit (.int .u64 i))] ∧ p = [] ∧ (∀ i ∈ xs, (Lit.int .u64 i).wf = true) ∧ ∀ i ∈ ys, (Lit.int .u64 i).wf = true := by
  obtain ⟨cs, rfl, hs, _⟩ : ∃ cs, v = .agg cs ∧ cs.size = Try.prog.cellsOf 35 ∧ Row.okWide Try.prog W .any b0 35 cs := by
    simpa [Value.okWide, Try.underlying35] using hv
  rw [Try.cellsPoint] at hs
  obtain ⟨fuel, hf⟩ := h
  obtain ⟨cs⟩ := cs
  obtain ⟨y0, y1, n, hx, _, t0, t1⟩ := trod_struct2 Try.underlying35 hf
  rw [Try.cellsNum] at t0 t1
  obtain ⟨xs, h1, h2, h3, h4⟩ := trod_arr Try.underlying28 Try.underlying26 Try.cellsU64 Try.cellsNum t0
  obtain ⟨ys, g1, g2, g3, g4⟩ := trod_arr Try.underlying28 Try.underlying26 Try.cellsU64 Try.cellsNum t1
  refine ⟨xs, ys, h1, g1, ?_, ?_, ?_, h4, g4⟩
  · simp only [Value.cells] at h2 g2
    rw [List.map_append, ← h2, ← g2]
    congr 2
    have hs' : cs.length = 8 := by simpa using hs
    match cs, hs' with
    | [a, b, c, d, e, f, g, i], _ => rfl
  · have := congrArg (·.1) hx
    simpa [h3, g3] using this
  · have := congrArg (·.2) hx
    simpa [h3, g3] using this
set_option maxRecDepth 20000 in
theorem shut_point {xs ys : List Int} (hx : xs.length = 4) (hy : ys.length = 4) (wx : ∀ i ∈ xs, (Lit.int .u64 i).wf = true) (wy : ∀ i ∈ ys, (Lit.int .u64 i).wf = true) :
    DataW.Trod enc Try.prog w base spare held 35 (.agg ((xs ++ ys).map (Value.int .u64)).toArray) (.agg [.agg (xs.map fun i => .lit (.int .u64 i)), .agg (ys.map fun i => .lit (.int .u64 i))]) [] := by
  refine ⟨3, ?_⟩
  refine trod_struct2_mk (n := 2) (y0 := (.agg (xs.map fun i => .lit (.int .u64 i)), [])) (y1 := (.agg (ys.map fun i => .lit (.int .u64 i)), [])) Try.underlying35 ?_ ?_ ?_
  · rw [Try.cellsPoint]
    simp [Value.cells, hx, hy]
  · rw [Try.cellsNum, ← trod_arr_mk (enc := enc) (w := w) (base := base) (spare := spare) (held := held) Try.underlying28 Try.underlying26 Try.cellsU64 Try.cellsNum hx wx]
    congr 1
    obtain ⟨a, b, c, d, rfl⟩ := list4 xs hx
    rfl
  · rw [Try.cellsNum, ← trod_arr_mk (enc := enc) (w := w) (base := base) (spare := spare) (held := held) Try.underlying28 Try.underlying26 Try.cellsU64 Try.cellsNum hy wy]
    congr 1
    obtain ⟨a, b, c, d, rfl⟩ := list4 xs hx
    obtain ⟨a', b', c', d', rfl⟩ := list4 ys hy
    rfl
end
end Go.Proofs.Ytpnfopakkaoibaa
