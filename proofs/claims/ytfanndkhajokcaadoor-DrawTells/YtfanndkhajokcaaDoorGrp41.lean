import Derived.Test.YtfanndkhajokcaaDoorRows
import Derived.ProofKit
import Derived.Test.YtfanndkhajokcaaDoorRBel
import Derived.Test.YtfanndkhajokcaaDoorHLaid
import Derived.Lib.SmallJoins
import Derived.Deep.Slices
/- Small closed facts on the loaded program that each row's proof asks for. -/
namespace Go.Proofs.YtfanndkhajokcaaDoor
theorem Tryd.ownN : ownKnob Tryd.prog.godebug = none := by kernel_rfl
theorem Tryd.cellsNum : Tryd.prog.cellsOf 28 = 4 := by kernel_rfl
theorem Tryd.cellsU64 : Tryd.prog.cellsOf 26 = 1 := by kernel_rfl
theorem Tryd.cellsU8N : Tryd.prog.cellsOf 5 = 1 := by kernel_rfl
theorem Tryd.cellsB32 : Tryd.prog.cellsOf 47 = 32 := by kernel_rfl
end Go.Proofs.YtfanndkhajokcaaDoor

/- Drawings in a slice: what it holds, out of its reading. -/
namespace Go.Proofs.YtfanndkhajokcaaDoor
open Go.ChangeShapes Go.WideShapes Go.ChangeAt Go.RowKit Go.Deep
structure Dw where
  skip : Bool
  below : Bool
  n : Int
  m : Nm
def dw0 : Dw := ⟨false, false, 0, ⟨0, 0, 0, 0⟩⟩
def Dw.ok (d : Dw) : Prop := (-9223372036854775808 ≤ d.n ∧ d.n ≤ 9223372036854775807) ∧ d.m.ok
/-- The cells of a drawing. -/
def dwC (d : Dw) : List Value := [.bool d.skip, .bool d.below, .int .i64 d.n, .int .u64 d.m.a, .int .u64 d.m.b, .int .u64 d.m.c, .int .u64 d.m.d]
/-- The slice v holds the drawings l. -/
def Dws (w : World) (v : Value) (l : List Dw) : Prop := ∃ a c, v = .slice a l.length c ∧ l.length ≤ c ∧ (0 < l.length → ∃ b o, a = some ⟨b, o, none⟩ ∧ ∀ j, j < l.length → w.rangeAt b (o + j * 7) (dwC (l.getD j dw0)))
theorem Dws.up {W w1 : World} {v : Value} {l : List Dw} (h : Dws W v l) (hb : Below W.heap.size W w1) : Dws w1 v l := by
  obtain ⟨a, c, e, h1, h2⟩ := h
  refine ⟨a, c, e, h1, fun hp => ?_⟩
  obtain ⟨b, o, ea, hc⟩ := h2 hp
  refine ⟨b, o, ea, fun j hj r v hv => ?_⟩
  have g := hc j hj r v hv
  have hlt : b < W.heap.size := by
    apply Classical.byContradiction
    intro hn
    have hk : W.heap[b]? = none := Array.getElem?_eq_none (by omega)
    simp [World.cell?, hk] at g
  rw [hb.cell (p := ⟨b, o + j * 7 + r, none⟩) hlt]
  exact g
theorem uDws : Tryd.prog.underlying 23 = some (.slice 30) := by kernel_rfl
theorem cellsDw : Tryd.prog.cellsOf 30 = 7 := by kernel_rfl
theorem info_dw : (Tryd.prog.info? 30).map (·.size) = some 7 := by kernel_rfl
theorem list7 {cs : List Value} (h : cs.length = 7) : ∃ c0 c1 c2 c3 c4 c5 c6, cs = [c0, c1, c2, c3, c4, c5, c6] :=
  match cs, h with
  | [c0, c1, c2, c3, c4, c5, c6], _ => ⟨c0, c1, c2, c3, c4, c5, c6, rfl⟩
section
variable {H : Type} {enc : TypeId × Value → H} {w : World} {base : Nat} {spare : Nat → Bool} {held : Bool}
theorem dw_open {fuel : Nat} {cs : List Value} {x : DataW H × List MemPlace} (h : DataW.trod enc Tryd.prog w base spare held fuel 30 cs = some x) : ∃ d : Dw, d.ok ∧ cs = dwC d := by
  obtain ⟨y0, y1, y2, y3, n, _, hl, t0, t1, t2, t3⟩ := Go.Joins.trod_struct4 Tryd.underlying30 h
  rw [cellsDw] at hl
  obtain ⟨b0, e0, _⟩ := DataW.trod_bool Tryd.underlying4 t0
  obtain ⟨b1, e1, _⟩ := DataW.trod_bool Tryd.underlying4 t1
  obtain ⟨z, e2, _, hw⟩ := DataW.trod_int Tryd.underlying3 t2
  obtain ⟨zs, hz, e3, _, hwz⟩ := trod_arr Tryd.underlying28 Tryd.underlying26 Tryd.cellsU64 Tryd.cellsNum t3
  obtain ⟨a, b, c, d, rfl⟩ := list4 zs hz
  obtain ⟨c0, c1, c2, c3, c4, c5, c6, rfl⟩ := list7 hl
  · have q0 : Tryd.prog.cellsOf 4 = 1 := by kernel_rfl
    have q2 : Tryd.prog.cellsOf 3 = 1 := by kernel_rfl
    simp [q0] at e0 e1
    simp [q2] at e2
    simp [Tryd.cellsNum] at e3
    subst e0 e1 e2
    obtain ⟨rfl, rfl, rfl, rfl⟩ := e3
    refine ⟨⟨b0, b1, z, ⟨a, b, c, d⟩⟩, ⟨int_of_wf hw, ⟨word_of_wf (hwz a (by simp)), word_of_wf (hwz b (by simp)), word_of_wf (hwz c (by simp)), word_of_wf (hwz d (by simp))⟩⟩, rfl⟩
theorem dws_open {fuel : Nat} {u : Value} {x : DataW H × List MemPlace} (h : DataW.trod enc Tryd.prog w base spare held fuel 23 [u] = some x) : ∃ l : List Dw, (∀ d ∈ l, d.ok) ∧ Dws w u l := by
  rcases open_slice uDws h with ⟨hcs, hx⟩ | ⟨a, len, cap, m, n, D, Pl, hcs, _, hl, hm, hmm, hx, hcell⟩
  · obtain rfl : u = .slice none 0 0 := by simpa using hcs
    exact ⟨[], (fun p hp => by cases hp), ⟨none, 0, rfl, Nat.le_refl _, fun h => absurd h (Nat.lt_irrefl _)⟩⟩
  · obtain rfl : u = .slice (some a) len cap := by simpa using hcs
    have hle : len ≤ m := by
      rw [hmm]
      split <;> omega
    rw [cellsDw] at hcell
    have each : ∀ i, i < len → ∃ d : Dw, d.ok ∧ ∀ r v, (dwC d)[r]? = some v → w.cell? (a.add (i * 7 + r)) = some v := by
      intro i hi
      obtain ⟨cs', hc, t⟩ := hcell i (by omega)
      obtain ⟨d, hd, rfl⟩ := dw_open t
      obtain ⟨_, hcl, hcc⟩ := World.cells?_some hc
      refine ⟨d, hd, fun r v hv => ?_⟩
      have hr : r < 7 := (List.getElem?_eq_some_iff.1 hv).1
      have hc1 := hcc r hr
      have ea : (a.add (i * 7)).add r = a.add (i * 7 + r) := Addr.add_add _ _ _
      rw [ea] at hc1
      rw [hc1, hv]
    have hinh : Inhabited Dw := ⟨dw0⟩
    obtain ⟨f, hf⟩ := choose_lt each
    have hfl : ((List.range len).map f).length = len := by simp
    refine ⟨(List.range len).map f, ?_, ⟨some a, cap, by rw [hfl], by rw [hfl]; exact hl, fun hp => ?_⟩⟩
    · intro p hp
      obtain ⟨i, hi, rfl⟩ := List.mem_map.1 hp
      exact (hf i (List.mem_range.1 hi)).1
    · rw [hfl] at hp
      have c0 := (hf 0 hp).2 0 _ rfl
      rw [Nat.zero_mul, Nat.add_zero, Addr.add_zero'] at c0
      have hs := spotless c0
      refine ⟨a.block, a.off, congrArg some hs, fun j hj r v hv => ?_⟩
      rw [hfl] at hj
      have e : ((List.range len).map f).getD j dw0 = f j := by simp [List.getD_eq_getElem?_getD, hj]
      rw [e] at hv
      have cj := (hf j hj).2 r v hv
      rw [hs, Addr.add_lit] at cj
      rw [show a.off + j * 7 + r = a.off + (j * 7 + r) by omega]
      exact cj
end
end Go.Proofs.YtfanndkhajokcaaDoor
