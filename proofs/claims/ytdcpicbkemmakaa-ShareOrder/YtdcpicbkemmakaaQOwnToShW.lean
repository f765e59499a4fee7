/- Texts that were joined: Own, Arr, ShW. -/
import Derived.Test.YtdcpicbkemmakaaRows
import Derived.ProofKit
import Derived.OpenShut
import Derived.Test.YtdcpicbkemmakaaQNumToQMath
import Derived.ChangeSame
import Derived.Deep.MidRow
import Derived.Deep.Slices
/- Small closed facts on the loaded program that each row's proof asks for. -/
namespace Go.Proofs.Ytdcpicbkemmakaa
theorem Try.ownN : ownKnob Try.prog.godebug = none := by kernel_rfl
theorem Try.cellsNum : Try.prog.cellsOf 27 = 4 := by kernel_rfl
theorem Try.cellsU64 : Try.prog.cellsOf 25 = 1 := by kernel_rfl
end Go.Proofs.Ytdcpicbkemmakaa

/- An array of integers among the arguments: its value and its datum out of its reading, and its reading again in whatever world. Over any program. -/
namespace Go.Proofs.Ytdcpicbkemmakaa
open Go.ChangeShapes Go.WideShapes Go.ChangeAt Go.RowKit
section
variable {P : Program} {H : Type} {enc : TypeId × Value → H} {w : World} {base : Nat} {spare : Nat → Bool} {held : Bool}

theorem take_one {α : Type} {l : List α} {i : Nat} {v : α} (h : (l.drop i).take 1 = [v]) : l[i]? = some v := by
  have := congrArg (fun m => m[0]?) h
  simpa using this

theorem trod_arr {t e : TypeId} {n fuel : Nat} {k : IntKind} {cs : List Value} {x : DataW H × List MemPlace} (ht : P.underlying t = some (.array n e)) (hu : P.underlying e = some (.int k)) (hce : P.cellsOf e = 1) (hct : P.cellsOf t = n)
    (h : DataW.trod enc P w base spare held fuel t cs = some x) :
    ∃ xs : List Int, xs.length = n ∧ cs = xs.map (Value.int k) ∧ x = (.agg (xs.map fun i => .lit (.int k i)), []) ∧ ∀ i ∈ xs, (Lit.int k i).wf = true := by
  obtain ⟨ys, m, _, hx, hl, hn, hall⟩ := DataW.trod_array ht h
  have each : ∀ i, ∃ z : Int, i < n → cs[i]? = some (.int k z) ∧ ys[i]? = some (.lit (.int k z), []) ∧ (Lit.int k z).wf = true := by
    intro i
    by_cases hi : i < n
    · have hy : ys[i]? = some ys[i] := by rw [List.getElem?_eq_getElem]
      have ht' := hall i hi
      rw [hce, Nat.mul_one, hy] at ht'
      obtain ⟨z, hc, he, hw⟩ := DataW.trod_int hu ht'
      exact ⟨z, fun _ => ⟨take_one hc, by rw [hy, he], hw⟩⟩
    · exact ⟨0, fun h => absurd h hi⟩
  obtain ⟨Z, hZ⟩ := Classical.skolem.1 each
  refine ⟨(List.range n).map Z, by simp, ?_, ?_, ?_⟩
  · apply List.ext_getElem?
    intro i
    by_cases hi : i < n
    · rw [(hZ i hi).1]; simp [hi]
    · rw [List.getElem?_eq_none (by omega), List.getElem?_eq_none (by simp; omega)]
  · have e1 : ys = ((List.range n).map fun i => (DataW.lit (Lit.int k (Z i)), ([] : List MemPlace))) := by
      apply List.ext_getElem?
      intro i
      by_cases hi : i < n
      · rw [(hZ i hi).2.1]; simp [hi]
      · rw [List.getElem?_eq_none (by omega), List.getElem?_eq_none (by simp; omega)]
    rw [hx, e1]
    simp [List.flatMap, Function.comp_def]
  · intro i hi
    simp at hi
    obtain ⟨j, hj, rfl⟩ := hi
    exact (hZ j hj).2.2

end

/-- What is read of a uint64. -/
theorem word_of_wf {x : Int} (h : (Lit.int .u64 x).wf = true) : 0 ≤ x ∧ x < 18446744073709551616 := by
  simp [Lit.wf, IntKind.min, IntKind.max, IntKind.signed, IntKind.bits] at h
  exact ⟨by omega, by omega⟩
theorem int_of_wf {x : Int} (h : (Lit.int .i64 x).wf = true) : -9223372036854775808 ≤ x ∧ x ≤ 9223372036854775807 := by
  simp [Lit.wf, IntKind.min, IntKind.max, IntKind.signed, IntKind.bits] at h
  exact ⟨by omega, by omega⟩
theorem list4 (l : List Int) (h : l.length = 4) : ∃ a b c d, l = [a, b, c, d] := by
  match l, h with
  | [a, b, c, d], _ => exact ⟨a, b, c, d, rfl⟩
end Go.Proofs.Ytdcpicbkemmakaa

/- Shares in a slice: what it holds, out of its reading; a share's place in memory. -/
namespace Go.Proofs.Ytdcpicbkemmakaa
open Go.ChangeShapes Go.WideShapes Go.ChangeAt Go.RowKit Go.Deep
theorem spot5 {w : World} {a : Addr} {v : Value} (h : w.cell? a = some v) : a = ⟨a.block, a.off, none⟩ := by
  obtain ⟨b, o, s⟩ := a
  cases s with
  | none => rfl
  | some s =>
    unfold World.cell? at h
    split at h <;> simp at h
/-- A share. -/
structure Shr where
  x : Int
  y : Nm
def shr0 : Shr := ⟨0, ⟨0, 0, 0, 0⟩⟩
def Shr.ok (s : Shr) : Prop := (-9223372036854775808 ≤ s.x ∧ s.x ≤ 9223372036854775807) ∧ s.y.ok
/-- Its cells. -/
def shC (s : Shr) : List Value := [.int .i64 s.x, .int .u64 s.y.a, .int .u64 s.y.b, .int .u64 s.y.c, .int .u64 s.y.d]
theorem shC_length (s : Shr) : (shC s).length = 5 := rfl
/-- The slice v holds the shares l. -/
def Shs (w : World) (v : Value) (l : List Shr) : Prop := ∃ a c, v = .slice a l.length c ∧ (l.length ≤ c ∧ (a = none → c = 0)) ∧ (0 < l.length → ∃ b o, a = some ⟨b, o, none⟩ ∧ ∀ i s, l[i]? = some s → w.rangeAt b (o + i * 5) (shC s))
theorem Shs.up {W w1 : World} {v : Value} {l : List Shr} (h : Shs W v l) (hb : Below W.heap.size W w1) : Shs w1 v l := by
  obtain ⟨a, c, e, h1, h2⟩ := h
  refine ⟨a, c, e, h1, fun hp => ?_⟩
  obtain ⟨b, o, ea, hc⟩ := h2 hp
  refine ⟨b, o, ea, fun j s hj r v hv => ?_⟩
  have g := hc j s hj r v hv
  have hlt : b < W.heap.size := by
    apply Classical.byContradiction
    intro hn
    have hk : W.heap[b]? = none := Array.getElem?_eq_none (by omega)
    simp [World.cell?, hk] at g
  rw [hb.cell (p := ⟨b, o + j * 5 + r, none⟩) hlt]
  exact g
theorem uShs : Try.prog.underlying 22 = some (.slice 34) := by kernel_rfl
theorem cellsShr : Try.prog.cellsOf 34 = 5 := by kernel_rfl
theorem info_shr : (Try.prog.info? 34).map (·.size) = some 5 := by kernel_rfl
theorem list5 {cs : List Value} (h : cs.length = 5) : ∃ c0 c1 c2 c3 c4, cs = [c0, c1, c2, c3, c4] :=
  match cs, h with
  | [c0, c1, c2, c3, c4], _ => ⟨c0, c1, c2, c3, c4, rfl⟩
section
variable {H : Type} {enc : TypeId × Value → H} {w : World} {base : Nat} {spare : Nat → Bool} {held : Bool}
theorem shr_open {fuel : Nat} {cs : List Value} {x : DataW H × List MemPlace} (h : DataW.trod enc Try.prog w base spare held fuel 34 cs = some x) : ∃ d : Shr, d.ok ∧ cs = shC d := by
  obtain ⟨y0, y1, n, _, hl, t0, t1⟩ := Go.ChangeShapes.trod_struct2 Try.underlying34 h
  rw [cellsShr] at hl
  obtain ⟨z, e2, _, hw⟩ := DataW.trod_int Try.underlying3 t0
  obtain ⟨zs, hz, e3, _, hwz⟩ := trod_arr Try.underlying27 Try.underlying25 Try.cellsU64 Try.cellsNum t1
  obtain ⟨a, b, c, d, rfl⟩ := list4 zs hz
  obtain ⟨c0, c1, c2, c3, c4, rfl⟩ := list5 hl
  · have q2 : Try.prog.cellsOf 3 = 1 := by kernel_rfl
    simp [q2] at e2
    simp [Try.cellsNum] at e3
    subst e2
    obtain ⟨rfl, rfl, rfl, rfl⟩ := e3
    refine ⟨⟨z, ⟨a, b, c, d⟩⟩, ⟨int_of_wf hw, ⟨word_of_wf (hwz a (by simp)), word_of_wf (hwz b (by simp)), word_of_wf (hwz c (by simp)), word_of_wf (hwz d (by simp))⟩⟩, rfl⟩
theorem shs_open {fuel : Nat} {u : Value} {x : DataW H × List MemPlace} (h : DataW.trod enc Try.prog w base spare held fuel 22 [u] = some x) : ∃ l : List Shr, (∀ d ∈ l, d.ok) ∧ Shs w u l := by
  rcases open_slice uShs h with ⟨hcs, hx⟩ | ⟨a, len, cap, m, n, D, Pl, hcs, _, hl, hm, hmm, hx, hcell⟩
  · obtain rfl : u = .slice none 0 0 := by simpa using hcs
    exact ⟨[], (fun p hp => by cases hp), ⟨none, 0, rfl, ⟨Nat.le_refl _, fun _ => rfl⟩, fun h => absurd h (Nat.lt_irrefl _)⟩⟩
  · obtain rfl : u = .slice (some a) len cap := by simpa using hcs
    have hle : len ≤ m := by
      rw [hmm]
      split <;> omega
    rw [cellsShr] at hcell
    have each : ∀ i, i < len → ∃ d : Shr, d.ok ∧ ∀ r v, (shC d)[r]? = some v → w.cell? (a.add (i * 5 + r)) = some v := by
      intro i hi
      obtain ⟨cs', hc, t⟩ := hcell i (by omega)
      obtain ⟨d, hd, rfl⟩ := shr_open t
      obtain ⟨_, hcl, hcc⟩ := World.cells?_some hc
      refine ⟨d, hd, fun r v hv => ?_⟩
      have hr : r < 5 := (List.getElem?_eq_some_iff.1 hv).1
      have hc1 := hcc r hr
      have ea : (a.add (i * 5)).add r = a.add (i * 5 + r) := Addr.add_add _ _ _
      rw [ea] at hc1
      rw [hc1, hv]
    have hinh : Inhabited Shr := ⟨shr0⟩
    obtain ⟨f, hf⟩ := choose_lt each
    have hfl : ((List.range len).map f).length = len := by simp
    refine ⟨(List.range len).map f, ?_, ⟨some a, cap, by rw [hfl], ⟨by rw [hfl]; exact hl, fun h => by cases h⟩, fun hp => ?_⟩⟩
    · intro p hp
      obtain ⟨i, hi, rfl⟩ := List.mem_map.1 hp
      exact (hf i (List.mem_range.1 hi)).1
    · rw [hfl] at hp
      have c0 := (hf 0 hp).2 0 _ rfl
      rw [Nat.zero_mul, Nat.add_zero, Addr.add_zero'] at c0
      have hs := spot5 c0
      refine ⟨a.block, a.off, congrArg some hs, fun j s hj r v hv => ?_⟩
      have hj' : j < len := by
        have := (List.getElem?_eq_some_iff.1 hj).1
        omega
      rw [List.getElem?_map, List.getElem?_range hj'] at hj
      simp only [Option.map_some, Option.some.injEq] at hj
      subst hj
      have cj := (hf j hj').2 r v hv
      rw [hs, Addr.add_lit] at cj
      rw [show a.off + j * 5 + r = a.off + (j * 5 + r) by omega]
      exact cj
end
end Go.Proofs.Ytdcpicbkemmakaa
