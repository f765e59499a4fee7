import Derived.ProofKit
import Derived.OpenShut
import Derived.Test.YtfanndkhajokcaaDoorRows
import Derived.WalkKit
import Derived.WalkSpells
import Derived.WalkLawsBesides
import Derived.LoopN
import Derived.OwnWalk
import Derived.Laws.AppendOwn
import Derived.Laws.AppendOwnNone
import Derived.Laws.OwnMore
import Derived.Laws.BytesString
import Derived.Below
import Derived.Deep.SlicePairs
import Derived.Carry
import Derived.Test.YtfanndkhajokcaaDoorDTel
import Derived.Test.YtfanndkhajokcaaDoorGrp47
import Derived.Test.YtfanndkhajokcaaDoorGrp39
import Derived.Test.YtfanndkhajokcaaDoorHLaid
/- An array of integers among the arguments: its value and its datum out of its reading, and its reading again in whatever world. Over any program. -/
namespace Go.Proofs.YtfanndkhajokcaaDoor
open Go.ChangeShapes Go.WideShapes Go.ChangeAt Go.RowKit
section
variable {P : Program} {H : Type} {enc : TypeId × Value → H} {w : World} {base : Nat} {spare : Nat → Bool} {held : Bool}

theorem mapM_some {α β : Type} {f : α → Option β} {g : α → β} : ∀ l : List α, (∀ i ∈ l, f i = some (g i)) → l.mapM f = some (l.map g)
  | [], _ => by simp
  | i :: l, h => by
    have ih := mapM_some l (fun j hj => h j (by simp [hj]))
    simp [List.mapM_cons, h i (by simp), ih]

theorem take_one {α : Type} {l : List α} {i : Nat} {v : α} (h : (l.drop i).take 1 = [v]) : l[i]? = some v := by
  have := congrArg (fun m => m[0]?) h
  simpa using this

theorem trod_arr {t e : TypeId} {n fuel : Nat} {k : IntKind} {cs : List Value} {x : DataW H × List MemPlace} (ht : P.underlying t = some (.array n e)) (hu : P.underlying e = some (.int k)) (hce : P.cellsOf e = 1) (hct : P.cellsOf t = n)
    (h : DataW.trod enc P w base spare held fuel t cs = some x) :
    ∃ xs : List Int, xs.length = n ∧ cs = xs.map (Value.int k) ∧ x = (.agg (xs.map fun i => .lit (.int k i)), []) ∧ ∀ i ∈ xs, (Lit.int k i).wf = true := by
  obtain ⟨ys, m, _, hx, hl, hn, hall⟩ := DataW.trod_array ht h
  have each : ∀ i, ∃ z : Int, i < n → cs[i]? = some (.int k z) ∧ ys[i]? = some (.lit (.int k z), []) ∧ (Lit.int k z).wf = true := by
    intro i
    by_cases hi : i < n
    · have hy : ys[i]? = some ys[i] := by rw [List.getElem?_eq_getElem]
      have ht' := hall i hi
      rw [hce, Nat.mul_one, hy] at ht'
      obtain ⟨z, hc, he, hw⟩ := DataW.trod_int hu ht'
      exact ⟨z, fun _ => ⟨take_one hc, by rw [hy, he], hw⟩⟩
    · exact ⟨0, fun h => absurd h hi⟩
  obtain ⟨Z, hZ⟩ := Classical.skolem.1 each
  refine ⟨(List.range n).map Z, by simp, ?_, ?_, ?_⟩
  · apply List.ext_getElem?
    intro i
    by_cases hi : i < n
    · rw [(hZ i hi).1]; simp [hi]
    · rw [List.getElem?_eq_none (by omega), List.getElem?_eq_none (by simp; omega)]
  · have e1 : ys = ((List.range n).map fun i => (DataW.lit (Lit.int k (Z i)), ([] : List MemPlace))) := by
      apply List.ext_getElem?
      intro i
      by_cases hi : i < n
      · rw [(hZ i hi).2.1]; simp [hi]
      · rw [List.getElem?_eq_none (by omega), List.getElem?_eq_none (by simp; omega)]
    rw [hx, e1]
    simp [List.flatMap, Function.comp_def]
  · intro i hi
    simp at hi
    obtain ⟨j, hj, rfl⟩ := hi
    exact (hZ j hj).2.2

/-- An array of integers as an argument. -/
theorem open_arr {t e : TypeId} {n : Nat} {k : IntKind} {W : World} {b0 : Nat} {v : Value} {d : DataW H} {p : List MemPlace} (ht : P.underlying t = some (.array n e)) (hu : P.underlying e = some (.int k)) (hce : P.cellsOf e = 1) (hct : P.cellsOf t = n)
    (hv : Value.okWide P W .any b0 t v) (h : DataW.Trod enc P w base spare held t v d p) :
    ∃ xs : List Int, xs.length = n ∧ v = .agg (xs.map (Value.int k)).toArray ∧ d = .agg (xs.map fun i => .lit (.int k i)) ∧ p = [] ∧ ∀ i ∈ xs, (Lit.int k i).wf = true := by
  obtain ⟨cs, rfl, _, _⟩ : ∃ cs, v = .agg cs ∧ cs.size = P.cellsOf t ∧ Row.okWide P W .any b0 t cs := by
    simpa [Value.okWide, ht] using hv
  obtain ⟨fuel, hf⟩ := h
  obtain ⟨xs, h1, h2, h3, h4⟩ := trod_arr ht hu hce hct hf
  obtain ⟨cs⟩ := cs
  simp only [Value.cells] at h2
  simp only [Prod.mk.injEq] at h3
  exact ⟨xs, h1, by rw [h2], h3.1, h3.2, h4⟩

/-- It reads so again, in whatever world. -/
theorem shut_arr {t e : TypeId} {n : Nat} {k : IntKind} (ht : P.underlying t = some (.array n e)) (hu : P.underlying e = some (.int k)) (hce : P.cellsOf e = 1) (hct : P.cellsOf t = n)
    {xs : List Int} (hl : xs.length = n) (hwf : ∀ i ∈ xs, (Lit.int k i).wf = true) :
    DataW.Trod enc P w base spare held t (.agg (xs.map (Value.int k)).toArray) (.agg (xs.map fun i => .lit (.int k i))) [] := by
  refine ⟨2, ?_⟩
  unfold DataW.trod
  rw [ht]
  simp only [Value.cells, List.length_map, hl, hct, if_true]
  rw [mapM_some (g := fun i => (DataW.lit (Lit.int k (xs.getD i 0)), ([] : List MemPlace)))]
  · simp only [Option.map_some, List.map_map]
    have e1 : (List.range n).map (fun i => DataW.lit (H := H) (Lit.int k (xs.getD i 0))) = xs.map fun i => .lit (.int k i) := by
      apply List.ext_getElem?
      intro i
      by_cases hi : i < n
      · simp [hi, List.getElem?_eq_getElem (hl ▸ hi : i < xs.length)]
      · rw [List.getElem?_eq_none (by simp; omega), List.getElem?_eq_none (by simp; omega)]
    simp only [Function.comp_def, e1]
    simp [List.flatMap]
  · intro i hi
    have hi : i < xs.length := by rw [hl]; exact List.mem_range.1 hi
    have hd : ((xs.map (Value.int k)).drop (i * P.cellsOf e)).take (P.cellsOf e) = [.int k (xs.getD i 0)] := by
      rw [hce, Nat.mul_one, List.take_one, List.head?_drop]
      simp [hi]
    rw [hd]
    unfold DataW.trod
    rw [hu]
    have hw := hwf (xs.getD i 0) (by simp [List.getD, List.getElem?_eq_getElem hi])
    simpa using hw
end

/-- What is read of a uint64. -/
theorem word_of_wf {x : Int} (h : (Lit.int .u64 x).wf = true) : 0 ≤ x ∧ x < 18446744073709551616 := by
  simp [Lit.wf, IntKind.min, IntKind.max, IntKind.signed, IntKind.bits] at h
  exact ⟨by omega, by omega⟩
theorem byte_of_wf {x : Int} (h : (Lit.int .u8 x).wf = true) : 0 ≤ x ∧ x < 256 := by
  simp [Lit.wf, IntKind.min, IntKind.max, IntKind.signed, IntKind.bits] at h
  exact ⟨by omega, by omega⟩
theorem int_of_wf {x : Int} (h : (Lit.int .i64 x).wf = true) : -9223372036854775808 ≤ x ∧ x ≤ 9223372036854775807 := by
  simp [Lit.wf, IntKind.min, IntKind.max, IntKind.signed, IntKind.bits] at h
  exact ⟨by omega, by omega⟩
theorem list4 (l : List Int) (h : l.length = 4) : ∃ a b c d, l = [a, b, c, d] := by
  match l, h with
  | [a, b, c, d], _ => exact ⟨a, b, c, d, rfl⟩
theorem list8 (l : List Int) (h : l.length = 8) : ∃ a b c d e f g i, l = [a, b, c, d, e, f, g, i] := by
  match l, h with
  | [a, b, c, d, e, f, g, i], _ => exact ⟨a, b, c, d, e, f, g, i, rfl⟩
end Go.Proofs.YtfanndkhajokcaaDoor

/- Slices of bytes: what one holds; rows of bytes that a call itself makes, and what append does to one. -/
namespace Go.Proofs.YtfanndkhajokcaaDoor
open Go.RowKit
theorem Tryd.uBytes : Tryd.prog.underlying 22 = some (.slice 5) := by kernel_rfl
theorem Tryd.uU8 : Tryd.prog.underlying 5 = some (.int .u8) := by kernel_rfl
theorem Tryd.uStr : Tryd.prog.underlying 9 = some .string := by kernel_rfl
theorem Tryd.iU8 : (Tryd.prog.info? 5).map (fun i => (i.zero, i.size, i.bytes)) = some (some (.int .u8 0), 1, 1) := by kernel_rfl
abbrev b8 (x : Nat) : Value := .int .u8 ((x : Nat) : Int)
theorem lt_of_cellB {w : World} {b o : Nat} {v : Value} (h : w.cell? ⟨b, o, none⟩ = some v) : b < w.heap.size := World.block_lt_of_cell? w ⟨b, o, none⟩ h
theorem cell_top {w : World} {cs : Array Value} {t : TypeId} {k j : Nat} (hk : k = w.heap.size) : (w.alloc (.cells cs t)).cell? ⟨k, j, none⟩ = cs[j]? := by
  subst hk
  unfold World.cell?
  rw [heap_alloc_new w (.cells cs t)]
  simp
theorem cell_al {w : World} {o : Obj} {p : Addr} {v : Value} (h : w.cell? p = some v) : (w.alloc o).cell? p = some v := (World.grownBy_alloc w o none).cell h (by simp)
/-- The slice v holds the bytes xs. -/
def By (w : World) (v : Value) (xs : List Nat) : Prop :=
  ∃ a c, v = .slice a xs.length c ∧ xs.length ≤ c ∧ (a = none → c = 0) ∧ (0 < xs.length → ∃ b o, a = some ⟨b, o, none⟩ ∧ ∀ j, j < xs.length → w.cell? ⟨b, o + j, none⟩ = some (b8 (xs.getD j 0)))
theorem By.nil (w : World) : By w (.slice none 0 0) [] := ⟨none, 0, rfl, Nat.le_refl _, fun _ => rfl, fun h => absurd h (Nat.lt_irrefl _)⟩
theorem By.up {W w1 : World} {v : Value} {xs : List Nat} {B : Nat} (h : By W v xs) (hb : Below B W w1) (hB : W.heap.size ≤ B) : By w1 v xs := by
  obtain ⟨a, c, e, h1, h2, h3⟩ := h
  refine ⟨a, c, e, h1, h2, fun hp => ?_⟩
  obtain ⟨b, o, e2, hc⟩ := h3 hp
  exact ⟨b, o, e2, fun j hj => (hb.cell (p := ⟨b, o + j, none⟩) (Nat.lt_of_lt_of_le (lt_of_cellB (hc j hj)) hB)).trans (hc j hj)⟩
theorem By.of_cells {w : World} {b o c : Nat} {xs : List Nat} (h1 : xs.length ≤ c) (hc : ∀ j, j < xs.length → w.cell? ⟨b, o + j, none⟩ = some (b8 (xs.getD j 0))) : By w (.slice (some ⟨b, o, none⟩) xs.length c) xs :=
  ⟨_, c, rfl, h1, (fun h => by cases h), fun _ => ⟨b, o, rfl, hc⟩⟩
theorem By.one {w : World} {b : Nat} {x : Nat} (h : w.cell? ⟨b, 0, none⟩ = some (b8 x)) : By w (.slice (some ⟨b, 0, none⟩) 1 1) [x] :=
  By.of_cells (xs := [x]) (Nat.le_refl _) fun j hj => by match j, hj with | 0, _ => simpa using h
theorem By.two {w : World} {b : Nat} {x y : Nat} (h : w.cell? ⟨b, 0, none⟩ = some (b8 x)) (h1 : w.cell? ⟨b, 1, none⟩ = some (b8 y)) : By w (.slice (some ⟨b, 0, none⟩) 2 2) [x, y] :=
  By.of_cells (xs := [x, y]) (Nat.le_refl _) fun j hj => by match j, hj with | 0, _ => simpa using h | 1, _ => simpa using h1
theorem By.three {w : World} {b : Nat} {x y z : Nat} (h : w.cell? ⟨b, 0, none⟩ = some (b8 x)) (h1 : w.cell? ⟨b, 1, none⟩ = some (b8 y)) (h2 : w.cell? ⟨b, 2, none⟩ = some (b8 z)) : By w (.slice (some ⟨b, 0, none⟩) 3 3) [x, y, z] :=
  By.of_cells (xs := [x, y, z]) (Nat.le_refl _) fun j hj => by match j, hj with | 0, _ => simpa using h | 1, _ => simpa using h1 | 2, _ => simpa using h2
theorem By.four {w : World} {b : Nat} {x y z t : Nat} (h : w.cell? ⟨b, 0, none⟩ = some (b8 x)) (h1 : w.cell? ⟨b, 1, none⟩ = some (b8 y)) (h2 : w.cell? ⟨b, 2, none⟩ = some (b8 z)) (h3 : w.cell? ⟨b, 3, none⟩ = some (b8 t)) : By w (.slice (some ⟨b, 0, none⟩) 4 4) [x, y, z, t] :=
  By.of_cells (xs := [x, y, z, t]) (Nat.le_refl _) fun j hj => by match j, hj with | 0, _ => simpa using h | 1, _ => simpa using h1 | 2, _ => simpa using h2 | 3, _ => simpa using h3
/-- The slice v is a row of bytes that the call made (its block from B on), and holds xs. -/
def Ob (w : World) (B : Nat) (v : Value) (xs : List Nat) : Prop := w.ownsRow B 5 1 v xs.length (xs.map b8)
theorem Ob.nil (w : World) (B : Nat) : Ob w B (.slice none 0 0) [] := World.ownsRow_nil _ _ _ _
theorem Ob.up {W w1 : World} {B : Nat} {v : Value} {xs : List Nat} (h : Ob W B v xs) (hb : Below W.heap.size W w1) : Ob w1 B v xs := by
  refine ⟨h.1, ?_⟩
  rcases h.2 with h' | ⟨g, cap, cur, e, hB, hg, rest⟩
  · exact .inl h'
  · exact .inr ⟨g, cap, cur, e, hB, (hb.block g (Array.getElem?_eq_some_iff.1 hg).1).trans hg, rest⟩
theorem Ob.by {w : World} {B : Nat} {v : Value} {xs : List Nat} (h : Ob w B v xs) : By w v xs := by
  rcases h.2 with ⟨e, e2⟩ | ⟨g, cap, cur, e, hB, hg, hn, rest⟩
  · rw [List.length_eq_zero_iff.1 e2, e]
    exact By.nil w
  · rw [e]
    refine By.of_cells hn fun j hj => ?_
    have h2 : w.ownsRow B 5 1 (.slice (some ⟨g, 0, none⟩) xs.length cap) xs.length (xs.map b8) := by rw [← e]; exact h
    rw [Nat.zero_add, h2.cellAt j (by omega)]
    simp [hj, b8]
theorem Ob.obj {w : World} {B : Nat} {v : Value} {xs : List Nat} (h : Ob w B v xs) {g : Nat} (hg : v.ownBlock = some g) : ∃ cur, w.heap[g]? = some (.cells cur 5 (0, 0)) := by
  rcases h.2 with ⟨e, e2⟩ | ⟨g', cap, cur, e, hB, hg', hn, rest⟩
  · rw [e] at hg; cases hg
  · rw [e] at hg
    obtain rfl : g' = g := Option.some.inj hg
    exact ⟨cur, hg'⟩
theorem Ob.mono {w : World} {A B : Nat} {v : Value} {xs : List Nat} (h : Ob w B v xs) (hab : A ≤ B) : Ob w A v xs := by
  refine ⟨h.1, ?_⟩
  rcases h.2 with h' | ⟨g, cap, cur, e, hB, rest⟩
  · exact .inl h'
  · exact .inr ⟨g, cap, cur, e, Nat.le_trans hab hB, rest⟩
/-- append of bytes to a row that the call made. -/
theorem wp_appB {ops : Array Oper} {rest : List Oper} {o : Oper} {a : Act} {Q : Exit → Act → World → Prop} {w : World} (hgd : o.guard = none) (s x : Operand)
    (ho : o.op = .call { callee := .builtin .append, args := #[s, x], argTypes := #[22, 22] })
    (B : Nat) (v u : Value) (xs ys : List Nat) (W0 : World) (hs : a.eval s = v) (hown : Ob W0 B v xs) (hup : Below W0.heap.size W0 w) (hx : a.eval x = u) (hy : By w u ys)
    (hl : xs.length + ys.length ≤ 140737488355328) (hB : B ≤ W0.heap.size) (h : ∀ v' w', Ob w' B v' (xs ++ ys) → w.grownBy w' v.ownBlock → Below B W0 w' → wpList Tryd.prog ops Q rest (a.put o.dst v') w') : wpList Tryd.prog ops Q (o :: rest) a w := by
  obtain ⟨i0, hi, hz0, hz1, hz2⟩ := info_parts Tryd.iU8
  have hs0 := hup.size
  obtain ⟨ad, c, rfl, hyc, hn, hcells⟩ := hy
  cases ad with
  | none =>
    have hc0 := hn rfl
    have hy0 : ys = [] := List.length_eq_zero_iff.1 (by omega)
    subst hc0 hy0
    refine wpList_append_own_none hgd s x 22 ho B 5 i0 1 Tryd.uBytes hi v xs.length (xs.map b8) hs (hown.up hup) hx ?_
    exact h v w (by rw [List.append_nil]; exact hown.up hup) (World.grownBy.refl _ _) (hup.mono hB)
  | some ad =>
    refine wpList_append_own w hgd s x 22 ho B 5 i0 (.int .u8 0) 1 1 Tryd.uBytes hi hz0 hz1 hz2 rfl (by decide) v xs.length (xs.map b8) hs (hown.up hup) ad ys.length c (ys.map b8) hx (by simp) ?_ ?_ ?_ ?_ ?_ ?_
    · intro j u hj
      have hj2 : j < ys.length := by
        have := (List.getElem?_eq_some_iff.1 hj).1
        simpa using this
      obtain ⟨b, o', e, hc⟩ := hcells (by omega)
      obtain rfl : ad = ⟨b, o', none⟩ := Option.some.inj e
      have := hc j hj2
      rw [List.getElem?_map, List.getElem?_eq_getElem hj2] at hj
      simp at hj
      simp only [List.getD_eq_getElem?_getD, List.getElem?_eq_getElem hj2, Option.getD_some] at this
      subst hj
      rw [Addr.add_lit]
      exact this
    · intro u hu
      simp at hu
      obtain ⟨y, _, rfl⟩ := hu
      rfl
    · unfold maxLen; omega
    · omega
    · omega
    · intro v' w' hown' hg _
      refine h v' w' ?_ hg ?_
      · unfold Ob
        rw [List.map_append, List.length_append]
        exact hown'
      · refine Below.grown (hup.mono hB) hg (by omega) fun k hk => ?_
        exact ((hown.up hup).lt k hk).1
/-- The text of bytes. -/
def sOf (xs : List Nat) : ByteArray := ⟨(xs.map UInt8.ofNat).toArray⟩
theorem foldl_push : ∀ (l : List Nat) (s : ByteArray), (l.map fun n => ((n : Nat) : Int)).foldl (fun r n => r.push (UInt8.ofNat n.toNat)) s = ⟨s.data ++ (l.map UInt8.ofNat).toArray⟩
  | [], s => by simp
  | n :: l, s => by
    rw [List.map_cons, List.foldl_cons, foldl_push l]
    apply ByteArray.ext
    simp [ByteArray.push]
theorem bytes_conv {w : World} {v : Value} {xs : List Nat} (h : By w v xs) : (convert 22 9 v).run Tryd.prog w = .ok (.string (sOf xs)) w := by
  obtain ⟨a, c, rfl, h1, h2, h3⟩ := h
  rw [run_convert_bytes_string w _ _ 5 a _ c Tryd.uBytes Tryd.uU8 Tryd.uStr]
  cases a with
  | none =>
    have : xs = [] := List.length_eq_zero_iff.1 (by have := h2 rfl; omega)
    subst this
    simp [Conv.bytesToString, sOf, Sem.run_pure]
    rfl
  | some a =>
    rw [run_bytesToString w a _ c (xs.map fun n => ((n : Nat) : Int)) ?_, foldl_push]
    · simp [sOf, ByteArray.empty, ByteArray.emptyWithCapacity]
      rfl
    · have := run_loadCells_list (P := Tryd.prog) (w := w) a ((xs.map fun n => ((n : Nat) : Int)).map (Value.int .u8)) (fun j v hj => ?_)
      · rw [List.length_map, List.length_map] at this
        exact this
      · have hj2 : j < xs.length := by
          have := (List.getElem?_eq_some_iff.1 hj).1
          simpa using this
        obtain ⟨b, o, e, hc⟩ := h3 (by omega)
        obtain rfl : a = ⟨b, o, none⟩ := Option.some.inj e
        have := hc j hj2
        rw [List.getElem?_map, List.getElem?_map, List.getElem?_eq_getElem hj2] at hj
        simp at hj
        simp only [List.getD_eq_getElem?_getD, List.getElem?_eq_getElem hj2, Option.getD_some] at this
        subst hj
        rw [Addr.add_lit]
        exact this
theorem wp_conv {ops : Array Oper} {rest : List Oper} {o : Oper} {a : Act} {Q : Exit → Act → World → Prop} {w : World} (hgd : o.guard = none) (x : Operand)
    (ho : o.op = .convert 22 9 x) (u : Value) (xs : List Nat) (hx : a.eval x = u) (h : By w u xs) (hK : wpList Tryd.prog ops Q rest (a.put o.dst (.string (sOf xs))) w) : wpList Tryd.prog ops Q (o :: rest) a w := by
  refine wpList_plain hgd fun K hK2 => ?_
  unfold Oper.wp
  simp [execOp, ho, hx, bytes_conv h, Result.andThen]
  exact hK2 _ _ hK
theorem sOf_size (xs : List Nat) : (sOf xs).size = xs.length := by simp [sOf, ByteArray.size]
theorem sOf_data (xs : List Nat) : (sOf xs).data.toList = xs.map UInt8.ofNat := by simp [sOf]
theorem sOf_append (xs ys : List Nat) : sOf xs ++ sOf ys = sOf (xs ++ ys) := by
  apply ByteArray.ext
  simp [sOf]
theorem map_u8_inj : ∀ {xs ys : List Nat}, (∀ x ∈ xs, x < 256) → (∀ y ∈ ys, y < 256) → xs.map UInt8.ofNat = ys.map UInt8.ofNat → xs = ys
  | [], [], _, _, _ => rfl
  | [], y :: ys, _, _, h => by simp at h
  | x :: xs, [], _, _, h => by simp at h
  | x :: xs, y :: ys, hx, hy, h => by
    simp only [List.map_cons, List.cons.injEq] at h
    have e := congrArg UInt8.toNat h.1
    have h1 := hx x (by simp)
    have h2 := hy y (by simp)
    rw [UInt8.toNat_ofNat', UInt8.toNat_ofNat', Nat.mod_eq_of_lt h1, Nat.mod_eq_of_lt h2] at e
    rw [e, map_u8_inj (fun z hz => hx z (by simp [hz])) (fun z hz => hy z (by simp [hz])) h.2]
theorem sOf_beq {xs ys : List Nat} (hx : ∀ x ∈ xs, x < 256) (hy : ∀ y ∈ ys, y < 256) : ((sOf xs).toList == (sOf ys).toList) = decide (xs = ys) := by
  rw [ByteArray.toList_eq, ByteArray.toList_eq, sOf_data, sOf_data]
  by_cases h : xs = ys
  · subst h; simp
  · have : ¬ xs.map UInt8.ofNat = ys.map UInt8.ofNat := fun e => h (map_u8_inj hx hy e)
    simp [h, this]
end Go.Proofs.YtfanndkhajokcaaDoor

/- A slice of bytes among the arguments: what it holds, out of its reading; small closed facts that a row's proof asks for. -/
namespace Go.Proofs.YtfanndkhajokcaaDoor
open Go.ChangeShapes Go.WideShapes Go.ChangeAt Go.RowKit Go.Deep
theorem Tryd.own : ownKnob Tryd.prog.godebug = none := by kernel_rfl
theorem Tryd.cellsU8 : Tryd.prog.cellsOf 5 = 1 := by kernel_rfl
theorem Tryd.cellsBytes : Tryd.prog.cellsOf 22 = 1 := by kernel_rfl
section
variable {H : Type} {enc : TypeId × Value → H} {w : World} {base : Nat} {spare : Nat → Bool} {held : Bool}
def lowB (xs : List Nat) : Prop := ∀ x ∈ xs, x < 256
theorem spotless {w : World} {a : Addr} {v : Value} (h : w.cell? a = some v) : a = ⟨a.block, a.off, none⟩ := by
  obtain ⟨b, o, s⟩ := a
  cases s with
  | none => rfl
  | some s =>
    unfold World.cell? at h
    split at h <;> simp at h
theorem by_of_trod {fuel : Nat} {u : Value} {x : DataW H × List MemPlace} (h : DataW.trod enc Tryd.prog w base spare held fuel 22 [u] = some x) : ∃ xs, lowB xs ∧ By w u xs ∧ xs.length ≤ maxLen := by
  rcases open_ints Tryd.uBytes Tryd.uU8 Tryd.cellsU8 h with ⟨hcs, hx⟩ | ⟨a, len, cap, zs, hcs, _, hl, hm, hz, hx, hcell, hwz⟩
  · obtain rfl : u = .slice none 0 0 := by simpa using hcs
    exact ⟨[], by simp [lowB], By.nil w, by simp⟩
  · obtain rfl : u = .slice (some a) len cap := by simpa using hcs
    have hle : len ≤ zs.length := by
      rw [hz]
      by_cases hs : spare a.block = true <;> simp [hs] <;> omega
    have hlen : ((zs.take len).map Int.toNat).length = len := by simp; omega
    refine ⟨(zs.take len).map Int.toNat, ?_, ⟨some a, cap, by rw [hlen], by rw [hlen]; exact hl, (fun h => by cases h), fun hp => ?_⟩, by rw [hlen]; omega⟩
    · intro y hy
      simp only [List.mem_map] at hy
      obtain ⟨z, hz1, rfl⟩ := hy
      have := byte_of_wf (hwz z (List.mem_of_mem_take hz1))
      omega
    · rw [hlen] at hp
      have h0 := hcell 0 (by omega)
      rw [Addr.add_zero'] at h0
      have hs := spotless h0
      refine ⟨a.block, a.off, congrArg some hs, fun j hj => ?_⟩
      rw [hlen] at hj
      have hc := hcell j (by omega)
      rw [hs, Addr.add_lit] at hc
      rw [hc]
      have hb := byte_of_wf (hwz (zs.getD j 0) (by rw [List.getD_eq_getElem?_getD, List.getElem?_eq_getElem (by omega)]; simp))
      have e : ((zs.take len).map Int.toNat).getD j 0 = (zs.getD j 0).toNat := by
        simp [List.getD_eq_getElem?_getD, hj, List.getElem?_eq_getElem (show j < zs.length by omega)]
      rw [e]
      simp only [b8]
      rw [show (((zs.getD j 0).toNat : Nat) : Int) = zs.getD j 0 by omega]
end
theorem Tryd.laidOut : laidOutB Tryd.prog = true := by kernel_rfl
end Go.Proofs.YtfanndkhajokcaaDoor

/- DrawTells returns true for every seed and every list of drawings. -/
namespace Go.Proofs.YtfanndkhajokcaaDoor
open Go.RowKit
open Go.ChangeShapes Go.WideShapes Go.ChangeAt
set_option linter.unusedSimpArgs false
theorem drawTells_law (v0 : Value) (seed : List Nat) (ls : lowB seed) (zs : seed.length ≤ 140737488351232) (v1 : Value) (l : List Dw) (ok : ∀ d ∈ l, d.ok) (w : World) (h0 : By w v0 seed) (h1 : Dws w v1 l) (hK : KTab w) (hR : RTab w) : Calls Tryd.prog 3 #[v0, v1] w fun e w' => e = .returned (.bool true) ∧ Below w.heap.size w w' := drawTells_of srcIsC srcIsB v0 seed ls zs v1 l ok w h0 h1 hK hR
set_option maxRecDepth 100000 in
theorem drawTells_met (os : Os) : laidMet Tryd.prog Rows.drawTellsRow.laid ((World.doorLaid Tryd.prog 14 os).forCall (fun _ _ => 0) ⟨#[], #[.slice none 0 0, .slice none 0 0], []⟩).memory := laidMet_of_run' 8 (by kernel_rfl) (by kernel_rfl)
set_option maxRecDepth 100000 in
theorem drawTells_reads (os : Os) {H : Type} (enc : TypeId × Value → H) : ∃ places, DataW.whole enc Tryd.prog ((World.doorLaid Tryd.prog 14 os).forCall (fun _ _ => 0) ⟨#[], #[.slice none 0 0, .slice none 0 0], []⟩).memory Tryd.f3.params.toList Rows.drawTellsSpec.vars false #[.slice none 0 0, .slice none 0 0].toList 8 = some ([.nil, .nil], [], places) := ⟨[], by kernel_rfl⟩
set_option maxRecDepth 100000 in
theorem drawTells_lifted (os : Os) (started : os.Started) (H : Type) (enc : TypeId × Value → H) (F : Stop.Interp) :
    ReturnsInHanded {} Tryd.checked os 3 .any ((OpenSpec.ofChange Rows.drawTellsSpec).preRow enc Tryd.prog Tryd.f3 Rows.drawTellsRow.domain false Rows.drawTellsRow.laid) (((OpenSpec.ofChange Rows.drawTellsSpec).at F).post enc Tryd.prog Tryd.f3 false true false false) := by
  obtain ⟨places, hx⟩ := drawTells_reads os enc
  refine returnsInHanded_of_row (C := Tryd.checked) (s := (OpenSpec.ofChange Rows.drawTellsSpec)) Tryd.own started (by kernel_rfl) Tryd.func3
    (witness_row_at (enc := enc) (C := Tryd.checked) false (World.doorLaid Tryd.prog 14 os) #[.slice none 0 0, .slice none 0 0] rfl (by kernel_rfl) (by kernel_rfl) (by kernel_rfl)
      (OpenSpec.preRow_of_cond 8 hx (by kernel_rfl) (fun k hk => by cases hk) (by kernel_rfl) (drawTells_met os))) ?_
  intro W base args ds gs before hval0 hW _ hcond hsz0 hL _ _
  have hval : ∀ (j : Nat) t v, Tryd.f3.params[j]? = some t → args[j]? = some v → Value.okWide Tryd.prog W .any base t v := hval0
  have hsz : (DataW.weightsEach Tryd.prog (Tryd.f3.params.toList ++ Rows.drawTellsSpec.plain.varTypes Tryd.prog) (ds ++ gs)).all (· ≤ reachBytes) = true := hsz0
  have hW' := hW
  obtain ⟨p, q, hA0, hV, rfl, hfz, hnd⟩ := hW
  have hA : DataW.TrodAll enc Tryd.prog W 0 (fun _ => true) true Tryd.f3.params.toList args.toList ds p := hA0
  rw [Tryd.params3] at hA hval hsz
  obtain ⟨v0, v1, d0, d1, p0, p1, rfl, rfl, rfl, h0, h1⟩ := trodAll_two hA
  obtain ⟨rfl, rfl⟩ := trodVars_none hV
  simp only [List.append_nil] at hW'
  have hlt : ∀ x ∈ p0 ++ p1, x.block < W.heap.size := fun x hx => by simpa using hW'.lt x (by simpa using hx)
  have hk0 : ∀ W' : World, Below W.heap.size W W' → DataW.Trod enc Tryd.prog W' 0 (fun b => decide (b < W.heap.size)) true 22 v0 d0 p0 := fun W' hn => Below.trod Tryd.laidOut (by kernel_rfl) (of_decide_eq_true (by kernel_rfl)) h0 hn (fun x hx => hlt x (by simp [hx]))
  obtain ⟨a0, n0, c0, rfl⟩ := okWide_slice Tryd.uBytes (hval 0 22 v0 rfl rfl)
  obtain ⟨fuel0, hf0⟩ := h0
  obtain ⟨l0, low0, hI0, len0⟩ := by_of_trod (u := .slice a0 n0 c0) (by simpa [Value.cells] using hf0)
  have z0 : l0.length ≤ 140737488351232 := by
    obtain ⟨a', c', e, _⟩ := hI0
    have en : n0 = l0.length := by cases e; rfl
    rw [← en]
    rcases len_of_trod (by simpa [Value.cells] using hf0) with ⟨_, h⟩ | ⟨es, sp, hd, h⟩
    · omega
    · simp only at hd
      subst hd
      have := sized_slice hsz (j := 0) (t := 22) (e := 5) rfl rfl Tryd.uBytes
      rw [Tryd.bytesU8] at this
      simp only [reachBytes] at this
      omega
  have hk1 : ∀ W' : World, Below W.heap.size W W' → DataW.Trod enc Tryd.prog W' 0 (fun b => decide (b < W.heap.size)) true 23 v1 d1 p1 := fun W' hn => Below.trod Tryd.laidOut (by kernel_rfl) (of_decide_eq_true (by kernel_rfl)) h1 hn (fun x hx => hlt x (by simp [hx]))
  obtain ⟨a1, n1, c1, rfl⟩ := okWide_slice uDws (hval 1 23 v1 rfl rfl)
  obtain ⟨fuel1, hf1⟩ := h1
  obtain ⟨l1, low1, hI1⟩ := dws_open (u := .slice a1 n1 c1) (by simpa [Value.cells] using hf1)
  refine (drawTells_law _ l0 low0 z0 _ l1 low1 W hI0 hI1 (ktab_two hL) (rtab_two hL)).mono fun e W' ⟨he, hg⟩ => ?_
  subst he
  exact ⟨_, rfl, _, _, _, [], _, [], hW', trodAll_mk1 (shut_bool Tryd.underlying4 _), trodAll_mk2 (hk0 _ hg) (hk1 _ hg), rfl, hg.frame _, fun h => by cases h⟩

theorem drawTells_holds : Rows.DrawTellsSaid :=
  OpenClaim.holds_of_cond 3 Tryd.f3 rfl rfl rfl rfl rfl rfl rfl ⟨rfl, rfl, rfl, rfl, rfl⟩ rfl rfl rfl rfl rfl (by kernel_rfl) Tryd.func3 (by kernel_rfl)
    (of_decide_eq_true (by kernel_rfl)) (by unfold Func.isWrapper; first | (rw [if_pos (by decide +kernel)]; kernel_rfl) | (rw [if_neg (by decide +kernel)]; exact ⟨rfl, rfl⟩))
    (fun os started H enc _ F => by rw [OpenClaim.pre_eq_preRow]; exact drawTells_lifted os started H enc F)

theorem drawTells_card : Rows.DrawTellsCardSaid :=
  Claim7.holds_tied_plain_at .later [] _ _ _ _ drawTells_holds (fun _ h => by cases h) (by kernel_rfl) (fun _ h => by cases h) drawTells_row_tie rfl ⟨rfl, rfl⟩ (by kernel_rfl) rfl
    (fun f fn hf hfn => by
      obtain rfl : f = 3 := Option.some.inj ((show Tryd.prog.funcNamed "sealring/sealringlaw.DrawTells" = some 3 by kernel_rfl).symm.trans hf) |>.symm
      obtain rfl : fn = Tryd.f3 := (Option.some.inj (Tryd.func3.symm.trans hfn)).symm
      exact ⟨by kernel_rfl, fun j t ht => by
        rw [Tryd.params3] at ht
        have hm : t ∈ [22, 23] := by simpa using Array.mem_of_getElem? ht
        have hall : ([22, 23].all fun u => !Tryd.prog.wantsStandIn u) = true := by kernel_rfl
        exact (show Tryd.prog.wantsStandIn t = false by simpa using List.all_eq_true.1 hall t hm)⟩)
    (by kernel_rfl)
#print axioms drawTells_card
end Go.Proofs.YtfanndkhajokcaaDoor
