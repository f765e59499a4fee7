/- Slices of bytes: what one holds; rows of bytes that a call itself makes, and what append does to one. -/
import Derived.Test.YtepaapiflkkghabQBK
import Derived.WalkKit
import Derived.WalkSpells
import Derived.WalkLawsBesides
import Derived.LoopN
import Derived.OwnWalk
import Derived.Laws.AppendOwn
import Derived.Laws.AppendOwnNone
import Derived.Laws.OwnMore
import Derived.Laws.BytesString
import Derived.Below
namespace Go.Proofs.Ytepaapiflkkghab
open Go.RowKit
theorem Try.uBytes : Try.prog.underlying 33 = some (.slice 5) := by kernel_rfl
theorem Try.uU8 : Try.prog.underlying 5 = some (.int .u8) := by kernel_rfl
theorem Try.uStr : Try.prog.underlying 9 = some .string := by kernel_rfl
theorem Try.iU8 : (Try.prog.info? 5).map (fun i => (i.zero, i.size, i.bytes)) = some (some (.int .u8 0), 1, 1) := by kernel_rfl
theorem lt_of_cellB {w : World} {b o : Nat} {v : Value} (h : w.cell? ⟨b, o, none⟩ = some v) : b < w.heap.size := World.block_lt_of_cell? w ⟨b, o, none⟩ h
theorem cell_top {w : World} {cs : Array Value} {t : TypeId} {k j : Nat} (hk : k = w.heap.size) : (w.alloc (.cells cs t)).cell? ⟨k, j, none⟩ = cs[j]? := by
  subst hk
  unfold World.cell?
  rw [heap_alloc_new w (.cells cs t)]
  simp
/-- The slice v holds the bytes xs. -/
def By (w : World) (v : Value) (xs : List Nat) : Prop :=
  ∃ a c, v = .slice a xs.length c ∧ xs.length ≤ c ∧ (a = none → c = 0) ∧ (0 < xs.length → ∃ b o, a = some ⟨b, o, none⟩ ∧ ∀ j, j < xs.length → w.cell? ⟨b, o + j, none⟩ = some (b8 (xs.getD j 0)))
theorem By.nil (w : World) : By w (.slice none 0 0) [] := ⟨none, 0, rfl, Nat.le_refl _, fun _ => rfl, fun h => absurd h (Nat.lt_irrefl _)⟩
theorem By.up {W w1 : World} {v : Value} {xs : List Nat} {B : Nat} (h : By W v xs) (hb : Below B W w1) (hB : W.heap.size ≤ B) : By w1 v xs := by
  obtain ⟨a, c, e, h1, h2, h3⟩ := h
  refine ⟨a, c, e, h1, h2, fun hp => ?_⟩
  obtain ⟨b, o, e2, hc⟩ := h3 hp
  exact ⟨b, o, e2, fun j hj => (hb.cell (p := ⟨b, o + j, none⟩) (Nat.lt_of_lt_of_le (lt_of_cellB (hc j hj)) hB)).trans (hc j hj)⟩
theorem By.of_cells {w : World} {b o c : Nat} {xs : List Nat} (h1 : xs.length ≤ c) (hc : ∀ j, j < xs.length → w.cell? ⟨b, o + j, none⟩ = some (b8 (xs.getD j 0))) : By w (.slice (some ⟨b, o, none⟩) xs.length c) xs :=
  ⟨_, c, rfl, h1, (fun h => by cases h), fun _ => ⟨b, o, rfl, hc⟩⟩
theorem By.one {w : World} {b : Nat} {x : Nat} (h : w.cell? ⟨b, 0, none⟩ = some (b8 x)) : By w (.slice (some ⟨b, 0, none⟩) 1 1) [x] :=
  By.of_cells (xs := [x]) (Nat.le_refl _) fun j hj => by match j, hj with | 0, _ => simpa using h
theorem By.two {w : World} {b : Nat} {x y : Nat} (h : w.cell? ⟨b, 0, none⟩ = some (b8 x)) (h1 : w.cell? ⟨b, 1, none⟩ = some (b8 y)) : By w (.slice (some ⟨b, 0, none⟩) 2 2) [x, y] :=
  By.of_cells (xs := [x, y]) (Nat.le_refl _) fun j hj => by match j, hj with | 0, _ => simpa using h | 1, _ => simpa using h1
theorem By.three {w : World} {b : Nat} {x y z : Nat} (h : w.cell? ⟨b, 0, none⟩ = some (b8 x)) (h1 : w.cell? ⟨b, 1, none⟩ = some (b8 y)) (h2 : w.cell? ⟨b, 2, none⟩ = some (b8 z)) : By w (.slice (some ⟨b, 0, none⟩) 3 3) [x, y, z] :=
  By.of_cells (xs := [x, y, z]) (Nat.le_refl _) fun j hj => by match j, hj with | 0, _ => simpa using h | 1, _ => simpa using h1 | 2, _ => simpa using h2
theorem By.four {w : World} {b : Nat} {x y z t : Nat} (h : w.cell? ⟨b, 0, none⟩ = some (b8 x)) (h1 : w.cell? ⟨b, 1, none⟩ = some (b8 y)) (h2 : w.cell? ⟨b, 2, none⟩ = some (b8 z)) (h3 : w.cell? ⟨b, 3, none⟩ = some (b8 t)) : By w (.slice (some ⟨b, 0, none⟩) 4 4) [x, y, z, t] :=
  By.of_cells (xs := [x, y, z, t]) (Nat.le_refl _) fun j hj => by match j, hj with | 0, _ => simpa using h | 1, _ => simpa using h1 | 2, _ => simpa using h2 | 3, _ => simpa using h3
/-- The slice v is a row of bytes that the call made (its block from B on), and holds xs. -/
def Ob (w : World) (B : Nat) (v : Value) (xs : List Nat) : Prop := w.ownsRow B 5 1 v xs.length (xs.map b8)
theorem Ob.nil (w : World) (B : Nat) : Ob w B (.slice none 0 0) [] := World.ownsRow_nil _ _ _ _
theorem Ob.up {W w1 : World} {B : Nat} {v : Value} {xs : List Nat} (h : Ob W B v xs) (hb : Below W.heap.size W w1) : Ob w1 B v xs := by
  refine ⟨h.1, ?_⟩
  rcases h.2 with h' | ⟨g, cap, cur, e, hB, hg, rest⟩
  · exact .inl h'
  · exact .inr ⟨g, cap, cur, e, hB, (hb.block g (Array.getElem?_eq_some_iff.1 hg).1).trans hg, rest⟩
theorem Ob.by {w : World} {B : Nat} {v : Value} {xs : List Nat} (h : Ob w B v xs) : By w v xs := by
  rcases h.2 with ⟨e, e2⟩ | ⟨g, cap, cur, e, hB, hg, hn, rest⟩
  · rw [List.length_eq_zero_iff.1 e2, e]
    exact By.nil w
  · rw [e]
    refine By.of_cells hn fun j hj => ?_
    have h2 : w.ownsRow B 5 1 (.slice (some ⟨g, 0, none⟩) xs.length cap) xs.length (xs.map b8) := by rw [← e]; exact h
    rw [Nat.zero_add, h2.cellAt j (by omega)]
    simp [hj, b8]
theorem Ob.obj {w : World} {B : Nat} {v : Value} {xs : List Nat} (h : Ob w B v xs) {g : Nat} (hg : v.ownBlock = some g) : ∃ cur, w.heap[g]? = some (.cells cur 5 (0, 0)) := by
  rcases h.2 with ⟨e, e2⟩ | ⟨g', cap, cur, e, hB, hg', hn, rest⟩
  · rw [e] at hg; cases hg
  · rw [e] at hg
    obtain rfl : g' = g := Option.some.inj hg
    exact ⟨cur, hg'⟩
theorem Ob.mono {w : World} {A B : Nat} {v : Value} {xs : List Nat} (h : Ob w B v xs) (hab : A ≤ B) : Ob w A v xs := by
  refine ⟨h.1, ?_⟩
  rcases h.2 with h' | ⟨g, cap, cur, e, hB, rest⟩
  · exact .inl h'
  · exact .inr ⟨g, cap, cur, e, Nat.le_trans hab hB, rest⟩
/-- append of bytes to a row that the call made. -/
theorem wp_appB {ops : Array Oper} {rest : List Oper} {o : Oper} {a : Act} {Q : Exit → Act → World → Prop} {w : World} (hgd : o.guard = none) (s x : Operand)
    (ho : o.op = .call { callee := .builtin .append, args := #[s, x], argTypes := #[33, 33] })
    (B : Nat) (v u : Value) (xs ys : List Nat) (W0 : World) (hs : a.eval s = v) (hown : Ob W0 B v xs) (hup : Below W0.heap.size W0 w) (hx : a.eval x = u) (hy : By w u ys)
    (hl : xs.length + ys.length ≤ 140737488355328) (hB : B ≤ W0.heap.size) (h : ∀ v' w', Ob w' B v' (xs ++ ys) → w.grownBy w' v.ownBlock → Below B W0 w' → wpList Try.prog ops Q rest (a.put o.dst v') w') : wpList Try.prog ops Q (o :: rest) a w := by
  obtain ⟨i0, hi, hz0, hz1, hz2⟩ := info_parts Try.iU8
  have hs0 := hup.size
  obtain ⟨ad, c, rfl, hyc, hn, hcells⟩ := hy
  cases ad with
  | none =>
    have hc0 := hn rfl
    have hy0 : ys = [] := List.length_eq_zero_iff.1 (by omega)
    subst hc0 hy0
    refine wpList_append_own_none hgd s x 33 ho B 5 i0 1 Try.uBytes hi v xs.length (xs.map b8) hs (hown.up hup) hx ?_
    exact h v w (by rw [List.append_nil]; exact hown.up hup) (World.grownBy.refl _ _) (hup.mono hB)
  | some ad =>
    refine wpList_append_own w hgd s x 33 ho B 5 i0 (.int .u8 0) 1 1 Try.uBytes hi hz0 hz1 hz2 rfl (by decide) v xs.length (xs.map b8) hs (hown.up hup) ad ys.length c (ys.map b8) hx (by simp) ?_ ?_ ?_ ?_ ?_ ?_
    · intro j u hj
      have hj2 : j < ys.length := by
        have := (List.getElem?_eq_some_iff.1 hj).1
        simpa using this
      obtain ⟨b, o', e, hc⟩ := hcells (by omega)
      obtain rfl : ad = ⟨b, o', none⟩ := Option.some.inj e
      have := hc j hj2
      rw [List.getElem?_map, List.getElem?_eq_getElem hj2] at hj
      simp at hj
      simp only [List.getD_eq_getElem?_getD, List.getElem?_eq_getElem hj2, Option.getD_some] at this
      subst hj
      rw [Addr.add_lit]
      exact this
    · intro u hu
      simp at hu
      obtain ⟨y, _, rfl⟩ := hu
      rfl
    · unfold maxLen; omega
    · omega
    · omega
    · intro v' w' hown' hg _
      refine h v' w' ?_ hg ?_
      · unfold Ob
        rw [List.map_append, List.length_append]
        exact hown'
      · refine Below.grown (hup.mono hB) hg (by omega) fun k hk => ?_
        exact ((hown.up hup).lt k hk).1
/-- The text of bytes. -/
def sOf (xs : List Nat) : ByteArray := ⟨(xs.map UInt8.ofNat).toArray⟩
theorem foldl_push : ∀ (l : List Nat) (s : ByteArray), (l.map fun n => ((n : Nat) : Int)).foldl (fun r n => r.push (UInt8.ofNat n.toNat)) s = ⟨s.data ++ (l.map UInt8.ofNat).toArray⟩
  | [], s => by simp
  | n :: l, s => by
    rw [List.map_cons, List.foldl_cons, foldl_push l]
    apply ByteArray.ext
    simp [ByteArray.push]
theorem bytes_conv {w : World} {v : Value} {xs : List Nat} (h : By w v xs) : (convert 33 9 v).run Try.prog w = .ok (.string (sOf xs)) w := by
  obtain ⟨a, c, rfl, h1, h2, h3⟩ := h
  rw [run_convert_bytes_string w _ _ 5 a _ c Try.uBytes Try.uU8 Try.uStr]
  cases a with
  | none =>
    have : xs = [] := List.length_eq_zero_iff.1 (by have := h2 rfl; omega)
    subst this
    simp [Conv.bytesToString, sOf, Sem.run_pure]
    rfl
  | some a =>
    rw [run_bytesToString w a _ c (xs.map fun n => ((n : Nat) : Int)) ?_, foldl_push]
    · simp [sOf, ByteArray.empty, ByteArray.emptyWithCapacity]
      rfl
    · have := run_loadCells_list (P := Try.prog) (w := w) a ((xs.map fun n => ((n : Nat) : Int)).map (Value.int .u8)) (fun j v hj => ?_)
      · rw [List.length_map, List.length_map] at this
        exact this
      · have hj2 : j < xs.length := by
          have := (List.getElem?_eq_some_iff.1 hj).1
          simpa using this
        obtain ⟨b, o, e, hc⟩ := h3 (by omega)
        obtain rfl : a = ⟨b, o, none⟩ := Option.some.inj e
        have := hc j hj2
        rw [List.getElem?_map, List.getElem?_map, List.getElem?_eq_getElem hj2] at hj
        simp at hj
        simp only [List.getD_eq_getElem?_getD, List.getElem?_eq_getElem hj2, Option.getD_some] at this
        subst hj
        rw [Addr.add_lit]
        exact this
theorem wp_conv {ops : Array Oper} {rest : List Oper} {o : Oper} {a : Act} {Q : Exit → Act → World → Prop} {w : World} (hgd : o.guard = none) (x : Operand)
    (ho : o.op = .convert 33 9 x) (u : Value) (xs : List Nat) (hx : a.eval x = u) (h : By w u xs) (hK : wpList Try.prog ops Q rest (a.put o.dst (.string (sOf xs))) w) : wpList Try.prog ops Q (o :: rest) a w := by
  refine wpList_plain hgd fun K hK2 => ?_
  unfold Oper.wp
  simp [execOp, ho, hx, bytes_conv h, Result.andThen]
  exact hK2 _ _ hK
theorem sOf_data (xs : List Nat) : (sOf xs).data.toList = xs.map UInt8.ofNat := by simp [sOf]
theorem map_u8_inj : ∀ {xs ys : List Nat}, (∀ x ∈ xs, x < 256) → (∀ y ∈ ys, y < 256) → xs.map UInt8.ofNat = ys.map UInt8.ofNat → xs = ys
  | [], [], _, _, _ => rfl
  | [], y :: ys, _, _, h => by simp at h
  | x :: xs, [], _, _, h => by simp at h
  | x :: xs, y :: ys, hx, hy, h => by
    simp only [List.map_cons, List.cons.injEq] at h
    have e := congrArg UInt8.toNat h.1
    have h1 := hx x (by simp)
    have h2 := hy y (by simp)
    rw [UInt8.toNat_ofNat', UInt8.toNat_ofNat', Nat.mod_eq_of_lt h1, Nat.mod_eq_of_lt h2] at e
    rw [e, map_u8_inj (fun z hz => hx z (by simp [hz])) (fun z hz => hy z (by simp [hz])) h.2]
theorem sOf_beq {xs ys : List Nat} (hx : ∀ x ∈ xs, x < 256) (hy : ∀ y ∈ ys, y < 256) : ((sOf xs).toList == (sOf ys).toList) = decide (xs = ys) := by
  rw [ByteArray.toList_eq, ByteArray.toList_eq, sOf_data, sOf_data]
  by_cases h : xs = ys
  · subst h; simp
  · have : ¬ xs.map UInt8.ofNat = ys.map UInt8.ofNat := fun e => h (map_u8_inj hx hy e)
    simp [h, this]
end Go.Proofs.Ytepaapiflkkghab
